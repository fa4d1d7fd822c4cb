/- Rows of one's own that are written to, whatever is written. -/
import Derived.Test.YtbejjddkndcldaaSt14
import Derived.Test.YtbejjddkndcldaaCells2
namespace Go.Proofs.Ytbejjddkndcldaa
open Go.RowKit
set_option linter.unusedVariables false
set_option linter.unusedSimpArgs false

/-- what stands at a place of a row of one's own -/
theorem OwnList.elem14 {w : World} {base : Nat} {ei : TypeId} {vs : List Value} {yss : List (List Int)} {i k ci li : Nat} {Ai : Option Addr} (h : OwnList w base ei vs yss) (hi : i < yss.length) (hv : vs[i]? = some (.slice Ai li ci)) (hk : k < (yss.getD i []).length) :
    ∃ g, Ai = some ⟨g, 0, none⟩ ∧ li = (yss.getD i []).length ∧ w.cell? ⟨g, k, none⟩ = some (.int .i64 ((yss.getD i []).getD k 0)) ∧ w.frozen? ⟨g, k, none⟩ = false := by
  obtain ⟨Ai', ci', h1, h2⟩ := h.each i hi
  rw [hv] at h1
  injection h1 with h1
  injection h1 with e1 e2 e3
  subst e1 e3
  obtain ⟨g, hA, hg1, hg2⟩ := own_addr h2 (by omega)
  subst hA
  refine ⟨g, rfl, e2, ?_, World.ownsRow.frozenAt h2 k⟩
  rw [World.ownsRow.cellAt h2 k (by omega)]
  have e : (yss.getD i []).getD k 0 = (yss.getD i [])[k] := by rw [List.getD_eq_getElem?_getD, List.getElem?_eq_getElem hk]; rfl
  rw [List.getElem?_map, List.getElem?_eq_getElem hk, e]
  rfl
/-- a block that holds one of the rows -/
def OB (us : List Value) (n q : Nat) : Prop := ∃ j, j < n ∧ ((us[j]?).getD undef).ownBlock = some q
/-- of the same shape, small numbers throughout -/
structure Shp (xss yss : List (List Int)) : Prop where
  len : yss.length = xss.length
  lens : ∀ j, (yss.getD j []).length = (xss.getD j []).length
  bd : ∀ j k, -12 ≤ (yss.getD j []).getD k 0 ∧ (yss.getD j []).getD k 0 ≤ 12
theorem Shp.refl {F : Nat} {xss : List (List Int)} (h : LightForm F xss) (hF : F ≤ 12) : Shp xss xss := by
  refine ⟨rfl, fun _ => rfl, fun j k => ?_⟩
  by_cases hj : j < xss.length
  · by_cases hk : k < (xss.getD j []).length
    · have := h.lits (xss.getD j []) (by simp only [List.getD, List.getElem?_eq_getElem hj, Option.getD_some]; exact List.getElem_mem hj) ((xss.getD j []).getD k 0) (by
        have e : (xss.getD j []).getD k 0 = (xss.getD j [])[k] := by rw [List.getD_eq_getElem?_getD, List.getElem?_eq_getElem hk]; rfl
        rw [e]; exact List.getElem_mem hk)
      omega
    · rw [show (xss.getD j []).getD k 0 = 0 by rw [List.getD_eq_getElem?_getD, List.getElem?_eq_none (by omega)]; rfl]
      omega
  · rw [show xss.getD j [] = [] by rw [List.getD_eq_getElem?_getD, List.getElem?_eq_none (by omega)]; rfl]
    simp
theorem getD_set_row (yss : List (List Int)) (i j : Nat) (r : List Int) : (yss.set i r).getD j [] = if i = j ∧ i < yss.length then r else yss.getD j [] := by
  rw [List.getD_eq_getElem?_getD, List.getD_eq_getElem?_getD, List.getElem?_set]
  by_cases h : i = j
  · subst h
    by_cases hl : i < yss.length
    · simp [hl]
    · simp [hl]
  · simp [h]
theorem Shp.set {xss yss : List (List Int)} (h : Shp xss yss) (i k : Nat) {y : Int} (hy : -12 ≤ y ∧ y ≤ 12) : Shp xss (yss.set i ((yss.getD i []).set k y)) := by
  refine ⟨by rw [List.length_set]; exact h.len, fun j => ?_, fun j m => ?_⟩
  · rw [getD_set_row]
    split
    · rename_i hc
      rw [List.length_set, hc.1]
      exact h.lens j
    · exact h.lens j
  · rw [getD_set_row]
    split
    · rename_i hc
      have hb := h.bd i m
      rw [List.getD_eq_getElem?_getD] at hb
      rw [List.getD_eq_getElem?_getD, List.getElem?_set]
      split
      · split
        · exact hy
        · simp
      · exact hb
    · exact h.bd j m
end Go.Proofs.Ytbejjddkndcldaa
