/- The plain mathematics of a formula in normal form: which clause stands where, and that it is satisfied by the same assignments. -/
import Derived.Test.YtllgepabjglnaaaNormA
import Derived.Test.YtllgepabjglnaaaRawMath
namespace Go.Proofs.Ytllgepabjglnaaa

theorem normForm_append (a b : List (List Int)) : normForm (a ++ b) = normForm a ++ normForm b := by unfold normForm; rw [List.filter_append, List.map_append]
theorem normForm_get {xss : List (List Int)} {i : Nat} (h : i < xss.length) (ht : tautOf (xss.getD i []) = false) :
    (normForm (xss.take i)).length < (normForm xss).length ∧ (normForm xss).getD (normForm (xss.take i)).length [] = normOf (xss.getD i []) := by
  have e : normForm xss = normForm (xss.take i) ++ (normOf (xss.getD i []) :: normForm (xss.drop (i + 1))) := by
    have h1 : xss = xss.take i ++ xss.drop i := (List.take_append_drop i xss).symm
    have h2 := drop_getD [] xss i h
    conv => lhs; rw [h1, normForm_append, h2]
    congr 1
    unfold normForm
    rw [List.filter_cons, ht]
    rfl
  rw [e]
  constructor
  · simp
  · simp [List.getD]
theorem normForm_taut {xss : List (List Int)} {i : Nat} (h : i < xss.length) (ht : tautOf (xss.getD i []) = true) : normForm (xss.take (i + 1)) = normForm (xss.take i) := by
  rw [normForm_take h, ht]; simp
theorem normForm_next {xss : List (List Int)} {i : Nat} (h : i < xss.length) (ht : tautOf (xss.getD i []) = false) : normForm (xss.take (i + 1)) = normForm (xss.take i) ++ [normOf (xss.getD i [])] := by
  rw [normForm_take h, ht]; rfl
theorem norm_empty (c : List Int) : (normOf c).isEmpty = c.isEmpty := by
  rw [Bool.eq_iff_iff, List.isEmpty_iff, List.isEmpty_iff]
  constructor
  · intro h
    cases c with
    | nil => rfl
    | cons x r =>
      have := mem_normOf (y := x) (c := x :: r)
      rw [h] at this
      have := this.2 (by simp)
      cases this
  · rintro rfl; rfl
theorem clauseSat_norm (z : List Bool) (c : List Int) : clauseSat z (normOf c) = clauseSat z c := by
  unfold clauseSat
  rw [Bool.eq_iff_iff, List.any_eq_true, List.any_eq_true]
  constructor <;> rintro ⟨x, hx, h⟩
  · exact ⟨x, mem_normOf.1 hx, h⟩
  · exact ⟨x, mem_normOf.2 hx, h⟩
theorem taut_sat {z : List Bool} {c : List Int} (hb : ∀ l ∈ c, l ≠ 0 ∧ -(z.length : Int) ≤ l ∧ l ≤ z.length) (ht : tautOf c = true) : clauseSat z c = true := by
  obtain ⟨x, hx, hnx⟩ := tautOf_iff.1 ht
  have hxb := hb x hx
  unfold clauseSat
  rw [List.any_eq_true]
  have hv : 1 ≤ litVar x ∧ litVar x ≤ z.length := by
    constructor
    · unfold litVar; split <;> omega
    · exact litVar_le hxb.2.1 hxb.2.2
  rcases hb1 : litHolds x z.length (fun j => z.getD j false) with _ | _
  · refine ⟨-x, hnx, ?_⟩
    unfold litHolds at hb1 ⊢
    rw [litVar_opp, if_pos hv]
    rw [if_pos hv] at hb1
    rcases Int.lt_trichotomy x 0 with hlt | heq | hgt
    · rw [decide_eq_false (show ¬ 0 < x by omega)] at hb1
      rw [decide_eq_true (show 0 < -x by omega)]
      simp at hb1 ⊢
      exact hb1
    · exact absurd heq hxb.1
    · rw [decide_eq_true hgt] at hb1
      rw [decide_eq_false (show ¬ 0 < -x by omega)]
      simp at hb1 ⊢
      exact hb1
  · exact ⟨x, hx, hb1⟩
theorem norm_sat {z : List Bool} {xss : List (List Int)} (hb : ∀ c ∈ xss, ∀ l ∈ c, l ≠ 0 ∧ -(z.length : Int) ≤ l ∧ l ≤ z.length) : formSat z (normForm xss) = formSat z xss := by
  unfold formSat normForm
  rw [Bool.eq_iff_iff, List.all_eq_true, List.all_eq_true]
  constructor
  · intro h c hc
    rcases ht : tautOf c with _ | _
    · have := h (normOf c) (List.mem_map.2 ⟨c, List.mem_filter.2 ⟨hc, by rw [ht]; rfl⟩, rfl⟩)
      rwa [clauseSat_norm] at this
    · exact taut_sat (hb c hc) ht
  · intro h y hy
    obtain ⟨c, hc, rfl⟩ := List.mem_map.1 hy
    rw [clauseSat_norm]
    exact h c (List.mem_filter.1 hc).1
theorem normForm_mem {xss : List (List Int)} {y : List Int} (h : y ∈ normForm xss) : ∃ c ∈ xss, y = normOf c := by
  unfold normForm at h
  obtain ⟨c, hc, rfl⟩ := List.mem_map.1 h
  exact ⟨c, (List.mem_filter.1 hc).1, rfl⟩

/-- a light formula: few short clauses of few variables -/
structure LightForm (F : Nat) (xss : List (List Int)) : Prop where
  few : xss.length ≤ 40
  short : ∀ c ∈ xss, c.length ≤ 9
  lits : ∀ c ∈ xss, ∀ l ∈ c, l ≠ 0 ∧ -(F : Int) ≤ l ∧ l ≤ F
theorem lightForm_raw {F : Nat} {nss : List (List Int)} (h : light nss 40 = true) : LightForm F (rawForm F 9 nss) := by
  obtain ⟨h1, h2⟩ := light_iff.1 h
  refine ⟨by rw [rawForm_len]; exact h2, fun c hc => ?_, fun c hc l hl => ?_⟩
  · obtain ⟨d, _, rfl⟩ := List.mem_map.1 hc
    exact (rawClause_len F 9 d).2
  · obtain ⟨d, _, rfl⟩ := List.mem_map.1 hc
    have := rawClause_bd hl
    exact this.2
theorem LightForm.norm {F : Nat} {xss : List (List Int)} (h : LightForm F xss) : LightForm F (normForm xss) := by
  refine ⟨Nat.le_trans (normForm_len xss) h.few, fun c hc => ?_, fun c hc l hl => ?_⟩
  · obtain ⟨d, hd, rfl⟩ := normForm_mem hc
    exact Nat.le_trans (norm_len d) (h.short d hd)
  · obtain ⟨d, hd, rfl⟩ := normForm_mem hc
    exact h.lits d hd l (mem_normOf.1 hl)
theorem LightForm.mem {F : Nat} {xss : List (List Int)} (_h : LightForm F xss) (j : Nat) : xss.getD j [] = [] ∨ xss.getD j [] ∈ xss := by
  by_cases hj : j < xss.length
  · right; simp only [List.getD, List.getElem?_eq_getElem hj, Option.getD_some]; exact List.getElem_mem hj
  · left; simp only [List.getD, List.getElem?_eq_none (Nat.le_of_not_lt hj), Option.getD_none]
theorem LightForm.len {F : Nat} {xss : List (List Int)} (h : LightForm F xss) (j : Nat) : (xss.getD j []).length ≤ 9 := by
  rcases h.mem j with e | e
  · rw [e]; simp
  · exact h.short _ e
theorem LightForm.bd {F : Nat} {xss : List (List Int)} (h : LightForm F xss) (j k : Nat) : -(F : Int) ≤ (xss.getD j []).getD k 0 ∧ (xss.getD j []).getD k 0 ≤ F := by
  rcases h.mem j with e | e
  · rw [e]; simp
  · by_cases hk : k < (xss.getD j []).length
    · have := h.lits _ e _ (List.getElem_mem hk)
      rw [show (xss.getD j []).getD k 0 = (xss.getD j [])[k] by rw [List.getD, List.getElem?_eq_getElem hk]; rfl]
      exact this.2
    · rw [show (xss.getD j []).getD k 0 = 0 by rw [List.getD, List.getElem?_eq_none (by omega)]; rfl]
      omega
theorem LightForm.lit {F : Nat} {xss : List (List Int)} (h : LightForm F xss) (hF : F ≤ 1000) (j : Nat) : Lits (xss.getD j []) := by
  refine ⟨by have := h.len j; omega, fun x hx => ?_⟩
  rcases h.mem j with e | e
  · rw [e] at hx; cases hx
  · have := h.lits _ e x hx; omega
theorem light_rows {nss : List (List Int)} (h : light nss 40 = true) : nss.length ≤ 1099511627776 ∧ ∀ j, (nss.getD j []).length ≤ 1099511627776 := by
  obtain ⟨h1, h2⟩ := light_iff.1 h
  refine ⟨by omega, fun j => ?_⟩
  by_cases hj : j < nss.length
  · have h3 := litCount_take hj
    have h4 := litCount_take_le nss (j + 1)
    omega
  · rw [List.getD, List.getElem?_eq_none (by omega)]; simp
end Go.Proofs.Ytllgepabjglnaaa
