/- local's state: a literal that holds from now on; one that does not any more. -/
import Derived.Test.YtllgepabjglnaaaLoc2
namespace Go.Proofs.Ytllgepabjglnaaa
open Go.RowKit
set_option linter.unusedVariables false
set_option linter.unusedSimpArgs false

def havs (n : Nat) (cls : List (List Int)) : List (List Nat) := (List.range (2 * n)).map fun j => hav cls (litAt (j : Nat))
def MS.of (z : List Bool) (s : LS) (b : BS) : MS := ⟨z, s.cls, s.hss, s.row, havs z.length s.cls, brk s.hss, b⟩
theorem havs_at {n x : Nat} {cls : List (List Int)} {l : Int} (hx : x < 2 * n) (hl : litIndex l = (x : Nat)) : (havs n cls).getD x [] = hav cls l := by
  unfold havs
  rw [List.getD, List.getElem?_map, List.getElem?_range hx]
  show hav cls (litAt (x : Nat)) = _
  rw [← hl, litAt_index]
section
variable {w : World} {ρ : Nat → Nat} {p : Lx} {m : MS}
/-- the names of the blocks that are written -/
theorem LM.names (h : LM w ρ p m) (hc : 0 < m.cls.length) (hz : 0 < m.z.length) : ∃ c K, p.cA = some ⟨c, 0, none⟩ ∧ p.kA = some ⟨K, 0, none⟩ ∧ ρ c = 8 ∧ ρ K = 3 := by
  obtain ⟨xs, x1, x2⟩ := h.cs
  obtain ⟨c, e1, e2, _⟩ := x1.at_ hc
  obtain ⟨K, e3, e4, _⟩ := h.kw.at_ hz
  exact ⟨c, K, e1, e3, e2, e4⟩
theorem LM.clAt (h : LM w ρ p m) {c i : Nat} (hi : i < m.cls.length) (hC : p.cA = some ⟨c, 0, none⟩) :
    w.cell? ⟨c, i * 4 + 1, none⟩ = some (.int .i64 ((m.hss.getD i []).length : Nat)) ∧ w.cell? ⟨c, i * 4 + 2, none⟩ = some (.int .i64 (xr (m.hss.getD i []) : Nat)) ∧ (∀ k, w.frozen? ⟨c, k, none⟩ = false) ∧ c < w.heap.size := by
  obtain ⟨xs, x1, x2⟩ := h.cs
  obtain ⟨c', e1, e2, e3, _, e4, e5⟩ := x1.at_ (by omega)
  rw [hC] at e1
  injection e1 with e1
  injection e1 with e1
  subst e1
  exact ⟨by rw [e4 _ (by omega), x2.c1 i hi], by rw [e4 _ (by omega), x2.c2 i hi], e5, e3⟩
theorem LM.bkAt (h : LM w ρ p m) {K k : Nat} (hk : k < m.z.length) (hK : p.kA = some ⟨K, 0, none⟩) :
    w.cell? ⟨K, k, none⟩ = some (.int .i64 (m.bk (k + 1) : Nat)) ∧ w.frozen? ⟨K, k, none⟩ = false ∧ K < w.heap.size := by
  obtain ⟨c', e1, e2, e3, _, e4, e5⟩ := h.kw.at_ (by omega)
  rw [hK] at e1
  injection e1 with e1
  injection e1 with e1
  subst e1
  exact ⟨by rw [e4 _ (by omega)]; simp [bkV, hk], e5 k, e3⟩
theorem LM.havHd (h : LM w ρ p m) {x : Nat} (hx : x < 2 * m.z.length) : ∃ H A c, p.hA = some ⟨H, 0, none⟩ ∧ w.cell? ⟨H, x, none⟩ = some (.slice A (m.hv.getD x []).length c) ∧ p.hvV[x]? = some (.slice A (m.hv.getD x []).length c) := by
  obtain ⟨H, e1, e2, e3, _, e4, e5⟩ := h.hs.at_ (by omega)
  have hx2 : x < (m.hv.map intsOf).length := by rw [List.length_map, h.hn]; exact hx
  obtain ⟨A, c, k1, k2⟩ := h.hl.at_ hx2
  have e : (m.hv.map intsOf).getD x [] = intsOf (m.hv.getD x []) := by
    have hx3 : x < m.hv.length := by rw [h.hn]; exact hx
    simp [List.getD, hx3]
  have el : (intsOf (m.hv.getD x [])).length = (m.hv.getD x []).length := by simp [intsOf]
  rw [e, el] at k1
  exact ⟨H, A, c, e1, by rw [e4 _ (by omega), k1], k1⟩
theorem LM.havAt (h : LM w ρ p m) {x j n c : Nat} {A : Option Addr} (hx : x < 2 * m.z.length) (hA : p.hvV[x]? = some (.slice A n c)) (hj : j < n) (hn : n = (m.hv.getD x []).length) : ∃ b, A = some ⟨b, 0, none⟩ ∧ w.cell? ⟨b, j, none⟩ = some (.int .i64 ((m.hv.getD x []).getD j 0 : Nat)) := by
  have hx2 : x < (m.hv.map intsOf).length := by rw [List.length_map, h.hn]; exact hx
  obtain ⟨A', c', k1, k2⟩ := h.hl.at_ hx2
  have e : (m.hv.map intsOf).getD x [] = intsOf (m.hv.getD x []) := by
    have hx3 : x < m.hv.length := by rw [h.hn]; exact hx
    simp [List.getD, hx3]
  rw [hA] at k1
  injection k1 with k1
  injection k1 with k1 k3 k4
  subst k1 k4
  rw [e] at k2
  have el : (intsOf (m.hv.getD x [])).length = (m.hv.getD x []).length := by simp [intsOf]
  rw [el, ← hn] at k2
  obtain ⟨b, e1, _, _, _, e4, _⟩ := k2.at_ (by omega)
  refine ⟨b, e1, ?_⟩
  rw [e4 j (by omega)]
  have : j < (m.hv.getD x []).length := by omega
  simp [intsOf, List.getElem?_map, List.getD, List.getElem?_eq_getElem this] at this ⊢
  rw [List.getElem?_eq_getElem this]
  simp
theorem LM.setH (h : LM w ρ p m) {c i : Nat} (hi : i < m.cls.length) (hC : p.cA = some ⟨c, 0, none⟩) (hlen : m.hss.length = m.cls.length) (h' : List Int) :
    LM ((w.setCell ⟨c, i * 4 + 1, none⟩ (.int .i64 (h'.length : Nat))).setCell ⟨c, i * 4 + 2, none⟩ (.int .i64 (xr h' : Nat))) ρ p { m with hss := m.hss.set i h' } ∧
    LStep w ρ ((w.setCell ⟨c, i * 4 + 1, none⟩ (.int .i64 (h'.length : Nat))).setCell ⟨c, i * 4 + 2, none⟩ (.int .i64 (xr h' : Nat))) ρ := by
  obtain ⟨xs, x1, x2⟩ := h.cs
  have hcc : ρ c = 8 := x1.2 c (by rw [hC]; rfl)
  have gc : p.g ≠ c := fun e => by rw [← e, h.sr] at hcc; cases hcc
  have S : Stay w ((w.setCell ⟨c, i * 4 + 1, none⟩ (.int .i64 (h'.length : Nat))).setCell ⟨c, i * 4 + 2, none⟩ (.int .i64 (xr h' : Nat))) ρ [8] := (Stay.refl.set (by rw [hcc]; decide) _ _).set (by rw [hcc]; decide) _ _
  refine ⟨⟨fun q hq => Nat.lt_of_lt_of_le (h.fresh q hq) S.1, (h.str.far gc _).far gc _, h.sr, S.oz h.vs (by decide), ?_, h.rin, S.olr h.ls (by decide), h.lc, S.oz h.hs (by decide), S.olr h.hl (by decide), h.hn, S.oz h.rw_ (by decide), S.oz h.kw (by decide), S.oz h.sw (by decide), h.e0, fun a ha => ⟨(h.ew a ha).1, S.oz (h.ew a ha).2 (by decide)⟩⟩, S.step (by decide) rfl rfl rfl⟩
  have y1 := x1
  rw [hC] at y1
  have y2 := (y1.stored (i * 4 + 1) (.int .i64 (h'.length : Nat))).stored (i * 4 + 2) (.int .i64 (xr h' : Nat))
  rw [← hC] at y2
  have hg : ∀ j, (m.hss.set i h').getD j [] = if i = j then h' else m.hss.getD j [] := fun j => by
    rw [getD_set]
    by_cases e : i = j
    · rw [if_pos ⟨e, by omega⟩, if_pos e]
    · rw [if_neg (fun x => e x.1), if_neg e]
  refine ⟨_, y2, fun j hj => ?_, fun j hj => ?_, fun j hj => ?_, fun j hj => ?_, fun a j hj => ?_⟩
  · rw [set_other (by omega), set_other (by omega)]; exact x2.c0 j hj
  · show _ = some (Value.int .i64 (((m.hss.set i h').getD j []).length : Nat))
    rw [hg]
    by_cases e : i = j
    · subst e
      rw [if_pos rfl, set_other (by omega)]
      exact set_same (x2.c1 i hj)
    · rw [if_neg e, set_other (by omega), set_other (by omega)]; exact x2.c1 j hj
  · show _ = some (Value.int .i64 (xr ((m.hss.set i h').getD j []) : Nat))
    rw [hg]
    by_cases e : i = j
    · subst e
      rw [if_pos rfl]
      exact set_same ((set_other (by omega)).trans (x2.c2 i hj))
    · rw [if_neg e, set_other (by omega), set_other (by omega)]; exact x2.c2 j hj
  · rw [set_other (by omega), set_other (by omega)]; exact x2.c3 j hj
  · rw [set_other (by omega), set_other (by omega)]; exact x2.pl a j hj
theorem LM.setBk (h : LM w ρ p m) {K k : Nat} (hk : k < m.z.length) (hK : p.kA = some ⟨K, 0, none⟩) (x : Nat) :
    LM (w.setCell ⟨K, k, none⟩ (.int .i64 (x : Nat))) ρ p { m with bk := fun v => if v = k + 1 then x else m.bk v } ∧ LStep w ρ (w.setCell ⟨K, k, none⟩ (.int .i64 (x : Nat))) ρ := by
  have hKK : ρ K = 3 := h.kw.2 K (by rw [hK]; rfl)
  have gK : p.g ≠ K := fun e => by rw [← e, h.sr] at hKK; cases hKK
  have S : Stay w (w.setCell ⟨K, k, none⟩ (.int .i64 (x : Nat))) ρ [3] := Stay.refl.set (by rw [hKK]; decide) _ _
  obtain ⟨xs, x1, x2⟩ := h.cs
  refine ⟨⟨fun q hq => Nat.lt_of_lt_of_le (h.fresh q hq) S.1, h.str.far gK _, h.sr, S.oz h.vs (by decide), ⟨xs, S.oz x1 (by decide), ⟨x2.c0, x2.c1, x2.c2, x2.c3, x2.pl⟩⟩, h.rin, S.olr h.ls (by decide), h.lc, S.oz h.hs (by decide), S.olr h.hl (by decide), h.hn, S.oz h.rw_ (by decide), ?_, S.oz h.sw (by decide), h.e0, fun a ha => ⟨(h.ew a ha).1, S.oz (h.ew a ha).2 (by decide)⟩⟩, S.step (by decide) rfl rfl rfl⟩
  have y1 := h.kw
  rw [hK] at y1
  have y2 := y1.stored k (.int .i64 (x : Nat))
  rw [← hK] at y2
  have e : bkV m.z.length (fun v => if v = k + 1 then x else m.bk v) = (bkV m.z.length m.bk).set k (.int .i64 (x : Nat)) := by
    apply List.ext_getElem?
    intro j
    rw [List.getElem?_set]
    by_cases ej : k = j
    · subst ej
      rw [if_pos rfl, if_pos (by simpa [bkV] using hk)]
      simp [bkV, hk]
    · rw [if_neg ej]
      unfold bkV
      rw [List.getElem?_map, List.getElem?_map]
      by_cases hj : j < m.z.length
      · rw [List.getElem?_range hj]
        simp only [Option.map_some]
        rw [if_neg (by omega)]
      · rw [List.getElem?_eq_none (by simpa using hj)]
        rfl
  rw [e]
  exact y2
theorem LM.bkCongr {f : Nat → Nat} (h : LM w ρ p m) (hf : ∀ v, 1 ≤ v → v ≤ m.z.length → m.bk v = f v) : LM w ρ p { m with bk := f } := by
  have e : bkV m.z.length f = bkV m.z.length m.bk := List.map_congr_left fun k hk => by
    have := List.mem_range.1 hk
    rw [hf (k + 1) (by omega) (by omega)]
  obtain ⟨xs, x1, x2⟩ := h.cs
  exact ⟨h.fresh, h.str, h.sr, h.vs, ⟨xs, x1, ⟨x2.c0, x2.c1, x2.c2, x2.c3, x2.pl⟩⟩, h.rin, h.ls, h.lc, h.hs, h.hl, h.hn, h.rw_, by rw [e]; exact h.kw, h.sw, h.e0, h.ew⟩
end
theorem sole_one (v : Nat) (x : Int) : soleOf v [x] = decide (x.natAbs = v) := by
  unfold soleOf
  rw [Bool.eq_iff_iff]
  simp [xr]
theorem sole_ne {h : List Int} (hl : h.length ≠ 1) (v : Nat) : soleOf v h = false := by
  unfold soleOf
  simp [hl]
/-- what the breaks become where a literal more holds -/
theorem brk_gain0 {hss : List (List Int)} {i : Nat} (hi : i < hss.length) (h0 : hss.getD i [] = []) (l : Int) (v : Nat) : brk (hss.set i (l :: hss.getD i [])) v = if v = l.natAbs then brk hss v + 1 else brk hss v := by
  have := brk_set hi (l :: hss.getD i []) v
  rw [h0, sole_one, sole_ne (by simp)] at this
  rw [h0]
  by_cases e : l.natAbs = v
  · rw [if_pos e.symm]
    simp [e] at this
    omega
  · rw [if_neg (Ne.symm e)]
    simp [e] at this
    omega
theorem brk_gain1 {hss : List (List Int)} {i : Nat} (hi : i < hss.length) {x : Int} (h0 : hss.getD i [] = [x]) (l : Int) (v : Nat) : brk (hss.set i (l :: hss.getD i [])) v = if v = x.natAbs then brk hss v - 1 else brk hss v := by
  have := brk_set hi (l :: hss.getD i []) v
  rw [h0, sole_one, sole_ne (by simp)] at this
  rw [h0]
  by_cases e : x.natAbs = v
  · rw [if_pos e.symm]
    simp [e] at this
    omega
  · rw [if_neg (Ne.symm e)]
    simp [e] at this
    omega
theorem brk_gain2 {hss : List (List Int)} {i : Nat} (hi : i < hss.length) (h0 : 2 ≤ (hss.getD i []).length) (l : Int) (v : Nat) : brk (hss.set i (l :: hss.getD i [])) v = brk hss v := by
  have := brk_set hi (l :: hss.getD i []) v
  have e1 : soleOf v (l :: hss.getD i []) = false := sole_ne (by rw [List.length_cons]; omega) v
  have e2 : soleOf v (hss.getD i []) = false := sole_ne (by omega) v
  rw [e1, e2] at this
  simpa using this
end Go.Proofs.Ytllgepabjglnaaa
