/- What the statements of layer 14 reckon of a state, as plain mathematics. No program is named here. -/
import Derived.Test.YtllgepabjglnaaaLocMath
namespace Go.Proofs.Ytllgepabjglnaaa
set_option linter.unusedVariables false
set_option linter.unusedSimpArgs false

def cntV (l : List Int) (u : Nat) : Nat := (l.filter fun x => decide (x.natAbs = u)).length
def cntH (z : List Bool) (l : List Int) (u : Nat) : Nat := (l.filter fun x => hol z x && decide (x.natAbs = u)).length
theorem brk_next {hss : List (List Int)} {i : Nat} (hi : i < hss.length) (u : Nat) : brk (hss.take (i + 1)) u = brk (hss.take i) u + if soleOf u (hss.getD i []) = true then 1 else 0 := by
  unfold brk
  rw [List.take_succ_eq_append_getElem hi, List.countP_append, List.countP_singleton]
  simp [List.getD, hi]
theorem filter_hs {s : LS} {z : List Bool} (hg : s.Good z.length) (ha : s.At z) (i : Nat) : ((s.cls.getD i []).filter (hol z)).Perm (s.hss.getD i []) :=
  (List.perm_ext_iff_of_nodup (List.Pairwise.filter _ (hg.cnd i)) (hg.nd i)).2 fun x => by rw [ha, List.mem_filter]
theorem cntH_sole {s : LS} {z : List Bool} (hg : s.Good z.length) (ha : s.At z) {i : Nat} (hn : (s.hss.getD i []).length = 1) (u : Nat) : cntH z (s.cls.getD i []) u = if soleOf u (s.hss.getD i []) = true then 1 else 0 := by
  have h1 : cntH z (s.cls.getD i []) u = (((s.cls.getD i []).filter (hol z)).filter fun x => decide (x.natAbs = u)).length := by
    unfold cntH
    rw [List.filter_filter]
    congr 1
    refine List.filter_congr fun x _ => ?_
    rw [Bool.and_comm]
  rw [h1, ((filter_hs hg ha i).filter _).length_eq]
  obtain ⟨x, hx, hx2⟩ := xr_one hn
  rw [hx]
  have e : soleOf u [x] = decide (x.natAbs = u) := by
    unfold soleOf
    rw [Bool.eq_iff_iff]
    simp [xr]
  rw [e]
  by_cases h : x.natAbs = u <;> simp [h]
theorem sole_not {h : List Int} (hl : h.length ≠ 1) (v : Nat) : soleOf v h = false := by
  unfold soleOf
  simp [hl]
theorem brk_zero {s : LS} {n : Nat} (hg : s.Good n) : brk s.hss 0 = 0 := by
  unfold brk
  rw [List.countP_eq_zero]
  intro h hh hs
  obtain ⟨i, hi⟩ := List.getElem?_of_mem hh
  have hgd : s.hss.getD i [] = h := by rw [List.getD, hi]; rfl
  unfold soleOf at hs
  simp at hs
  obtain ⟨x, hx, hx2⟩ := xr_one hs.1
  have := hg.lits i x (hg.sub i x (by rw [hgd, hx]; simp))
  omega
/-- how many clauses ahead of i that are not satisfied have a literal of a variable -/
def mkTo (s : LS) (z : List Bool) (i u : Nat) : Nat := ((List.range i).filter fun k => (s.cls.getD k []).contains (-holder z u) && decide ((s.hss.getD k []).length = 0)).length
theorem mkTo_next (s : LS) (z : List Bool) (i u : Nat) : mkTo s z (i + 1) u = mkTo s z i u + if (s.cls.getD i []).contains (-holder z u) = true ∧ (s.hss.getD i []).length = 0 then 1 else 0 := by
  unfold mkTo
  rw [List.range_succ, List.filter_append, List.length_append]
  congr 1
  rw [List.filter_cons]
  by_cases h : (s.cls.getD i []).contains (-holder z u) = true ∧ (s.hss.getD i []).length = 0
  · rw [if_pos h, if_pos (by rw [h.1, decide_eq_true h.2]; rfl)]
    rfl
  · rw [if_neg h, if_neg]
    · rfl
    · intro e
      rw [Bool.and_eq_true, decide_eq_true_eq] at e
      exact h e
theorem cntV_make {s : LS} {z : List Bool} (hg : s.Good z.length) (ha : s.At z) {i : Nat} (hn : (s.hss.getD i []).length = 0) {u : Nat} (hu : u ≤ z.length) : cntV (s.cls.getD i []) u = if (s.cls.getD i []).contains (-holder z u) = true then 1 else 0 := by
  have he : s.hss.getD i [] = [] := List.eq_nil_of_length_eq_zero hn
  have hno : ∀ x ∈ s.cls.getD i [], hol z x = false := fun x hx => by
    rcases h : hol z x with _ | _
    · rfl
    · have := (ha i x).2 ⟨hx, h⟩
      rw [he] at this
      cases this
  have hiff : ∀ x ∈ s.cls.getD i [], (x.natAbs = u ↔ x = -holder z u) := fun x hx => by
    have hl := hg.lits i x hx
    have habs := holder_abs z u
    constructor
    · intro e
      rcases (by omega : x = holder z u ∨ x = -holder z u) with h | h
      · have := hno x hx
        rw [h, hol_holder (by omega) hu] at this
        cases this
      · exact h
    · intro e
      rw [e]
      omega
  have h1 : cntV (s.cls.getD i []) u = (s.cls.getD i []).count (-holder z u) := by
    unfold cntV
    rw [List.count_eq_countP, List.countP_eq_length_filter]
    congr 1
    refine List.filter_congr fun x hx => ?_
    rw [Bool.eq_iff_iff, decide_eq_true_eq, beq_iff_eq]
    exact hiff x hx
  rw [h1]
  by_cases hm : -holder z u ∈ s.cls.getD i []
  · rw [if_pos (List.contains_iff_mem.2 hm), List.Nodup.count (hg.cnd i), if_pos hm]
  · rw [if_neg (fun e => hm (List.contains_iff_mem.1 e)), List.count_eq_zero.2 hm]
/-- what the count of breaks tells, when the clauses ahead of i were told, and j literals of clause i -/
def fbU (s : LS) (z : List Bool) (i j u : Nat) : Nat := brk (s.hss.take i) u + if (s.hss.getD i []).length = 1 then cntH z ((s.cls.getD i []).take j) u else 0
def fmU (s : LS) (z : List Bool) (i j u : Nat) : Nat := mkTo s z i u + if (s.hss.getD i []).length = 0 then cntV ((s.cls.getD i []).take j) u else 0
theorem fbU_zero (s : LS) (z : List Bool) (i u : Nat) : fbU s z i 0 u = brk (s.hss.take i) u := by simp [fbU, cntH]
theorem fmU_zero (s : LS) (z : List Bool) (i u : Nat) : fmU s z i 0 u = mkTo s z i u := by simp [fmU, cntV]
theorem fbU_full {s : LS} {z : List Bool} (hg : s.Good z.length) (ha : s.At z) {i : Nat} (hi : i < s.cls.length) (u : Nat) : fbU s z i (s.cls.getD i []).length u = brk (s.hss.take (i + 1)) u := by
  unfold fbU
  rw [brk_next (by rw [hg.len]; exact hi), List.take_length]
  congr 1
  split
  · rename_i h; exact cntH_sole hg ha h u
  · rename_i h; rw [sole_not h]; rfl
theorem fmU_full {s : LS} {z : List Bool} (hg : s.Good z.length) (ha : s.At z) {i : Nat} {u : Nat} (hu : u ≤ z.length) : fmU s z i (s.cls.getD i []).length u = mkTo s z (i + 1) u := by
  unfold fmU
  rw [mkTo_next, List.take_length]
  congr 1
  by_cases h : (s.hss.getD i []).length = 0
  · rw [if_pos h, cntV_make hg ha h hu]
    by_cases hc : (s.cls.getD i []).contains (-holder z u) = true
    · rw [if_pos hc, if_pos ⟨hc, h⟩]
    · rw [if_neg hc, if_neg (fun e => hc e.1)]
  · rw [if_neg h, if_neg (fun e => h e.2)]
theorem fbU_next {s : LS} {z : List Bool} {i j : Nat} (hj : j < (s.cls.getD i []).length) (u : Nat) : fbU s z i (j + 1) u = fbU s z i j u + if (s.hss.getD i []).length = 1 ∧ hol z ((s.cls.getD i []).getD j 0) = true ∧ ((s.cls.getD i []).getD j 0).natAbs = u then 1 else 0 := by
  unfold fbU
  by_cases h : (s.hss.getD i []).length = 1
  · rw [if_pos h, if_pos h]
    unfold cntH
    rw [List.take_succ_eq_append_getElem hj, List.filter_append, List.length_append, Nat.add_assoc]
    congr 2
    have e : (s.cls.getD i []).getD j 0 = (s.cls.getD i [])[j] := by
      rw [List.getD, List.getElem?_eq_getElem hj]; rfl
    rw [e, List.filter_cons]
    by_cases h2 : hol z (s.cls.getD i [])[j] = true ∧ ((s.cls.getD i [])[j]).natAbs = u
    · rw [if_pos (by rw [h2.1, decide_eq_true h2.2]; rfl), if_pos ⟨h, h2⟩]; rfl
    · rw [if_neg (fun e => h2 (by rw [Bool.and_eq_true, decide_eq_true_eq] at e; exact e)), if_neg (fun e => h2 e.2)]; rfl
  · rw [if_neg h, if_neg h, if_neg (fun e => h e.1)]
theorem fmU_next {s : LS} {z : List Bool} {i j : Nat} (hj : j < (s.cls.getD i []).length) (u : Nat) : fmU s z i (j + 1) u = fmU s z i j u + if (s.hss.getD i []).length = 0 ∧ ((s.cls.getD i []).getD j 0).natAbs = u then 1 else 0 := by
  unfold fmU
  by_cases h : (s.hss.getD i []).length = 0
  · rw [if_pos h, if_pos h]
    unfold cntV
    rw [List.take_succ_eq_append_getElem hj, List.filter_append, List.length_append, Nat.add_assoc]
    congr 2
    have e : (s.cls.getD i []).getD j 0 = (s.cls.getD i [])[j] := by
      rw [List.getD, List.getElem?_eq_getElem hj]; rfl
    rw [e, List.filter_cons]
    by_cases h2 : ((s.cls.getD i [])[j]).natAbs = u
    · rw [if_pos (by rw [decide_eq_true h2]), if_pos ⟨h, h2⟩]; rfl
    · rw [if_neg (fun e => h2 (by rw [decide_eq_true_eq] at e; exact e)), if_neg (fun e => h2 e.2)]; rfl
  · rw [if_neg h, if_neg h, if_neg (fun e => h e.1)]
theorem fmU_le (s : LS) (z : List Bool) (i j u : Nat) (hi : i ≤ 10000) (hs : ∀ k, (s.cls.getD k []).length ≤ 100) : fmU s z i j u ≤ 20000 := by
  unfold fmU
  have h1 : mkTo s z i u ≤ i := Nat.le_trans (List.length_filter_le _ _) (by simp)
  have h2 : cntV ((s.cls.getD i []).take j) u ≤ 100 := by
    refine Nat.le_trans (List.length_filter_le _ _) ?_
    rw [List.length_take]
    have := hs i
    omega
  split <;> omega
theorem fbU_le (s : LS) (z : List Bool) (i j u : Nat) (hi : i ≤ 10000) (hs : ∀ k, (s.cls.getD k []).length ≤ 100) : fbU s z i j u ≤ 20000 := by
  unfold fbU
  have h1 : brk (s.hss.take i) u ≤ i := by
    refine Nat.le_trans (brk_le _ _) ?_
    rw [List.length_take]
    omega
  have h2 : cntH z ((s.cls.getD i []).take j) u ≤ 100 := by
    refine Nat.le_trans (List.length_filter_le _ _) ?_
    rw [List.length_take]
    have := hs i
    omega
  split <;> omega
theorem brk_full {s : LS} {n : Nat} (hg : s.Good n) (u : Nat) : brk (s.hss.take s.cls.length) u = brk s.hss u := by rw [← hg.len, List.take_length]
/-- how many clauses ahead of i are not satisfied -/
def zeroTo (s : LS) (i : Nat) : Nat := ((List.range i).filter fun k => decide ((s.hss.getD k []).length = 0)).length
theorem zeroTo_next (s : LS) (i : Nat) : zeroTo s (i + 1) = zeroTo s i + if (s.hss.getD i []).length = 0 then 1 else 0 := by
  unfold zeroTo
  rw [List.range_succ, List.filter_append, List.length_append]
  congr 1
  rw [List.filter_cons]
  by_cases h : (s.hss.getD i []).length = 0
  · rw [if_pos h, if_pos (decide_eq_true h)]; rfl
  · rw [if_neg h, if_neg (by rw [decide_eq_true_eq]; exact h)]; rfl
theorem zeroTo_le (s : LS) (i : Nat) : zeroTo s i ≤ i := Nat.le_trans (List.length_filter_le _ _) (by simp)
theorem zeroTo_row {s : LS} {n : Nat} (hg : s.Good n) : zeroTo s s.cls.length = s.row.length := by
  have hp : s.row.Perm ((List.range s.cls.length).filter fun k => decide ((s.hss.getD k []).length = 0)) := by
    refine (List.perm_ext_iff_of_nodup hg.rinj.nodup (List.Pairwise.filter _ List.nodup_range)).2 fun x => ?_
    rw [hg.rmem, List.mem_filter, List.mem_range, decide_eq_true_eq]
    exact ⟨fun h => ⟨h.1, by rw [h.2]; rfl⟩, fun h => ⟨h.1, List.eq_nil_of_length_eq_zero h.2⟩⟩
  exact hp.length_eq.symm
end Go.Proofs.Ytllgepabjglnaaa
