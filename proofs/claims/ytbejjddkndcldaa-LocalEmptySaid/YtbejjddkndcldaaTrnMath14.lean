/- What a turn breaks and makes; turns in another order: plain mathematics. No program is named here. -/
import Derived.Test.YtbejjddkndcldaaRgtMath
import Derived.Test.YtbejjddkndcldaaFormsMath04
namespace Go.Proofs.Ytbejjddkndcldaa
set_option linter.unusedVariables false
set_option linter.unusedSimpArgs false

def makeOf' (s : LS) (z : List Bool) (v : Nat) : Nat := mkTo s z s.cls.length v
def cntP (N : Nat) (p : Nat → Bool) : Nat := ((List.range N).filter p).length
theorem cntP_next (N : Nat) (p : Nat → Bool) : cntP (N + 1) p = cntP N p + if p N = true then 1 else 0 := by
  unfold cntP
  rw [List.range_succ, List.filter_append, List.length_append, List.filter_cons]
  congr 1
  split <;> rfl
theorem cntP_add {p q r t : Nat → Bool} : ∀ N, (∀ i, i < N → (if p i = true then 1 else 0) + (if q i = true then 1 else 0) = (if r i = true then 1 else 0) + if t i = true then 1 else (0 : Nat)) → cntP N p + cntP N q = cntP N r + cntP N t
  | 0, _ => rfl
  | N + 1, h => by
    have ih := cntP_add N fun i hi => h i (by omega)
    have h1 := h N (by omega)
    rw [cntP_next, cntP_next, cntP_next, cntP_next]
    omega
theorem cntP_congr {p q : Nat → Bool} {N : Nat} (h : ∀ i, i < N → p i = q i) : cntP N p = cntP N q := by
  unfold cntP
  congr 1
  exact List.filter_congr fun i hi => h i (List.mem_range.1 hi)
theorem brk_cntP (hss : List (List Int)) (v : Nat) : ∀ N, N ≤ hss.length → brk (hss.take N) v = cntP N fun i => soleOf v (hss.getD i [])
  | 0, _ => by simp [brk, cntP]
  | N + 1, h => by rw [brk_next (by omega), brk_cntP hss v N (by omega), cntP_next]
theorem brk_cnt {s : LS} {n : Nat} (hg : s.Good n) (v : Nat) : brk s.hss v = cntP s.cls.length fun i => soleOf v (s.hss.getD i []) := by
  rw [← brk_full hg, brk_cntP _ _ _ (by rw [hg.len]; exact Nat.le_refl _)]
theorem row_cnt {s : LS} {n : Nat} (hg : s.Good n) : s.row.length = cntP s.cls.length fun i => decide ((s.hss.getD i []).length = 0) := (zeroTo_row hg).symm
theorem row_same {s t : LS} {z : List Bool} (hg : s.Good z.length) (ha : s.At z) (hg' : t.Good z.length) (ha' : t.At z) (hc : t.cls = s.cls) : t.row.length = s.row.length := by
  rw [row_cnt hg, row_cnt hg', hc]
  refine cntP_congr fun i _ => ?_
  rw [at_len hg ha, at_len hg' ha', hc]
section
variable {s t : LS} {z : List Bool} {v : Nat}
/-- what a turn does to one clause -/
theorem turn_clause (hg : s.Good z.length) (ha : s.At z) (hg' : t.Good z.length) (ha' : t.At (turn z v)) (hc : t.cls = s.cls) (h1 : 1 ≤ v) (h2 : v ≤ z.length) (hnt : ∀ i x, x ∈ s.cls.getD i [] → -x ∉ s.cls.getD i []) (i : Nat) :
    (soleOf v (s.hss.getD i []) = true ↔ holder z v ∈ s.cls.getD i [] ∧ (t.hss.getD i []).length = 0) ∧ (soleOf v (t.hss.getD i []) = true ↔ -holder z v ∈ s.cls.getD i [] ∧ (s.hss.getD i []).length = 0) ∧
    (¬ holder z v ∈ s.cls.getD i [] → ¬ -holder z v ∈ s.cls.getD i [] → ((t.hss.getD i []).length = 0 ↔ (s.hss.getD i []).length = 0)) ∧ (holder z v ∈ s.cls.getD i [] → (s.hss.getD i []).length ≠ 0) ∧ (-holder z v ∈ s.cls.getD i [] → (t.hss.getD i []).length ≠ 0) := by
  have habs := holder_abs z v
  have hh := hol_holder h1 h2
  have hop : hol z (-holder z v) = false := by rw [hol_opp (by omega) (by omega), hh]; rfl
  have ht1 : hol (turn z v) (holder z v) = false := by rw [hol_turn h1 h2 (by omega) (by omega), if_pos habs, hh]; rfl
  have ht2 : hol (turn z v) (-holder z v) = true := by rw [hol_turn h1 h2 (by omega) (by omega), if_pos (by omega), hop]; rfl
  have hot : ∀ x, x ∈ s.cls.getD i [] → x ≠ holder z v → x ≠ -holder z v → hol (turn z v) x = hol z x := fun x hx n1 n2 => by
    have hl := hg.lits i x hx
    rw [hol_turn h1 h2 hl.1 hl.2, if_neg (by omega)]
  have hA := ha i
  have hB := ha' i
  rw [hc] at hB
  have e0 : ∀ l : List Int, l.length = 0 ↔ ∀ x, x ∉ l := fun l => by rw [List.length_eq_zero_iff, List.eq_nil_iff_forall_not_mem]
  have hnd := hg.nd i
  have hnd' := hg'.nd i
  have one : ∀ (l : List Int) (y : Int), l.Nodup → y.natAbs = v → (∀ x, x ∈ l ↔ x = y) → soleOf v l = true := fun l y hn hy hm => by
    have hp : l.Perm [y] := (List.perm_ext_iff_of_nodup hn (by simp)).2 fun x => by rw [hm]; simp
    rw [List.perm_singleton.1 hp]
    unfold soleOf
    simp [xr, hy]
  have onei : ∀ l : List Int, soleOf v l = true → ∃ x, l = [x] ∧ x.natAbs = v := fun l hs => by
    unfold soleOf at hs
    simp at hs
    obtain ⟨x, hx, hx2⟩ := xr_one hs.1
    exact ⟨x, hx, by omega⟩
  refine ⟨⟨fun hs => ?_, fun ⟨hm, h0⟩ => ?_⟩, ⟨fun hs => ?_, fun ⟨hm, h0⟩ => ?_⟩, fun n1 n2 => ?_, fun hm h0 => ?_, fun hm h0 => ?_⟩
  · obtain ⟨x, hx, hxv⟩ := onei _ hs
    have hx1 := (hA x).1 (by rw [hx]; simp)
    have hxe : x = holder z v := by
      rcases (by omega : x = holder z v ∨ x = -holder z v) with e | e
      · exact e
      · rw [e, hop] at hx1; cases hx1.2
    subst hxe
    refine ⟨hx1.1, (e0 _).2 fun y hy => ?_⟩
    have hy1 := (hB y).1 hy
    by_cases e1 : y = holder z v
    · rw [e1, ht1] at hy1; cases hy1.2
    · by_cases e2 : y = -holder z v
      · exact hnt i _ hx1.1 (e2 ▸ hy1.1)
      · have := (hA y).2 ⟨hy1.1, by rw [← hot y hy1.1 e1 e2]; exact hy1.2⟩
        rw [hx] at this
        exact e1 (List.mem_singleton.1 this)
  · refine one _ _ hnd habs fun x => ?_
    rw [hA]
    constructor
    · rintro ⟨a, b⟩
      refine Decidable.not_not.1 fun e1 => ?_
      have e2 : x ≠ -holder z v := fun e => hnt i _ hm (e ▸ a)
      exact (e0 _).1 h0 x ((hB x).2 ⟨a, by rw [hot x a e1 e2]; exact b⟩)
    · rintro rfl
      exact ⟨hm, hh⟩
  · obtain ⟨x, hx, hxv⟩ := onei _ hs
    have hx1 := (hB x).1 (by rw [hx]; simp)
    have hxe : x = -holder z v := by
      rcases (by omega : x = holder z v ∨ x = -holder z v) with e | e
      · rw [e, ht1] at hx1; cases hx1.2
      · exact e
    subst hxe
    refine ⟨hx1.1, (e0 _).2 fun y hy => ?_⟩
    have hy1 := (hA y).1 hy
    by_cases e1 : y = holder z v
    · exact hnt i _ hx1.1 (by rw [Int.neg_neg, ← e1]; exact hy1.1)
    · by_cases e2 : y = -holder z v
      · rw [e2, hop] at hy1; cases hy1.2
      · have := (hB y).2 ⟨hy1.1, by rw [hot y hy1.1 e1 e2]; exact hy1.2⟩
        rw [hx] at this
        exact e2 (List.mem_singleton.1 this)
  · refine one _ (-holder z v) hnd' (by omega) fun x => ?_
    rw [hB]
    constructor
    · rintro ⟨a, b⟩
      refine Decidable.not_not.1 fun e2 => ?_
      have e1 : x ≠ holder z v := fun e => hnt i _ hm (by rw [Int.neg_neg, ← e]; exact a)
      exact (e0 _).1 h0 x ((hA x).2 ⟨a, by rw [← hot x a e1 e2]; exact b⟩)
    · rintro rfl
      exact ⟨hm, ht2⟩
  · rw [e0, e0]
    constructor
    · intro h x hx
      have hx1 := (hA x).1 hx
      exact h x ((hB x).2 ⟨hx1.1, by rw [hot x hx1.1 (fun e => n1 (e ▸ hx1.1)) (fun e => n2 (e ▸ hx1.1))]; exact hx1.2⟩)
    · intro h x hx
      have hx1 := (hB x).1 hx
      exact h x ((hA x).2 ⟨hx1.1, by rw [← hot x hx1.1 (fun e => n1 (e ▸ hx1.1)) (fun e => n2 (e ▸ hx1.1))]; exact hx1.2⟩)
  · exact (e0 _).1 h0 _ ((hA _).2 ⟨hm, hh⟩)
  · exact (e0 _).1 h0 _ ((hB _).2 ⟨hm, ht2⟩)
theorem make_cnt (s : LS) (z : List Bool) (v : Nat) : makeOf' s z v = cntP s.cls.length fun i => (s.cls.getD i []).contains (-holder z v) && decide ((s.hss.getD i []).length = 0) := rfl
theorem turn_counts (hg : s.Good z.length) (ha : s.At z) (hg' : t.Good z.length) (ha' : t.At (turn z v)) (hc : t.cls = s.cls) (h1 : 1 ≤ v) (h2 : v ≤ z.length) (hnt : ∀ i x, x ∈ s.cls.getD i [] → -x ∉ s.cls.getD i []) :
    t.row.length + makeOf' s z v = s.row.length + brk s.hss v ∧ brk t.hss v = makeOf' s z v ∧ makeOf' t (turn z v) v = brk s.hss v := by
  have hT := turn_clause hg ha hg' ha' hc h1 h2 hnt
  refine ⟨?_, ?_, ?_⟩
  · rw [row_cnt hg, row_cnt hg', brk_cnt hg, make_cnt, hc]
    refine cntP_add _ fun i _ => ?_
    obtain ⟨k1, k2, k3, k4, k5⟩ := hT i
    have em : ((s.cls.getD i []).contains (-holder z v) && decide ((s.hss.getD i []).length = 0)) = true ↔ -holder z v ∈ s.cls.getD i [] ∧ (s.hss.getD i []).length = 0 := by
      rw [Bool.and_eq_true, List.contains_iff_mem, decide_eq_true_eq]
    by_cases m1 : holder z v ∈ s.cls.getD i []
    · have m2 := hnt i _ m1
      have n1 := k4 m1
      rw [if_neg (fun e => m2 (em.1 e).1), if_neg (fun e => n1 (of_decide_eq_true e))]
      by_cases hz : (t.hss.getD i []).length = 0
      · rw [if_pos (decide_eq_true hz), if_pos (k1.2 ⟨m1, hz⟩)]
      · rw [if_neg (fun e => hz (of_decide_eq_true e)), if_neg (fun e => hz (k1.1 e).2)]
    · rw [if_neg (c := soleOf v (s.hss.getD i []) = true) (fun e => m1 (k1.1 e).1)]
      by_cases m2 : -holder z v ∈ s.cls.getD i []
      · rw [if_neg (c := decide ((t.hss.getD i []).length = 0) = true) (fun e => k5 m2 (of_decide_eq_true e))]
        by_cases hz : (s.hss.getD i []).length = 0
        · rw [if_pos (em.2 ⟨m2, hz⟩), if_pos (decide_eq_true hz)]
        · rw [if_neg (fun e => hz (em.1 e).2), if_neg (fun e => hz (of_decide_eq_true e))]
      · rw [if_neg (c := ((s.cls.getD i []).contains (-holder z v) && decide ((s.hss.getD i []).length = 0)) = true) (fun e => m2 (em.1 e).1)]
        have := k3 m1 m2
        by_cases hz : (s.hss.getD i []).length = 0
        · rw [if_pos (decide_eq_true (this.2 hz)), if_pos (decide_eq_true hz)]
        · rw [if_neg (fun e => hz (this.1 (of_decide_eq_true e))), if_neg (fun e => hz (of_decide_eq_true e))]
  · rw [brk_cnt hg', make_cnt, hc]
    refine cntP_congr fun i _ => ?_
    rw [Bool.eq_iff_iff, Bool.and_eq_true, List.contains_iff_mem, decide_eq_true_eq]
    exact (hT i).2.1
  · rw [brk_cnt hg, make_cnt, hc, holder_turn h1 h2, Int.neg_neg]
    refine cntP_congr fun i _ => ?_
    rw [Bool.eq_iff_iff, Bool.and_eq_true, List.contains_iff_mem, decide_eq_true_eq]
    exact (hT i).1.symm
end
/-- the clauses of a normal form have no literal with its negation -/
theorem norm_notaut {xss : List (List Int)} (i : Nat) (x : Int) (hx : x ∈ (normForm xss).getD i []) : -x ∉ (normForm xss).getD i [] := by
  intro hn
  have hi : i < (normForm xss).length := Nat.lt_of_not_le fun hle => by
    rw [List.getD, List.getElem?_eq_none hle] at hx
    cases hx
  have hm : (normForm xss).getD i [] ∈ normForm xss := by
    simp only [List.getD, List.getElem?_eq_getElem hi, Option.getD_some]
    exact List.getElem_mem hi
  unfold normForm at hm
  obtain ⟨c, hc, e⟩ := List.mem_map.1 hm
  have ht := (List.mem_filter.1 hc).2
  have h3 : (normForm xss).getD i [] = normOf c := e.symm
  rw [h3] at hx hn
  have : tautOf c = true := tautOf_iff.2 ⟨x, mem_normOf.1 hx, mem_normOf.1 hn⟩
  rw [this] at ht
  cases ht
end Go.Proofs.Ytbejjddkndcldaa
