/- How many are in; what Take makes of it. -/
import Derived.Test.YtnimmlfccgnneaaHpMath
namespace Go.Proofs.Ytnimmlfccgnneaa
set_option linter.unusedVariables false
set_option linter.unusedSimpArgs false

/-- how many of the first n are in -/
def cntB (inn : List Bool) (n : Nat) : Nat := ((List.range n).filter fun k => inn.getD k false).length
theorem cntB_succ (inn : List Bool) (n : Nat) : cntB inn (n + 1) = cntB inn n + if inn.getD n false = true then 1 else 0 := by
  unfold cntB
  rw [List.range_succ, List.filter_append, List.length_append]
  congr 1
  rcases h : inn.getD n false with _ | _
  · rw [List.filter_cons_of_neg (by rw [h]; decide)]; rfl
  · rw [List.filter_cons_of_pos (by rw [h])]; rfl
theorem cntB_congr {a b : List Bool} : ∀ {n : Nat}, (∀ k, k < n → a.getD k false = b.getD k false) → cntB a n = cntB b n := by
  intro n
  induction n with
  | zero => intro _; rfl
  | succ n ih => intro h; rw [cntB_succ, cntB_succ, ih fun k hk => h k (by omega), h n (by omega)]
theorem cntB_set {inn : List Bool} {k : Nat} (hk : inn.getD k false = true) : ∀ {n : Nat}, k < n → cntB (inn.set k false) n + 1 = cntB inn n := by
  have hl : k < inn.length := by
    by_cases h : k < inn.length
    · exact h
    · rw [getD_big _ _ (by omega)] at hk; cases hk
  intro n
  induction n with
  | zero => intro h; omega
  | succ n ih =>
    intro h
    rw [cntB_succ, cntB_succ]
    by_cases e : k = n
    · subst e
      have h1 : (inn.set k false).getD k false = false := by rw [getD_set_bool, if_pos ⟨rfl, hl⟩]
      have h2 : cntB (inn.set k false) k = cntB inn k := cntB_congr fun j hj => by rw [getD_set_bool, if_neg (by omega)]
      rw [h1, hk, h2]
      simp
    · have h1 : (inn.set k false).getD n false = inn.getD n false := by rw [getD_set_bool, if_neg (by omega)]
      rw [h1]
      have := ih (by omega)
      omega
theorem cntB_zero {inn : List Bool} : ∀ {n : Nat}, cntB inn n = 0 ↔ ∀ k, k < n → inn.getD k false = false := by
  intro n
  induction n with
  | zero => exact ⟨fun _ k hk => by omega, fun _ => rfl⟩
  | succ n ih =>
    rw [cntB_succ]
    constructor
    · intro h k hk
      rcases hb : inn.getD n false with _ | _
      · by_cases e : k = n
        · subst e; exact hb
        · exact ih.1 (by rw [hb] at h; simpa using h) k (by omega)
      · rw [hb] at h; simp at h
    · intro h
      rw [ih.2 fun k hk => h k (by omega), h n (by omega)]
      rfl
theorem cntB_le (inn : List Bool) (n : Nat) : cntB inn n ≤ n := by
  have := List.length_filter_le (fun k => inn.getD k false) (List.range n)
  simpa [cntB] using this
namespace SP
variable {s : SP} {n : Nat}
theorem first_zero (h : s.Good n) : s.first = 0 ↔ cntB s.inn n = 0 := by
  rw [cntB_zero]
  unfold first
  rw [h.ls]
  rcases best_spec s.sc s.inn n with ⟨h1, h2⟩ | ⟨h1, h2, h3, _⟩
  · refine ⟨fun _ k hk => ?_, fun _ => h1⟩
    have := h2 (k + 1) (by omega) (by omega)
    rwa [Nat.add_sub_cancel] at this
  · refine ⟨fun h => by omega, fun h => ?_⟩
    rw [h _ (by omega)] at h3
    cases h3
theorem first_in (h : s.Good n) {k : Nat} (hf : s.first = k + 1) : k < n ∧ s.inn.getD k false = true ∧ s.take = ⟨s.sc, s.inn.set k false, s.rise⟩ ∧ cntB s.take.inn n + 1 = cntB s.inn n ∧ ∀ u, 1 ≤ u → u ≤ n → s.take.inn.getD (u - 1) false = true → ah s.sc (k + 1) u := by
  have ht : s.take = ⟨s.sc, s.inn.set k false, s.rise⟩ := by unfold SP.take; rw [if_neg (by omega), hf, Nat.add_sub_cancel]
  have hf' := hf
  unfold first at hf'
  rw [h.ls] at hf'
  rcases best_spec s.sc s.inn n with ⟨h1, h2⟩ | ⟨h1, h2, h3, h4⟩
  · omega
  · rw [hf'] at h2 h3 h4
    rw [Nat.add_sub_cancel] at h3
    refine ⟨by omega, h3, ht, by rw [ht]; exact cntB_set h3 (by omega), fun u a1 a2 a3 => ?_⟩
    rw [ht] at a3
    have a3 : (s.inn.set k false).getD (u - 1) false = true := a3
    rw [getD_set_bool, h.li] at a3
    by_cases e : u - 1 = k
    · rw [if_pos ⟨e, by omega⟩] at a3; cases a3
    · rw [if_neg (fun h => e h.1)] at a3
      exact h4 u a1 a2 a3 (by omega)
theorem score_at (h : s.sc.length = n) {k : Nat} (hk : k < n) : s.score ((k : Int) + 1) = s.sc.getD k 0 := by
  unfold score
  rw [if_pos (isV_iff.2 (by omega)), show ((k : Int) + 1).toNat - 1 = k by omega]
theorem isIn_at (h : s.sc.length = n) {k : Nat} (hk : k < n) : s.isIn ((k : Int) + 1) = s.inn.getD k false := by
  unfold isIn
  rw [isV_iff.2 (by omega), show ((k : Int) + 1).toNat - 1 = k by omega, Bool.true_and]
theorem scV_at (sc : List Nat) (k : Nat) : scV sc (k + 1) = sc.getD k 0 := by unfold scV; rw [Nat.add_sub_cancel]
end SP
end Go.Proofs.Ytnimmlfccgnneaa
