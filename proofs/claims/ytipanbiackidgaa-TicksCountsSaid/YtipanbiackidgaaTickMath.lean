/- Counts that stand still at 2^62, and the row 1, 1, 2, 1, 1, 2, 4, .. as plain mathematics. -/
import Derived.WalkKit
import Derived.Lib.BitFns
namespace Go.Proofs.Ytipanbiackidgaa
set_option linter.unusedVariables false

/-- the number from 0 to 2^62 that is nearest -/
def clampN (n : Int) : Nat := min n.toNat 4611686018427387904
def sumN (a b : Int) : Nat := min (clampN a + clampN b) 4611686018427387904
def timesN (a b : Int) : Nat := min (clampN a * clampN b) 4611686018427387904
theorem clamp_int (n : Int) : min (max n 0) 4611686018427387904 = ((clampN n : Nat) : Int) := by unfold clampN; omega
theorem clampN_le (n : Int) : clampN n ≤ 4611686018427387904 := Nat.min_le_right _ _
theorem sumN_le (a b : Int) : sumN a b ≤ 4611686018427387904 := Nat.min_le_right _ _
theorem timesN_le (a b : Int) : timesN a b ≤ 4611686018427387904 := Nat.min_le_right _ _
theorem clampN_of {n : Nat} (h : n ≤ 4611686018427387904) : clampN n = n := by unfold clampN; omega
theorem sumN_comm (a b : Int) : sumN a b = sumN b a := by unfold sumN; rw [Nat.add_comm]
theorem timesN_comm (a b : Int) : timesN a b = timesN b a := by unfold timesN; rw [Nat.mul_comm]
theorem sumN_assoc (a b c : Int) : sumN (sumN a b) c = sumN a (sumN b c) := by
  unfold sumN clampN; omega
theorem min_mul_pos {m e c : Nat} (hc : 0 < c) : min (min m e * c) e = min (m * c) e := by
  rcases Nat.le_total m e with h | h
  · rw [Nat.min_eq_left h]
  · rw [Nat.min_eq_right h, Nat.min_eq_right (Nat.le_mul_of_pos_right e hc), Nat.min_eq_right (Nat.le_trans h (Nat.le_mul_of_pos_right m hc))]
theorem timesN_assoc (a b c : Int) : timesN (timesN a b) c = timesN a (timesN b c) := by
  have h1 := clampN_of (timesN_le a b)
  have h2 := clampN_of (timesN_le b c)
  rw [timesN, h1, timesN.eq_1 a (timesN b c), h2]
  unfold timesN
  rcases Nat.eq_zero_or_pos (clampN c) with hc | hc
  · rw [hc]; simp
  rcases Nat.eq_zero_or_pos (clampN a) with ha | ha
  · rw [ha]; simp
  rw [min_mul_pos hc, Nat.mul_comm (clampN a) (min _ _), min_mul_pos ha, Nat.mul_assoc, Nat.mul_comm (clampN b * clampN c)]
theorem sumN_mono {a b : Int} (h : a ≤ b) (c : Int) : sumN a c ≤ sumN b c := by unfold sumN clampN; omega
theorem clampN_mono {a b : Int} (h : a ≤ b) : clampN a ≤ clampN b := by unfold clampN; omega
theorem timesN_mono {a b : Int} (h : a ≤ b) (c : Int) : timesN a c ≤ timesN b c := by
  have := Nat.mul_le_mul_right (clampN c) (clampN_mono h)
  unfold timesN; omega
theorem sumN_zero (a : Int) : sumN a 0 = clampN a := by unfold sumN clampN; omega
theorem timesN_one (a : Int) : timesN a 1 = clampN a := by unfold timesN; rw [show clampN 1 = 1 by decide]; unfold clampN; omega
/-- when the product is beyond the end -/
theorem over_iff {x y : Nat} (hy : 0 < y) : 4611686018427387904 / y < x ↔ 4611686018427387904 < x * y := by
  rw [Nat.div_lt_iff_lt_mul hy]

/-- how long in bits a number is, which its highest power of two says -/
theorem bitLenAux_of : ∀ (f k x : Nat), k < f → 2 ^ k ≤ x → x < 2 ^ (k + 1) → Lib.bitLenAux f x = k + 1 := by
  intro f
  induction f with
  | zero => intro k x h; omega
  | succ f ih =>
    intro k x hf h0 h1
    have hp : 0 < 2 ^ k := Nat.two_pow_pos k
    unfold Lib.bitLenAux
    rw [if_neg (by omega)]
    rcases k with _ | k
    · have : x = 1 := by simp at h0 h1; omega
      subst this
      rcases f with _ | f
      · rfl
      · rfl
    · rw [ih k (x / 2) (by omega) (by rw [Nat.pow_succ] at h0; omega) (by rw [Nat.pow_succ] at h1; omega)]; omega
theorem bitLen_of {k x : Nat} (hk : k < 64) (h0 : 2 ^ k ≤ x) (h1 : x < 2 ^ (k + 1)) : Lib.bitLen x = k + 1 := bitLenAux_of 64 k x hk h0 h1

/-- the element with an index -/
inductive Lub : Nat → Nat → Prop where
  | last (k : Nat) : Lub (2 ^ (k + 1) - 1) (2 ^ k)
  | back {k i v : Nat} : 2 ^ k ≤ i → i < 2 ^ (k + 1) - 1 → Lub (i - (2 ^ k - 1)) v → Lub i v
theorem Lub.pos {i v : Nat} (h : Lub i v) : 0 < i := by
  cases h with
  | last k => have : 0 < 2 ^ k := Nat.two_pow_pos k; rw [Nat.pow_succ]; omega
  | back h1 => exact Nat.lt_of_lt_of_le (Nat.two_pow_pos _) h1
theorem Lub.power {i v : Nat} (h : Lub i v) : ∃ k, v = 2 ^ k ∧ 2 ^ k ≤ i := by
  induction h with
  | last k => exact ⟨k, rfl, by have : 0 < 2 ^ k := Nat.two_pow_pos k; rw [Nat.pow_succ]; omega⟩
  | back h1 h2 _ ih => obtain ⟨k, e, h⟩ := ih; exact ⟨k, e, by omega⟩
theorem top_of : ∀ {i : Nat}, 0 < i → ∃ k, 2 ^ k ≤ i ∧ i < 2 ^ (k + 1) := fun {i} h => ⟨i.log2, Nat.log2_self_le (by omega), Nat.lt_log2_self⟩
theorem Lub.any : ∀ i, 0 < i → ∃ v, Lub i v := by
  intro i
  induction i using Nat.strongRecOn with
  | _ i ih =>
    intro h
    obtain ⟨k, h0, h1⟩ := top_of h
    have hp : 0 < 2 ^ k := Nat.two_pow_pos k
    by_cases he : i = 2 ^ (k + 1) - 1
    · exact ⟨_, he ▸ Lub.last k⟩
    · rcases k with _ | k
      · simp at h0 h1 he; omega
      · have : 2 ^ 1 ≤ 2 ^ (k + 1) := Nat.pow_le_pow_right (by decide) (by omega)
        obtain ⟨v, hv⟩ := ih (i - (2 ^ (k + 1) - 1)) (by omega) (by omega)
        exact ⟨v, .back h0 (by omega) hv⟩
theorem getD_left10 (a b : List Nat) (j : Nat) (h : j < a.length) : (a ++ b).getD j 0 = a.getD j 0 := by simp [List.getD, List.getElem?_append_left h]
theorem getD_right10 (a b : List Nat) (j : Nat) (h : a.length ≤ j) : (a ++ b).getD j 0 = b.getD (j - a.length) 0 := by simp [List.getD, List.getElem?_append_right h]
/-- the row, doubled k times -/
def rowN : Nat → List Nat
  | 0 => []
  | k + 1 => rowN k ++ rowN k ++ [2 ^ k]
theorem rowN_length : ∀ k, (rowN k).length = 2 ^ k - 1 := by
  intro k
  induction k with
  | zero => rfl
  | succ k ih => have : 0 < 2 ^ k := Nat.two_pow_pos k; simp [rowN, ih, Nat.pow_succ]; omega
theorem rowN_lub : ∀ k j, j < 2 ^ k - 1 → Lub (j + 1) ((rowN k).getD j 0) := by
  intro k
  induction k with
  | zero => intro j h; simp at h
  | succ k ih =>
    intro j h
    have hp : 0 < 2 ^ k := Nat.two_pow_pos k
    have hl := rowN_length k
    have h2 : 2 ^ (k + 1) = 2 * 2 ^ k := by rw [Nat.pow_succ]; omega
    rw [rowN]
    by_cases h0 : j < 2 ^ k - 1
    · rw [List.append_assoc, getD_left10 _ _ _ (by omega)]
      exact ih j h0
    · by_cases h3 : j < 2 ^ k - 1 + (2 ^ k - 1)
      · rw [getD_left10 _ _ _ (by simp; omega), getD_right10 _ _ _ (by omega), hl]
        have := ih (j - (2 ^ k - 1)) (by omega)
        exact .back (k := k) (by omega) (by omega) (by rw [show j + 1 - (2 ^ k - 1) = j - (2 ^ k - 1) + 1 by omega]; exact this)
      · have e : j + 1 = 2 ^ (k + 1) - 1 := by omega
        rw [getD_right10 _ _ _ (by simp; omega), e, show j - (rowN k ++ rowN k).length = 0 by simp; omega]
        exact Lub.last k
end Go.Proofs.Ytipanbiackidgaa
