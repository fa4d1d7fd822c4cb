/- The plain mathematics of literals: a literal's variable, its index, the literal at an index. No program is named here. -/
import Derived.RowKit
namespace Go.Proofs.Ytllgepabjglnaaa
/-- the variable of a literal -/
def litVar (l : Int) : Int := if l < 0 then -l else l
/-- the index of a literal -/
def litIndex (l : Int) : Int := if l < 0 then 2 * (-l - 1) + 1 else 2 * (l - 1)
/-- the literal at an index -/
def litAt (i : Int) : Int := if i % 2 = 0 then i / 2 + 1 else -(i / 2 + 1)
/-- is it a literal of so many variables -/
def litRight (l n : Int) : Bool := decide (l ≠ 0 ∧ -100000 ≤ l ∧ l ≤ 100000 ∧ -n ≤ l ∧ l ≤ n)
/-- the order of two numbers -/
def cmpInt (x y : Int) : Int := if x < y then -1 else if y < x then 1 else 0

/-- is a literal true, where so many variables have these values -/
def litHolds (l : Int) (n : Nat) (z : Nat → Bool) : Bool := if 1 ≤ litVar l ∧ litVar l ≤ n then z (litVar l - 1).toNat == decide (0 < l) else false

theorem litVar_neg {l : Int} (h : l < 0) : litVar l = -l := by unfold litVar; rw [if_pos h]
theorem litVar_pos {l : Int} (h : 0 ≤ l) : litVar l = l := by unfold litVar; rw [if_neg (by omega)]
theorem litVar_nonneg (l : Int) : 0 ≤ litVar l := by unfold litVar; split <;> omega
theorem litVar_le {l b : Int} (h : -b ≤ l) (h' : l ≤ b) : litVar l ≤ b := by unfold litVar; split <;> omega
theorem litVar_opp (l : Int) : litVar (-l) = litVar l := by unfold litVar; split <;> split <;> omega
theorem litIndex_neg {l : Int} (h : l < 0) : litIndex l = 2 * (-l - 1) + 1 := by unfold litIndex; rw [if_pos h]
theorem litIndex_pos {l : Int} (h : 0 ≤ l) : litIndex l = 2 * (l - 1) := by unfold litIndex; rw [if_neg (by omega)]
theorem litIndex_bd {l b : Int} (h : -b ≤ l) (h' : l ≤ b) (h0 : l ≠ 0) : 0 ≤ litIndex l ∧ litIndex l ≤ 2 * b - 1 := by
  unfold litIndex; split <;> omega
theorem litAt_even {i : Int} (h : i % 2 = 0) : litAt i = i / 2 + 1 := by unfold litAt; rw [if_pos h]
theorem litAt_odd {i : Int} (h : ¬ i % 2 = 0) : litAt i = -(i / 2 + 1) := by unfold litAt; rw [if_neg h]
theorem litAt_index (l : Int) : litAt (litIndex l) = l := by
  unfold litAt litIndex; split <;> split <;> omega
theorem litIndex_at {i : Int} (h : 0 ≤ i) : litIndex (litAt i) = i := by
  unfold litAt litIndex; split <;> split <;> omega
theorem litIndex_inj {l m : Int} (h : litIndex l = litIndex m) : l = m := by
  rw [← litAt_index l, h, litAt_index m]
theorem litRight_iff {l n : Int} : litRight l n = true ↔ (l ≠ 0 ∧ -100000 ≤ l ∧ l ≤ 100000 ∧ -n ≤ l ∧ l ≤ n) := by
  unfold litRight; exact decide_eq_true_iff
theorem litHolds_pos {k n : Nat} {z : Nat → Bool} (h : k < n) : litHolds ((k : Int) + 1) n z = z k := by
  have e : litVar ((k : Int) + 1) = (k : Int) + 1 := litVar_pos (by omega)
  unfold litHolds
  rw [e, if_pos (by omega), show ((k : Int) + 1 - 1).toNat = k by omega, decide_eq_true (by omega : (0 : Int) < (k : Int) + 1)]
  cases z k <;> rfl
theorem litHolds_neg {k n : Nat} {z : Nat → Bool} (h : k < n) : litHolds (-((k : Int) + 1)) n z = !z k := by
  have e : litVar (-((k : Int) + 1)) = (k : Int) + 1 := by rw [litVar_neg (by omega)]; omega
  unfold litHolds
  rw [e, if_pos (by omega), show ((k : Int) + 1 - 1).toNat = k by omega, decide_eq_false (by omega : ¬ (0 : Int) < -((k : Int) + 1))]
  cases z k <;> rfl
theorem litHolds_out {l : Int} {n : Nat} {z : Nat → Bool} (h : ¬ (1 ≤ litVar l ∧ litVar l ≤ n)) : litHolds l n z = false := by
  unfold litHolds; rw [if_neg h]
end Go.Proofs.Ytllgepabjglnaaa
