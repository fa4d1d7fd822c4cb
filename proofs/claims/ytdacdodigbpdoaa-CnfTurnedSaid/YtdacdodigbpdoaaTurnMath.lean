/- The plain mathematics of a variable turned round. -/
import Derived.Test.YtdacdodigbpdoaaBruteMath
namespace Go.Proofs.Ytdacdodigbpdoaa

/-- a literal, where variable x is turned round -/
def turnLit (x l : Int) : Int := if l = x ∨ l = -x then -l else l
def turnClause (x : Int) (c : List Int) : List Int := c.map (turnLit x)
def turnForm (x : Int) (xss : List (List Int)) : List (List Int) := xss.map (turnClause x)
/-- an assignment, where variable x is turned round -/
def flipAt (z : List Bool) (j : Nat) : List Bool := z.set j (!z.getD j false)
theorem flipAt_length (z : List Bool) (j : Nat) : (flipAt z j).length = z.length := by simp [flipAt]
theorem flipAt_twice (z : List Bool) (j : Nat) (h : j < z.length) : flipAt (flipAt z j) j = z := by
  unfold flipAt
  simp [List.getD, h]
theorem turnLit_var (x l : Int) : litVar (turnLit x l) = litVar l := by
  unfold turnLit; split
  · exact litVar_opp l
  · rfl
theorem turnLit_twice (x l : Int) : turnLit x (turnLit x l) = l := by
  unfold turnLit
  by_cases h : l = x ∨ l = -x
  · rw [if_pos h, if_pos (by omega)]; omega
  · rw [if_neg h, if_neg h]
theorem turnClause_len (x : Int) (c : List Int) : (turnClause x c).length = c.length := by simp [turnClause]
theorem turnForm_len (x : Int) (xss : List (List Int)) : (turnForm x xss).length = xss.length := by simp [turnForm]
theorem turnForm_getD (x : Int) (xss : List (List Int)) (j : Nat) : (turnForm x xss).getD j [] = turnClause x (xss.getD j []) := by
  unfold turnForm
  simp only [List.getD, List.getElem?_map]
  rcases xss[j]? with _ | c
  · rfl
  · rfl
theorem turnForm_twice (x : Int) (xss : List (List Int)) : turnForm x (turnForm x xss) = xss := by
  unfold turnForm turnClause
  rw [List.map_map]
  have : (fun c => List.map (turnLit x) (List.map (turnLit x) c)) = id := by
    funext c
    rw [List.map_map]
    have e : turnLit x ∘ turnLit x = id := by funext l; exact turnLit_twice x l
    rw [e]; simp
  show xss.map (fun c => List.map (turnLit x) (List.map (turnLit x) c)) = xss
  rw [this]; simp
theorem litHolds_turn {z : List Bool} {j : Nat} (hj : j < z.length) (l : Int) :
    litHolds (turnLit ((j : Int) + 1) l) z.length (fun i => (flipAt z j).getD i false) = litHolds l z.length (fun i => z.getD i false) := by
  by_cases h : 1 ≤ litVar l ∧ litVar l ≤ z.length
  · unfold litHolds
    rw [turnLit_var, if_pos h, if_pos h]
    by_cases hl : l = (j : Int) + 1 ∨ l = -((j : Int) + 1)
    · have hv : litVar l = (j : Int) + 1 := by unfold litVar; split <;> omega
      have e1 : (litVar l - 1).toNat = j := by omega
      have e2 : turnLit ((j : Int) + 1) l = -l := by unfold turnLit; rw [if_pos hl]
      rw [e1, e2]
      have e3 : (flipAt z j).getD j false = !z.getD j false := by unfold flipAt; simp [List.getD, hj]
      show ((flipAt z j).getD j false == decide (0 < -l)) = (z.getD j false == decide (0 < l))
      rw [e3]
      have e4 : decide (0 < -l) = !decide (0 < l) := by
        rcases hl with rfl | rfl
        · rw [decide_eq_true (show (0 : Int) < (j : Int) + 1 by omega), decide_eq_false (show ¬ (0 : Int) < -((j : Int) + 1) by omega)]; rfl
        · rw [decide_eq_true (show (0 : Int) < - -((j : Int) + 1) by omega), decide_eq_false (show ¬ (0 : Int) < -((j : Int) + 1) by omega)]; rfl
      rw [e4]
      cases z.getD j false <;> cases decide (0 < l) <;> rfl
    · have e2 : turnLit ((j : Int) + 1) l = l := by unfold turnLit; rw [if_neg hl]
      rw [e2]
      have hne : (litVar l - 1).toNat ≠ j := by
        intro e
        have : litVar l = (j : Int) + 1 := by omega
        unfold litVar at this
        split at this <;> omega
      have e3 : (flipAt z j).getD (litVar l - 1).toNat false = z.getD (litVar l - 1).toNat false := by unfold flipAt; simp only [List.getD, List.getElem?_set_ne (Ne.symm hne)]
      show ((flipAt z j).getD (litVar l - 1).toNat false == decide (0 < l)) = (z.getD (litVar l - 1).toNat false == decide (0 < l))
      rw [e3]
  · rw [litHolds_out (by rw [turnLit_var]; exact h), litHolds_out h]
theorem clauseSat_turn {z : List Bool} {j : Nat} (hj : j < z.length) (c : List Int) : clauseSat (flipAt z j) (turnClause ((j : Int) + 1) c) = clauseSat z c := by
  unfold clauseSat turnClause
  rw [List.any_map, flipAt_length]
  congr 1
  funext l
  exact litHolds_turn hj l
theorem formSat_turn {z : List Bool} {j : Nat} (hj : j < z.length) (xss : List (List Int)) : formSat (flipAt z j) (turnForm ((j : Int) + 1) xss) = formSat z xss := by
  unfold formSat turnForm
  rw [List.all_map]
  congr 1
  funext c
  exact clauseSat_turn hj c
end Go.Proofs.Ytdacdodigbpdoaa
