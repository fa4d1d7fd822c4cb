/- The text of a formula: plain mathematics. -/
import Derived.Test.YtnjcegjcaaplgaaGreatDoorDimMath
import Derived.Lib.Itoa
import Derived.Lib.ItoaLen
namespace Go.Proofs.YtnjcegjcaaplgaaGreatDoor
set_option linter.unusedSimpArgs false
set_option linter.unusedVariables false
set_option linter.unnecessarySimpa false

/-- a clause's text, and a formula's -/
def litsText (c : List Int) : List UInt8 := c.flatMap fun l => Lib.itoa l ++ [32]
def clauseText (c : List Int) : List UInt8 := litsText c ++ [48, 10]
def headText (V : Int) (n : Int) : List UInt8 := [112, 32, 99, 110, 102, 32] ++ Lib.itoa V ++ [32] ++ Lib.itoa n ++ [10]
def clausesText (cls : List (List Int)) : List UInt8 := cls.flatMap clauseText
def formText (V : Int) (cls : List (List Int)) : List UInt8 := headText V cls.length ++ clausesText cls

theorem litsText_take {c : List Int} {k : Nat} (hk : k < c.length) : litsText (c.take (k + 1)) = litsText (c.take k) ++ (Lib.itoa (c.getD k 0) ++ [32]) := by
  unfold litsText
  rw [List.take_succ_eq_append_getElem hk, List.flatMap_append]
  simp [List.getD, hk]
theorem clausesText_take {cls : List (List Int)} {k : Nat} (hk : k < cls.length) : clausesText (cls.take (k + 1)) = clausesText (cls.take k) ++ clauseText (cls.getD k []) := by
  unfold clausesText
  rw [List.take_succ_eq_append_getElem hk, List.flatMap_append]
  simp [List.getD, hk]
theorem litsText_split (c : List Int) (j : Nat) : litsText c = litsText (c.take j) ++ litsText (c.drop j) := by
  unfold litsText; rw [← List.flatMap_append, List.take_append_drop]
theorem clausesText_split (cls : List (List Int)) (k : Nat) : clausesText cls = clausesText (cls.take k) ++ clausesText (cls.drop k) := by
  unfold clausesText; rw [← List.flatMap_append, List.take_append_drop]
/-- what is written so far leaves room for what is to come -/
theorem text_room {cls : List (List Int)} {k j : Nat} (hk : k < cls.length) : (clausesText (cls.take k)).length + (litsText ((cls.getD k []).take j)).length + 2 ≤ (clausesText cls).length := by
  have h1 := congrArg List.length (clausesText_split cls k)
  have h2 : clausesText (cls.drop k) = clauseText (cls.getD k []) ++ clausesText (cls.drop (k + 1)) := by
    rw [drop_getD [] cls k hk]; rfl
  rw [h2] at h1
  have h3 := congrArg List.length (litsText_split (cls.getD k []) j)
  unfold clauseText at h1
  simp only [List.length_append, List.length_cons, List.length_nil] at h1 h3
  omega
theorem lits_room {c : List Int} {j : Nat} (hj : j < c.length) : (litsText (c.take j)).length + (Lib.itoa (c.getD j 0)).length + 1 = (litsText (c.take (j + 1))).length := by
  rw [litsText_take hj]; simp; omega
end Go.Proofs.YtnjcegjcaaplgaaGreatDoor
