/- A wrong word behind a formula's text, with remarks ahead: plain mathematics. -/
import Derived.Test.YteolgfakhkeedaaDoorBackMath
namespace Go.Proofs.YteolgfakhkeedaaDoor
set_option linter.unusedSimpArgs false
set_option linter.unusedVariables false
set_option linter.unnecessarySimpa false

/-- a remark's line, and some of them -/
def remark : List UInt8 := [99, 32, 114, 101, 109, 97, 114, 107, 10]
def remarks : Nat → List UInt8
  | 0 => []
  | n + 1 => remarks n ++ remark
theorem remarks_length (n : Nat) : (remarks n).length = 9 * n := by
  induction n with
  | zero => rfl
  | succ n ih => unfold remarks; rw [List.length_append, ih]; show _ + 9 = _; omega
theorem remarks_front (n : Nat) : remarks (n + 1) = remark ++ remarks n := by
  induction n with
  | zero => rfl
  | succ n ih =>
    show remarks (n + 1) ++ remark = remark ++ (remarks n ++ remark)
    rw [ih, List.append_assoc]
theorem parse_remarks : ∀ (n k : Nat) (r : Rd) (rest : List UInt8), parseFrom r k (linesFrom [] (remarks n ++ rest)) = parseFrom r (k + n) (linesFrom [] rest)
  | 0, k, r, rest => rfl
  | n + 1, k, r, rest => by
    have e : remarks (n + 1) ++ rest = [99, 32, 114, 101, 109, 97, 114, 107] ++ 10 :: (remarks n ++ rest) := by rw [remarks_front]; rfl
    rw [e, lines_cut_hit [99, 32, 114, 101, 109, 97, 114, 107] [] _ (by decide), parseFrom_cons', if_pos (by rfl), parse_remarks n (k + 1) r rest, show k + 1 + n = k + (n + 1) by omega]

/-- the wrong words, and what is wrong -/
def badText : Nat → List UInt8
  | 0 => [120]
  | 1 => [49, 32, 120]
  | 2 => [48, 48]
  | _ => [48]
def badErr : Nat → Int
  | 0 => 3
  | 1 => 5
  | 2 => 3
  | _ => 5
theorem badText_length (q : Nat) : (badText q).length ≤ 3 := by
  rcases q with _ | _ | _ | q <;> simp [badText]
theorem take_bad (q : Nat) (r : Rd) (hb : r.begun = true) (hs : (r.cls.length : Int) = r.stated) : takeLine r (wordsOf (badText q)) = (r, badErr q) := by
  have ht : ∀ n, takeItem r n = (r, 5) := fun n => by unfold takeItem; rw [if_pos hs]
  unfold takeLine
  rw [if_pos hb]
  rcases q with _ | _ | _ | q
  · show takeBody r [[120]] = _
    rw [takeBody, show itemOf [120] = none by decide]; rfl
  · show takeBody r [[49], [120]] = _
    rw [takeBody, show itemOf [49] = some 1 by decide]
    simp only [ht]; rfl
  · show takeBody r [[48, 48]] = _
    rw [takeBody, show itemOf [48, 48] = none by decide]; rfl
  · show takeBody r [[48]] = _
    rw [takeBody, show itemOf [48] = some 0 by decide]
    simp only [ht]; rfl
theorem skip_bad (q : Nat) : skipLine (wordsOf (badText q)) = false := by
  rcases q with _ | _ | _ | q <;> rfl
theorem badErr_ne (q : Nat) : badErr q ≠ 0 := by rcases q with _ | _ | _ | q <;> simp [badErr]
theorem bad_plain (q : Nat) : ∀ b ∈ badText q, b ≠ 10 := by rcases q with _ | _ | _ | q <;> simp [badText]
theorem parse_lines {V : Int} {cls : List (List Int)} (n q : Nat) (hV0 : 0 ≤ V) (hV : V ≤ 100000) (hn : cls.length ≤ 200000) (hc : ∀ c ∈ cls, ClauseOk V c) (hl : litCount cls ≤ 1000000) :
    parseOf (remarks n ++ (formText V cls ++ (badText q ++ [10, 10]))) = .bad (n + 1 + cls.length + 1) (badErr q) := by
  unfold parseOf linesOf
  rw [parse_remarks, parse_form _ _ hV0 hV hn hc hl, show badText q ++ [10, 10] = badText q ++ 10 :: [10] from rfl, lines_cut_hit (badText q) [] [10] (bad_plain q), List.nil_append, parseFrom_cons', skip_bad,
    take_bad q { begun := true, stated := cls.length, vars := V, cls := cls, opn := [] } rfl rfl]
  simp only [Bool.false_eq_true, if_false]
  rw [if_neg (badErr_ne q)]
  congr 1
  push_cast; omega
end Go.Proofs.YteolgfakhkeedaaDoor
