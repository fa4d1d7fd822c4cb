/- The words of a text's lines, byte by byte: plain mathematics. -/
import Derived.Test.YtnjcegjcaaplgaaGreatDoorDimMath
namespace Go.Proofs.YtnjcegjcaaplgaaGreatDoor
set_option linter.unusedSimpArgs false
set_option linter.unusedVariables false

/-- the open word, as words -/
def openW (cur : List UInt8) : List (List UInt8) := if cur.isEmpty then [] else [cur]
def scan : List (List UInt8) → List UInt8 → List UInt8 → List (List (List UInt8))
  | ws, cur, [] => [ws ++ openW cur]
  | ws, cur, b :: r => if b == 10 then (ws ++ openW cur) :: scan [] [] r else if isGap b then scan (ws ++ openW cur) [] r else scan ws (cur ++ [b]) r
theorem scan_lines : ∀ (r pre cur : List UInt8) (ws : List (List UInt8)), (∀ x, wordsFrom [] (pre ++ x) = ws ++ wordsFrom cur x) → scan ws cur r = (linesFrom pre r).map wordsOf
  | [], pre, cur, ws, h => by
    have := h []
    rw [List.append_nil] at this
    show [ws ++ openW cur] = [wordsOf pre]
    unfold wordsOf
    rw [this]
    rfl
  | b :: r, pre, cur, ws, h => by
    rw [scan, linesFrom]
    by_cases hb : (b == 10) = true
    · rw [if_pos hb, if_pos hb, List.map_cons, scan_lines r [] [] [] (fun x => rfl)]
      have := h []
      rw [List.append_nil] at this
      congr 1
      unfold wordsOf
      rw [this]
      rfl
    · rw [if_neg hb, if_neg hb]
      by_cases hg : isGap b = true
      · rw [if_pos hg]
        refine scan_lines r (pre ++ [b]) [] (ws ++ openW cur) fun x => ?_
        rw [List.append_assoc, h, List.singleton_append, wordsFrom_cons, if_pos hg]
        unfold openW
        cases cur <;> simp
      · rw [if_neg hg]
        refine scan_lines r (pre ++ [b]) (cur ++ [b]) ws fun x => ?_
        rw [List.append_assoc, h, List.singleton_append, wordsFrom_cons, if_neg hg]
/-- the lines of a text, each as its words -/
def linesW (s : List UInt8) : List (List (List UInt8)) := (linesOf s).map wordsOf
theorem linesW_scan (s : List UInt8) : linesW s = scan [] [] s := (scan_lines s [] [] [] (fun x => rfl)).symm
end Go.Proofs.YtnjcegjcaaplgaaGreatDoor
