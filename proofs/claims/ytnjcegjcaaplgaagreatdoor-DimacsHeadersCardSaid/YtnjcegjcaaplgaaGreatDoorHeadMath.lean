/- What a header alone comes to: plain mathematics. -/
import Derived.Test.YtnjcegjcaaplgaaGreatDoorBackMath
namespace Go.Proofs.YtnjcegjcaaplgaaGreatDoor
set_option linter.unusedSimpArgs false
set_option linter.unusedVariables false
set_option linter.unnecessarySimpa false

theorem parse_head {V C : Int} (hV0 : 0 ≤ V) (hV : V ≤ 999999999) (hC0 : 0 ≤ C) (hC : C ≤ 999999999) : parseOf (headText V C) = if 100000 < V ∨ 200000 < C then .bad 1 8 else if 0 < C then .bad 2 6 else .ok V [] := by
  have hl : linesOf (headText V C) = [headLine V C, []] := by
    have e : headText V C = headLine V C ++ 10 :: [] := rfl
    unfold linesOf
    rw [e, lines_cut_hit _ _ _ (headLine_plain V C)]
    rfl
  have hs : skipLine (wordsOf (headLine V C)) = false := by rw [words_head]; rfl
  unfold parseOf
  rw [hl, parseFrom_cons', hs]
  simp only [Bool.false_eq_true, if_false]
  have hT : takeLine Rd.start (wordsOf (headLine V C)) = if 100000 < V ∨ 200000 < C then (Rd.start, 8) else ({ begun := true, stated := C, vars := V, cls := [], opn := [] }, 0) := by
    unfold takeLine takeHeader
    rw [header_head hV0 hV hC0 hC]
    rfl
  rw [hT]
  by_cases h : 100000 < V ∨ 200000 < C
  · rw [if_pos h, if_pos h]; rfl
  · rw [if_neg h, if_neg h]
    simp only [if_true]
    rw [parseFrom_cons', show skipLine (wordsOf []) = true from rfl, if_pos rfl]
    by_cases hc : 0 < C
    · rw [if_pos hc]
      unfold parseFrom endErr
      simp [hc]
    · rw [if_neg hc]
      unfold parseFrom endErr
      simp [hc]

/-- does a word hold plain bytes alone -/
def plainW (w : List UInt8) : Bool := w.all fun b => decide (32 < b.toNat ∧ b.toNat < 127)
/-- the words, each with a blank behind it -/
def blankW (ws : List (List UInt8)) : List UInt8 := ws.flatMap fun w => w ++ [32]
theorem blankW_take {ws : List (List UInt8)} {k : Nat} (hk : k < ws.length) : blankW (ws.take (k + 1)) = blankW (ws.take k) ++ ((ws.getD k []) ++ [32]) := by
  rw [List.take_succ_eq_append_getElem hk]; unfold blankW; rw [List.flatMap_append]; simp [List.getD, hk]
theorem blankW_len : ∀ (ws : List (List UInt8)), (∀ x ∈ ws, x.length ≤ 12) → (blankW ws).length ≤ 13 * ws.length
  | [], _ => by simp [blankW]
  | x :: r, h => by
    have h1 := h x (by simp)
    have h2 := blankW_len r (fun y hy => h y (by simp [hy]))
    have e : blankW (x :: r) = (x ++ [32]) ++ blankW r := rfl
    rw [e]
    simp only [List.length_append, List.length_cons, List.length_nil]
    omega
theorem take_mem {α : Type} {xs : List α} {k : Nat} (hk : k < xs.length) (d : α) {p : α → Prop} (h : ∀ x ∈ xs.take k, p x) (hb : p (xs.getD k d)) : ∀ x ∈ xs.take (k + 1), p x := by
  rw [List.take_succ_eq_append_getElem hk]
  intro y hy
  rcases List.mem_append.1 hy with hy | hy
  · exact h y hy
  · rw [List.mem_singleton.1 hy]
    simpa [List.getD, hk] using hb
end Go.Proofs.YtnjcegjcaaplgaaGreatDoor
