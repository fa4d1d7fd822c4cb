/- Clauses moved together, as plain mathematics. No program is named here. -/
import Derived.Test.YtnjcegjcaaplgaaArenaMath
namespace Go.Proofs.Ytnjcegjcaaplgaa

def live (cs : List Cl) : List Cl := cs.filter (·.alive)
theorem live_append (a b : List Cl) : live (a ++ b) = live a ++ live b := by simp [live]
theorem live_yes {c : Cl} (r : List Cl) (h : c.alive = true) : live (c :: r) = c :: live r := by simp [live, h]
theorem live_no {c : Cl} (r : List Cl) (h : c.alive = false) : live (c :: r) = live r := by simp [live, h]
theorem live_alive (cs : List Cl) : ∀ c ∈ live cs, c.alive = true := fun c h => by simpa using (List.mem_filter.1 h).2
theorem live_length (cs : List Cl) : (live cs).length = countOf cs := rfl
theorem count_live (cs : List Cl) : countOf (live cs) = countOf cs := by
  unfold countOf live
  rw [List.filter_filter]
  simp
theorem total_live_le (cs : List Cl) : total (live cs) ≤ total cs := by
  induction cs with
  | nil => simp [live]
  | cons c r ih =>
    cases h : c.alive
    · rw [live_no r h, total_cons]; omega
    · rw [live_yes r h, total_cons, total_cons]; omega

/-- where the clause that begins at x and is there comes to lie -/
def movedFrom : Nat → List Cl → Int → Option Int
  | _, [], _ => none
  | e, c :: r, x => if x = 0 then (if c.alive then some (e : Int) else none) else movedFrom (if c.alive then e + c.size else e) r (x - c.size)

theorem moved_isSome (cs : List Cl) : ∀ (e : Nat) (x : Int), (movedFrom e cs x).isSome = (at? cs x).isSome := by
  induction cs with
  | nil => intro e x; rfl
  | cons c r ih =>
    intro e x
    unfold movedFrom at?
    by_cases hx : x = 0
    · rw [if_pos hx, if_pos hx]; cases c.alive <;> rfl
    · rw [if_neg hx, if_neg hx, ih]
theorem moved_append (a b : List Cl) : ∀ (e : Nat) (x : Int), movedFrom e (a ++ b) x = if x < total a then movedFrom e a x else movedFrom (e + total (live a)) b (x - total a) := by
  induction a with
  | nil =>
    intro e x
    have h0 : total [] = 0 := rfl
    have h1 : total (live []) = 0 := rfl
    rw [h0, h1]
    by_cases h : x < 0
    · rw [if_pos (by omega)]
      have h2 : ∀ (cs : List Cl) (e : Nat) (x : Int), x < 0 → movedFrom e cs x = none := by
        intro cs
        induction cs with
        | nil => intro e x _; rfl
        | cons c r ih => intro e x hx; unfold movedFrom; rw [if_neg (by omega)]; exact ih _ _ (by omega)
      exact h2 b e x h
    · rw [if_neg (by omega)]; simp
  | cons c r ih =>
    intro e x
    have := c.size_pos
    rw [List.cons_append, movedFrom, movedFrom, total_cons]
    by_cases hx : x = 0
    · rw [if_pos hx, if_pos hx, if_pos (show x < ((c.size + total r : Nat) : Int) by omega)]
    · rw [if_neg hx, if_neg hx, ih]
      have e1 : x - (c.size : Int) - total r = x - ((c.size + total r : Nat) : Int) := by omega
      have e2 : (if c.alive = true then e + c.size else e) + total (live r) = e + total (live (c :: r)) := by
        cases hc : c.alive
        · rw [live_no r hc]; simp
        · rw [live_yes r hc, total_cons]; simp; omega
      rw [e1, e2]
      by_cases h : x - (c.size : Int) < total r
      · rw [if_pos h, if_pos (show x < ((c.size + total r : Nat) : Int) by omega)]
      · rw [if_neg h, if_neg (show ¬ x < ((c.size + total r : Nat) : Int) by omega)]
theorem moved_snoc (a : List Cl) (c : Cl) (x : Int) : movedFrom 0 (a ++ [c]) x = if x = total a then (if c.alive then some (total (live a) : Int) else none) else movedFrom 0 a x := by
  rw [moved_append]
  by_cases h : x < total a
  · rw [if_pos h, if_neg (by omega)]
  · rw [if_neg h]
    by_cases hx : x = total a
    · rw [if_pos hx, hx, Int.sub_self, movedFrom, if_pos rfl, Nat.zero_add]
    · rw [if_neg hx, movedFrom, if_neg (by omega), movedFrom]
      have := moved_isSome a 0 x
      rw [at?_far a x (by omega)] at this
      cases hm : movedFrom 0 a x with
      | none => rfl
      | some y => rw [hm] at this; cases this
theorem moved_to (cs : List Cl) : ∀ (e : Nat) (x y : Int), movedFrom e cs x = some y → (e : Int) ≤ y ∧ (at? (live cs) (y - e)).isSome = true := by
  induction cs with
  | nil => intro e x y h; cases h
  | cons c r ih =>
    intro e x y h
    have := c.size_pos
    unfold movedFrom at h
    cases hc : c.alive with
    | true =>
      rw [live_yes r hc]
      rw [hc] at h
      by_cases hx : x = 0
      · rw [if_pos hx] at h
        simp at h
        subst h
        refine ⟨by omega, ?_⟩
        rw [Int.sub_self, at?, if_pos rfl, if_pos hc]; rfl
      · rw [if_neg hx] at h
        simp at h
        obtain ⟨h1, h2⟩ := ih _ _ _ h
        refine ⟨by omega, ?_⟩
        rw [at?, if_neg (by omega), show y - (e : Int) - c.size = y - ((e + c.size : Nat) : Int) by omega]
        exact h2
    | false =>
      rw [live_no r hc]
      rw [hc] at h
      by_cases hx : x = 0
      · rw [if_pos hx] at h; simp at h
      · rw [if_neg hx] at h
        simp at h
        exact ih _ _ _ h
theorem moved_from (cs : List Cl) : ∀ (e : Nat) (z : Int), (at? (live cs) z).isSome = true → ∃ x, movedFrom e cs x = some (e + z) := by
  induction cs with
  | nil => intro e z h; cases h
  | cons c r ih =>
    intro e z h
    have := c.size_pos
    cases hc : c.alive with
    | true =>
      rw [live_yes r hc, at?] at h
      by_cases hz : z = 0
      · exact ⟨0, by rw [movedFrom, if_pos rfl, if_pos hc, hz]; simp⟩
      · rw [if_neg hz] at h
        obtain ⟨x, hx⟩ := ih (e + c.size) _ h
        have hx0 : 0 ≤ x := by
          have h1 := moved_isSome r (e + c.size) x
          rw [hx] at h1
          by_cases h0 : x < 0
          · rw [at?_neg r x h0] at h1; cases h1
          · omega
        refine ⟨x + c.size, ?_⟩
        rw [movedFrom, if_neg (by omega), if_pos hc, show x + (c.size : Int) - c.size = x by omega, hx]
        congr 1
        omega
    | false =>
      rw [live_no r hc] at h
      obtain ⟨x, hx⟩ := ih e z h
      have hx0 : 0 ≤ x := by
        have h1 := moved_isSome r e x
        rw [hx] at h1
        by_cases h0 : x < 0
        · rw [at?_neg r x h0] at h1; cases h1
        · omega
      refine ⟨x + c.size, ?_⟩
      rw [movedFrom, if_neg (by omega), hc, show x + (c.size : Int) - c.size = x by omega]
      exact hx
theorem moved_inj (cs : List Cl) : ∀ (e : Nat) (x x' y : Int), movedFrom e cs x = some y → movedFrom e cs x' = some y → x = x' := by
  induction cs with
  | nil => intro e x x' y h; cases h
  | cons c r ih =>
    intro e x x' y h h'
    have := c.size_pos
    unfold movedFrom at h h'
    by_cases hx : x = 0 <;> by_cases hx' : x' = 0
    · omega
    · rw [if_pos hx] at h
      rw [if_neg hx'] at h'
      cases hc : c.alive <;> rw [hc] at h h' <;> simp at h h'
      have := (moved_to r _ _ _ h').1
      omega
    · rw [if_neg hx] at h
      rw [if_pos hx'] at h'
      cases hc : c.alive <;> rw [hc] at h h' <;> simp at h h'
      have := (moved_to r _ _ _ h).1
      omega
    · rw [if_neg hx] at h
      rw [if_neg hx'] at h'
      have := ih _ _ _ _ h h'
      omega
theorem at?_end_none (cs : List Cl) : at? cs (total cs) = none := at?_far cs _ (by omega)

/-- a clause's words copied to the front -/
theorem copy_words {ws : List Int} {pre post : List Cl} {cl : Cl} (ha : cl.alive = true) (h1 : ws.take (total (live pre)) = wordsOf (live pre)) (h2 : ws.drop (total pre) = wordsOf (cl :: post)) :
    (ws.take (total (live pre)) ++ (cl.words ++ ws.drop (total (live pre) + cl.size))).take (total (live (pre ++ [cl]))) = wordsOf (live (pre ++ [cl])) ∧
    (ws.take (total (live pre)) ++ (cl.words ++ ws.drop (total (live pre) + cl.size))).drop (total (pre ++ [cl])) = wordsOf post := by
  have hle := total_live_le pre
  have e1 : live (pre ++ [cl]) = live pre ++ [cl] := by rw [live_append, live_yes [] ha]; rfl
  have hl : (wordsOf (live pre)).length = total (live pre) := rfl
  rw [h1, e1, total_snoc, total_snoc, wordsOf_snoc]
  constructor
  · rw [← List.append_assoc, List.take_append_of_le_length (by rw [List.length_append, hl, Cl.words_length]; omega), List.take_of_length_le (by rw [List.length_append, hl, Cl.words_length]; omega)]
  · rw [← List.append_assoc, List.drop_append, List.drop_eq_nil_of_le (by rw [List.length_append, hl, Cl.words_length]; omega), List.nil_append, List.drop_drop, List.length_append, hl, Cl.words_length]
    rw [show total (live pre) + cl.size + (total pre + cl.size - (total (live pre) + cl.size)) = total pre + cl.size by omega, ← List.drop_drop, h2, wordsOf_cons, List.drop_append, List.drop_eq_nil_of_le (by rw [Cl.words_length]; omega), Cl.words_length]
    simp
end Go.Proofs.Ytnjcegjcaaplgaa
