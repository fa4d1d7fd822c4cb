/- The statements' own reading of a text is the same: plain mathematics. -/
import Derived.Test.YtnjcegjcaaplgaaGreatDoorScan
import Derived.Test.YtnjcegjcaaplgaaGreatDoorNumMath
namespace Go.Proofs.YtnjcegjcaaplgaaGreatDoor
set_option linter.unusedSimpArgs false
set_option linter.unusedVariables false
set_option linter.unnecessarySimpa false

/-- lines as their words -/
def parseW (r : Rd) (n : Nat) : List (List (List UInt8)) → Res
  | [] => if endErr r = 0 then .ok r.vars r.cls else .bad n (endErr r)
  | l :: ls => if skipLine l then parseW r (n + 1) ls else if (takeLine r l).2 = 0 then parseW (takeLine r l).1 (n + 1) ls else .bad (n + 1) (takeLine r l).2
theorem parseW_cons (r : Rd) (n : Nat) (l : List (List UInt8)) (ls : List (List (List UInt8))) : parseW r n (l :: ls) = if skipLine l then parseW r (n + 1) ls else if (takeLine r l).2 = 0 then parseW (takeLine r l).1 (n + 1) ls else .bad (n + 1) (takeLine r l).2 := rfl
theorem parseW_from : ∀ (ls : List (List UInt8)) (r : Rd) (n : Nat), parseFrom r n ls = parseW r n (ls.map wordsOf)
  | [], r, n => rfl
  | l :: ls, r, n => by
    rw [parseFrom_cons', List.map_cons, parseW_cons, parseW_from ls r (n + 1), parseW_from ls (takeLine r (wordsOf l)).1 (n + 1)]
theorem parseW_of (s : List UInt8) : parseOf s = parseW Rd.start 0 (linesW s) := parseW_from _ _ _
theorem linesW_ne {s : List UInt8} {ws : List (List UInt8)} (h : ws ∈ linesW s) : ∀ x ∈ ws, x ≠ [] := by
  unfold linesW at h
  obtain ⟨l, _, rfl⟩ := List.mem_map.1 h
  exact wordsOf_ne l []
theorem linesFrom_mem : ∀ (s cur : List UInt8), ∀ l ∈ linesFrom cur s, l.length ≤ cur.length + s.length
  | [], cur => by simp [linesFrom]
  | b :: r, cur => by
    intro l hl
    rw [linesFrom] at hl
    split at hl
    · rcases List.mem_cons.1 hl with rfl | hl
      · omega
      · have := linesFrom_mem r [] l hl
        simp at this ⊢; omega
    · have := linesFrom_mem r (cur ++ [b]) l hl
      simp at this ⊢; omega
theorem wordsFrom_mem : ∀ (l cur : List UInt8), ∀ x ∈ wordsFrom cur l, x.length ≤ cur.length + l.length
  | [], cur => by unfold wordsFrom; cases cur <;> simp
  | b :: r, cur => by
    intro x hx
    rw [wordsFrom_cons] at hx
    split at hx
    · split at hx
      · have := wordsFrom_mem r [] x hx
        simp at this ⊢; omega
      · rcases List.mem_cons.1 hx with rfl | hx
        · omega
        · have := wordsFrom_mem r [] x hx
          simp at this ⊢; omega
    · have := wordsFrom_mem r (cur ++ [b]) x hx
      simp at this ⊢; omega
/-- no word is longer than the text, and no line has more words than it has bytes -/
theorem linesW_len {s : List UInt8} {ws : List (List UInt8)} (h : ws ∈ linesW s) : ws.length ≤ s.length ∧ ∀ x ∈ ws, x.length ≤ s.length := by
  unfold linesW linesOf at h
  obtain ⟨l, hl, rfl⟩ := List.mem_map.1 h
  have h1 := linesFrom_mem s [] l hl
  simp at h1
  constructor
  · have := wordsOf_len l []
    unfold wordsOf
    simp at this; omega
  · intro x hx
    have := wordsFrom_mem l [] x hx
    simp at this; omega
theorem linesFrom_len : ∀ (s cur : List UInt8), (linesFrom cur s).length ≤ s.length + 1
  | [], cur => by simp [linesFrom]
  | b :: r, cur => by
    rw [linesFrom]
    split
    · have := linesFrom_len r []
      simp; omega
    · have := linesFrom_len r (cur ++ [b])
      simp; omega
theorem linesW_count (s : List UInt8) : (linesW s).length ≤ s.length + 1 := by unfold linesW linesOf; rw [List.length_map]; exact linesFrom_len s []

theorem numG_some {s : List UInt8} (h : 0 ≤ numG s) : numOf s = some (numG s) := by
  unfold numG at h ⊢
  rcases hn : numOf s with _ | n
  · rw [hn] at h; exact absurd h (by show ¬ (0 : Int) ≤ -1; decide)
  · rfl
theorem numG_none {s : List UInt8} (h : numG s < 0) : numOf s = none := by
  unfold numG at h
  rcases hn : numOf s with _ | n
  · rfl
  · rw [hn] at h
    have := (num_some hn).1
    exact absurd h (by show ¬ n < 0; omega)
theorem item_minus {x : List UInt8} (h : x.getD 0 0 = 45) : itemOf x = if numG (x.drop 1) < 0 ∨ numG (x.drop 1) = 0 then none else some (-(numG (x.drop 1))) := by
  unfold itemOf
  rw [if_pos h]
  have hs := @numG_some (x.drop 1)
  have hn := @numG_none (x.drop 1)
  generalize x.drop 1 = y at hs hn
  generalize numG y = g at hs hn
  by_cases h0 : g < 0
  · rw [if_pos (Or.inl h0), hn h0]
  · rw [hs (by omega)]
    by_cases h1 : g = 0
    · rw [if_pos (Or.inr h1)]; simp [h1]
    · rw [if_neg (by omega)]; simp [h1]
theorem item_plain {x : List UInt8} (h : x.getD 0 0 ≠ 45) : itemOf x = if numG x < 0 then none else some (numG x) := by
  unfold itemOf
  rw [if_neg h]
  by_cases h0 : numG x < 0
  · rw [if_pos h0, numG_none h0]
  · rw [if_neg h0, numG_some (by omega)]
theorem header_four {ws : List (List UInt8)} (h : ws.length ≠ 4) : headerOf ws = none := by
  unfold headerOf
  split
  · exact absurd rfl h
  · rfl
theorem header_eq (p c a b : List UInt8) : headerOf [p, c, a, b] = if p = [112] ∧ c = [99, 110, 102] then (match numOf a, numOf b with | some v, some k => some (v, k) | _, _ => none) else none := rfl
theorem header_p {p c a b : List UInt8} (h : p ≠ [112]) : headerOf [p, c, a, b] = none := by rw [header_eq, if_neg (fun e => h e.1)]
theorem header_cnf {p c a b : List UInt8} (h : c ≠ [99, 110, 102]) : headerOf [p, c, a, b] = none := by rw [header_eq, if_neg (fun e => h e.2)]
theorem header_a {p c a b : List UInt8} (h : numG a < 0) : headerOf [p, c, a, b] = none := by
  rw [header_eq, numG_none h]
  split <;> rfl
theorem header_b {p c a b : List UInt8} (h : numG b < 0) : headerOf [p, c, a, b] = none := by
  rw [header_eq, numG_none h]
  rcases numOf a with _ | v
  · split <;> rfl
  · split <;> rfl
theorem header_ok {a b : List UInt8} (ha : 0 ≤ numG a) (hb : 0 ≤ numG b) : headerOf [[112], [99, 110, 102], a, b] = some (numG a, numG b) := by
  rw [header_eq, numG_some ha, numG_some hb, if_pos ⟨rfl, rfl⟩]
end Go.Proofs.YtnjcegjcaaplgaaGreatDoor
