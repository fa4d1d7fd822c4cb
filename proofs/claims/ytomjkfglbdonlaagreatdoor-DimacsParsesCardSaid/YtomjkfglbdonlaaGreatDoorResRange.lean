/- What numbers a fault of the text holds: plain mathematics. -/
import Derived.Test.YtomjkfglbdonlaaGreatDoorParsedMem
namespace Go.Proofs.YtomjkfglbdonlaaGreatDoor

theorem takeItem_rng (r : Rd) (n : Int) : 0 ≤ (takeItem r n).2 ∧ (takeItem r n).2 ≤ 10 := by
  unfold takeItem
  repeat' split
  all_goals (constructor <;> (dsimp only; decide))
theorem takeBody_rng : ∀ (ws : List (List UInt8)) (r : Rd), 0 ≤ (takeBody r ws).2 ∧ (takeBody r ws).2 ≤ 10
  | [], r => ⟨Int.le_refl _, by show (0 : Int) ≤ 10; decide⟩
  | w :: ws, r => by
    unfold takeBody
    split
    · exact ⟨by dsimp only; decide, by dsimp only; decide⟩
    · split
      · exact takeBody_rng ws _
      · exact takeItem_rng r _
theorem takeLine_rng (r : Rd) (ws : List (List UInt8)) : 0 ≤ (takeLine r ws).2 ∧ (takeLine r ws).2 ≤ 10 := by
  unfold takeLine
  split
  · exact takeBody_rng ws r
  · unfold takeHeader
    repeat' split
    all_goals (constructor <;> (dsimp only; decide))
theorem endErr_rng (r : Rd) : 0 ≤ endErr r ∧ endErr r ≤ 10 := by
  unfold endErr
  repeat' split
  all_goals (constructor <;> decide)
theorem parseW_rng : ∀ (L : List (List (List UInt8))) (r : Rd) (n : Nat) (line E : Int), parseW r n L = .bad line E → (0 ≤ line ∧ line ≤ n + L.length) ∧ 0 ≤ E ∧ E ≤ 10
  | [], r, n, line, E, h => by
    unfold parseW at h
    split at h
    · cases h
    · injection h with h1 h2
      subst h1 h2
      exact ⟨⟨by omega, by simp⟩, endErr_rng r⟩
  | l :: ls, r, n, line, E, h => by
    rw [parseW_cons] at h
    rw [List.length_cons]
    split at h
    · have := parseW_rng ls r (n + 1) line E h
      exact ⟨⟨by omega, by omega⟩, this.2⟩
    · split at h
      · have := parseW_rng ls _ (n + 1) line E h
        exact ⟨⟨by omega, by omega⟩, this.2⟩
      · injection h with h1 h2
        subst h1 h2
        exact ⟨⟨by omega, by omega⟩, takeLine_rng r l⟩
theorem parse_bad_rng {s : List UInt8} {line E : Int} (hs : s.length ≤ 100000) (h : parseOf s = .bad line E) : (0 ≤ line ∧ line ≤ 200000) ∧ 0 ≤ E ∧ E ≤ 10 := by
  rw [parseW_of] at h
  have h1 := parseW_rng _ _ _ _ _ h
  have h2 := linesW_count s
  exact ⟨⟨h1.1.1, by omega⟩, h1.2⟩
end Go.Proofs.YtomjkfglbdonlaaGreatDoor
