/- What the reader's answer is bounded by: plain mathematics. -/
import Derived.Test.YtnjcegjcaaplgaaGreatDoorParsedMem
import Derived.Test.YtnjcegjcaaplgaaGreatDoorLaw02
namespace Go.Proofs.YtnjcegjcaaplgaaGreatDoor

theorem parseW_size (M : Nat) : ∀ (L : List (List (List UInt8))) (r : Rd) (n : Nat) (v : Int) (cls : List (List Int)), (∀ ws ∈ L, ws.length ≤ M) → parseW r n L = .ok v cls → cls.length + litCount cls ≤ r.size + M * L.length
  | [], r, n, v, cls, _, h => by
    unfold parseW at h
    split at h
    · injection h with h1 h2
      subst h2
      unfold Rd.size Rd.lits
      omega
    · cases h
  | l :: ls, r, n, v, cls, hm, h => by
    rw [parseW_cons] at h
    have hl := hm l (by simp)
    have hls : ∀ ws ∈ ls, ws.length ≤ M := fun ws hw => hm ws (by simp [hw])
    split at h
    · have := parseW_size M ls r (n + 1) v cls hls h
      rw [List.length_cons, Nat.mul_succ]
      omega
    · split at h
      · have h1 := parseW_size M ls (takeLine r l).1 (n + 1) v cls hls h
        have h2 := takeLine_size r l
        rw [List.length_cons, Nat.mul_succ]
        omega
      · cases h
theorem parseW_bad : ∀ (L : List (List (List UInt8))) (r : Rd) (n : Nat) (line E : Int), parseW r n L = .bad line E → E ≠ 0
  | [], r, n, line, E, h => by
    unfold parseW at h
    split at h
    · cases h
    · injection h with h1 h2
      subst h2
      assumption
  | l :: ls, r, n, line, E, h => by
    rw [parseW_cons] at h
    split at h
    · exact parseW_bad ls r (n + 1) line E h
    · split at h
      · exact parseW_bad ls _ (n + 1) line E h
      · injection h with h1 h2
        subst h2
        assumption
theorem parse_bad_ne {s : List UInt8} {line E : Int} (h : parseOf s = .bad line E) : E ≠ 0 := by
  rw [parseW_of] at h
  exact parseW_bad _ _ _ _ _ h
theorem row_le (cls : List (List Int)) (j : Nat) : (cls.getD j []).length ≤ litCount cls := by
  by_cases hj : j < cls.length
  · have h3 := litCount_take hj
    have h4 := litCount_take_le cls (j + 1)
    omega
  · rw [List.getD, List.getElem?_eq_none (by omega)]; simp
theorem parse_ok_size {s : List UInt8} {v : Int} {cls : List (List Int)} (hs : s.length ≤ 100000) (h : parseOf s = .ok v cls) : cls.length ≤ 1099511627776 ∧ ∀ j, (cls.getD j []).length ≤ 1099511627776 := by
  rw [parseW_of] at h
  have h1 := parseW_size 100000 (linesW s) Rd.start 0 v cls (fun ws hw => by have := (linesW_len hw).1; omega) h
  have h2 := linesW_count s
  have h3 : Rd.start.size = 0 := by decide
  rw [h3] at h1
  have h4 : 100000 * (linesW s).length ≤ 100000 * 100001 := Nat.mul_le_mul_left _ (by omega)
  exact ⟨by omega, fun j => by have := row_le cls j; omega⟩
theorem sameForm_self (v : Int) (cls : List (List Int)) : sameForm v v cls cls = true := by unfold sameForm; simp
end Go.Proofs.YtnjcegjcaaplgaaGreatDoor
