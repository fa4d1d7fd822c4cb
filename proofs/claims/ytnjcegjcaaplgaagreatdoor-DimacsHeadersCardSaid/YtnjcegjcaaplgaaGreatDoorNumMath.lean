/- A number as strconv reads it: plain mathematics. -/
import Derived.Test.YtnjcegjcaaplgaaGreatDoorBackMath
import Derived.Lib.AtoiTie
import Derived.Lib.AtoiAllCases
namespace Go.Proofs.YtnjcegjcaaplgaaGreatDoor
set_option linter.unusedSimpArgs false
set_option linter.unusedVariables false
set_option linter.unnecessarySimpa false

theorem digit_iff {b : UInt8} : digit b = true ↔ 48 ≤ b.toNat ∧ b.toNat ≤ 57 := by unfold digit; simp
theorem numVal_snoc (w : List UInt8) (b : UInt8) : numVal (w ++ [b]) = 10 * numVal w + ((b.toNat : Int) - 48) := by unfold numVal; rw [List.foldl_append]; rfl
theorem num_lt : ∀ (n : Nat) (w : List UInt8), w.length = n → (∀ b ∈ w, digit b = true) → 0 ≤ numVal w ∧ numVal w < (10 ^ n : Nat)
  | 0, w, h, _ => by
    obtain rfl := List.eq_nil_of_length_eq_zero h
    exact ⟨by decide, by decide⟩
  | n + 1, w, h, hd => by
    rcases List.eq_nil_or_concat w with rfl | ⟨x, b, rfl⟩
    · simp at h
    · rw [List.concat_eq_append] at h hd ⊢
      have ih := num_lt n x (by simpa using h) (fun y hy => hd y (by simp [hy]))
      have hb := digit_iff.1 (hd b (by simp))
      rw [numVal_snoc, Nat.pow_succ]
      omega
theorem num_dec : ∀ (n : Nat) (w : List UInt8), w.length = n → 1 ≤ n → (∀ b ∈ w, digit b = true) → (n = 1 ∨ w.getD 0 0 ≠ 48) → ∃ u : Nat, numVal w = u ∧ Lib.decDigits u = w := by
  intro n
  induction n with
  | zero => intro w h h1; omega
  | succ n ih =>
    intro w h _ hd hf
    rcases List.eq_nil_or_concat w with rfl | ⟨x, b, rfl⟩
    · simp at h
    · rw [List.concat_eq_append] at h hd hf ⊢
      have hb := digit_iff.1 (hd b (by simp))
      have eb : UInt8.ofNat (48 + (b.toNat - 48)) = b := by
        rw [show 48 + (b.toNat - 48) = b.toNat by omega]; simp
      rw [numVal_snoc]
      rcases n with _ | n
      · have hx : x = [] := List.eq_nil_of_length_eq_zero (by simpa using h)
        subst hx
        refine ⟨b.toNat - 48, by unfold numVal; simp; omega, ?_⟩
        rw [Lib.decDigits, dif_pos (by omega), eb]; rfl
      · have hxl : x.length = n + 1 := by simpa using h
        have hfx : x.getD 0 0 ≠ 48 := by
          cases x with
          | nil => simp at hxl
          | cons y z =>
            rcases hf with hf | hf
            · omega
            · exact hf
        obtain ⟨u, hu, hdu⟩ := ih x hxl (by omega) (fun y hy => hd y (by simp [hy])) (Or.inr hfx)
        have hpos : 1 ≤ u := by
          rcases Nat.eq_zero_or_pos u with h0 | h0
          · subst h0
            rw [Lib.decDigits, dif_pos (by omega)] at hdu
            rw [← hdu] at hfx
            exact absurd rfl hfx
          · exact h0
        refine ⟨10 * u + (b.toNat - 48), by rw [hu]; push_cast; omega, ?_⟩
        rw [Lib.decDigits, dif_neg (by omega), show (10 * u + (b.toNat - 48)) / 10 = u by omega, show (10 * u + (b.toNat - 48)) % 10 = b.toNat - 48 by omega, hdu, eb]
theorem decFrom_digits : ∀ (w : List UInt8) (acc : Nat), (∀ b ∈ w, digit b = true) → ∃ n : Nat, Lib.decFrom acc w = some n ∧ (n : Int) = w.foldl (fun n b => 10 * n + ((b.toNat : Int) - 48)) acc
  | [], acc, _ => ⟨acc, rfl, rfl⟩
  | b :: w, acc, h => by
    have hb := digit_iff.1 (h b (by simp))
    obtain ⟨n, h1, h2⟩ := decFrom_digits w (acc * 10 + (b.toNat - 48)) (fun x hx => h x (by simp [hx]))
    refine ⟨n, ?_, ?_⟩
    · rw [Lib.decFrom, show Lib.digitVal b = some (b.toNat - 48) by unfold Lib.digitVal; rw [if_pos hb]]
      exact h1
    · rw [h2, List.foldl_cons]
      congr 1
      push_cast; omega

/-- a number, or less than none -/
def numG (s : List UInt8) : Int := match numOf s with | some n => n | none => -1
theorem num_some {s : List UInt8} {n : Int} (h : numOf s = some n) : 0 ≤ n ∧ n ≤ 999999999 ∧ s.length ≤ 9 ∧ Lib.itoa n = s ∧ Lib.atoiAll s = .ok n := by
  unfold numOf at h
  split at h
  · rename_i hn
    obtain rfl := Option.some.inj h
    unfold isNum at hn
    simp only [Bool.and_eq_true, decide_eq_true_eq, List.all_eq_true] at hn
    obtain ⟨⟨h1, h2, h3⟩, h4⟩ := hn
    obtain ⟨u, hu, hdu⟩ := num_dec s.length s rfl h1 h4 h3
    obtain ⟨l1, l2⟩ := num_lt s.length s rfl h4
    have hpow : 10 ^ s.length ≤ 10 ^ 9 := Nat.pow_le_pow_right (by decide) h2
    have h9 : (10 : Nat) ^ 9 = 1000000000 := by decide
    refine ⟨l1, by omega, h2, by rw [hu, Lib.itoa_nonneg]; exact hdu, ?_⟩
    rw [Lib.atoiAll_short s (by omega)]
    cases s with
    | nil => simp at h1
    | cons b r =>
      have hb := digit_iff.1 (h4 b (by simp))
      obtain ⟨n, hd, hn⟩ := decFrom_digits (b :: r) 0 h4
      have e45 : (b == 45) = false := by
        apply beq_false_of_ne
        intro e; subst e; revert hb; decide
      have e43 : (b == 43) = false := by
        apply beq_false_of_ne
        intro e; subst e; revert hb; decide
      have ea : Lib.atoi (b :: r) = some (numVal (b :: r)) := by
        show (if b == 45 then (Lib.decNat r).map fun (m : Nat) => -(m : Int) else if b == 43 then (Lib.decNat r).map fun (m : Nat) => (m : Int) else (Lib.decNat (b :: r)).map fun (m : Nat) => (m : Int)) = _
        rw [e45, e43]
        simp only [Bool.false_eq_true, if_false]
        unfold Lib.decNat
        rw [show (b :: r).isEmpty = false from rfl]
        simp only [Bool.false_eq_true, if_false]
        rw [hd]
        show some (n : Int) = _
        rw [hn]; rfl
      rw [ea]; rfl
  · cases h
theorem number_ok {s : List UInt8} {v : Int} (h : Lib.atoiAll s = .ok v) : numG s = if v < 0 ∨ 9 < s.length ∨ Lib.itoa v ≠ s then -1 else v := by
  unfold numG
  rcases hn : numOf s with _ | n
  · show (-1 : Int) = _
    by_cases hc : v < 0 ∨ 9 < s.length ∨ Lib.itoa v ≠ s
    · rw [if_pos hc]
    · exfalso
      have h0 : 0 ≤ v := by
        rcases Int.lt_or_le v 0 with h' | h'
        · exact absurd (Or.inl h') hc
        · exact h'
      have hl : s.length ≤ 9 := by
        rcases Nat.lt_or_ge 9 s.length with h' | h'
        · exact absurd (Or.inr (Or.inl h')) hc
        · exact h'
      have hs : Lib.itoa v = s := by
        apply Classical.byContradiction
        intro hs
        exact hc (Or.inr (Or.inr hs))
      obtain ⟨u, rfl⟩ : ∃ u : Nat, v = u := ⟨v.toNat, by omega⟩
      rw [Lib.itoa_nonneg] at hs
      obtain ⟨f1, _, _, f4, _, _⟩ := dec_facts u
      rw [hs] at f1 f4
      obtain ⟨l1, l2⟩ := num_lt s.length s rfl f1
      have hpow : 10 ^ s.length ≤ 10 ^ 9 := Nat.pow_le_pow_right (by decide) hl
      have h9 : (10 : Nat) ^ 9 = 1000000000 := by decide
      have := numOf_dec (u := u) (by omega)
      rw [hs, hn] at this
      cases this
  · obtain ⟨h1, h2, h3, h4, h5⟩ := num_some hn
    rw [h] at h5
    obtain rfl : v = n := by injection h5
    have hneg : ¬ (v < 0 ∨ 9 < s.length ∨ Lib.itoa v ≠ s) := by
      rintro (hc | hc | hc)
      · omega
      · omega
      · exact hc h4
    rw [if_neg hneg]
theorem number_bad {s : List UInt8} (h : ∀ v, Lib.atoiAll s ≠ .ok v) : numG s = -1 := by
  unfold numG
  rcases hn : numOf s with _ | n
  · rfl
  · exact absurd (num_some hn).2.2.2.2 (h n)
theorem numG_bounds (s : List UInt8) : -1 ≤ numG s ∧ numG s ≤ 999999999 := by
  unfold numG
  rcases hn : numOf s with _ | n
  · exact ⟨by show (-1 : Int) ≤ -1; decide, by show (-1 : Int) ≤ 999999999; decide⟩
  · have := num_some hn
    exact ⟨by show -1 ≤ n; omega, by show n ≤ _; omega⟩
end Go.Proofs.YtnjcegjcaaplgaaGreatDoor
