/- What package ticks answers: an element of the row. -/
import Derived.Test.YtipanbiackidgaaTick0
import Derived.Deep.LoopGhost
import Derived.BigQuiet
namespace Go.Proofs.Ytipanbiackidgaa
open Go.RowKit
set_option linter.unusedVariables false
set_option linter.unusedSimpArgs false

theorem luby_low (n : Int) (hn : n < 1) (w : World) : Calls Try.prog 18 #[.int .i64 n] w fun e w' => e = .returned (.int .i64 1) ∧ w = w' := by
  go_enter Try.func18, Try.ntmps18
  go_wp2
  go_ret
  exact ⟨rfl, rfl⟩

theorem lub_step {i v : Nat} (h : Lub i v) (hi : i ≤ 9223372036854775807) : ∃ k m : Nat, Lib.bitLen i = k + 1 ∧ k ≤ 62 ∧ 2 ^ k = m ∧ 0 < m ∧ m ≤ 4611686018427387904 ∧ m ≤ i ∧ i + 1 ≤ 2 * m ∧ (i + 1 = 2 * m → v = m) ∧ (i + 1 ≠ 2 * m → 1 < m ∧ Lub (i + 1 - m) v) := by
  obtain ⟨k, h0, h1⟩ := top_of h.pos
  have hp : 0 < 2 ^ k := Nat.two_pow_pos k
  have hk : k ≤ 62 := by
    rcases Nat.lt_or_ge 62 k with hk | hk
    · have : 2 ^ 63 ≤ 2 ^ k := Nat.pow_le_pow_right (by decide) hk
      omega
    · exact hk
  have hm : 2 ^ k ≤ 2 ^ 62 := Nat.pow_le_pow_right (by decide) hk
  have h2 : 2 ^ (k + 1) = 2 * 2 ^ k := by rw [Nat.pow_succ]; omega
  have huniq : ∀ {k' : Nat}, 2 ^ k' ≤ i → i < 2 ^ (k' + 1) → k' = k := fun {k'} a b => by
    rcases Nat.lt_trichotomy k' k with hlt | hlt | hlt
    · have : 2 ^ (k' + 1) ≤ 2 ^ k := Nat.pow_le_pow_right (by decide) hlt
      omega
    · exact hlt
    · have : 2 ^ (k + 1) ≤ 2 ^ k' := Nat.pow_le_pow_right (by decide) hlt
      omega
  refine ⟨k, 2 ^ k, bitLen_of (by omega) h0 h1, hk, rfl, hp, by omega, h0, by omega, fun he => ?_, fun he => ?_⟩
  · cases h with
    | last k' =>
      have hp' : 0 < 2 ^ k' := Nat.two_pow_pos k'
      have h2' : 2 ^ (k' + 1) = 2 * 2 ^ k' := by rw [Nat.pow_succ]; omega
      omega
    | @back k' _ _ a b c =>
      have := huniq a (by omega)
      subst this
      omega
  · cases h with
    | last k' =>
      have hp' : 0 < 2 ^ k' := Nat.two_pow_pos k'
      have h2' : 2 ^ (k' + 1) = 2 * 2 ^ k' := by rw [Nat.pow_succ]; omega
      have := huniq (k' := k') (by omega) (by omega)
      subst this
      omega
    | @back k' _ _ a b c =>
      have := huniq a (by omega)
      subst this
      refine ⟨by omega, ?_⟩
      rw [show i + 1 - 2 ^ k' = i - (2 ^ k' - 1) by omega]
      exact c

theorem wrap_pow10 {k m : Nat} (h : 2 ^ k = m) (hm : m ≤ 4611686018427387904) : wrap64 ((2 : Int) ^ k) = (m : Int) := by
  rw [show (2 : Int) ^ k = ((2 ^ k : Nat) : Int) by simp, h]
  exact IntWalk.wrap64_in _ ⟨by omega, by omega⟩

set_option maxHeartbeats 1000000 in
theorem luby_any {i v : Nat} (h : Lub i v) (hi : i ≤ 9223372036854775807) (w : World) : Calls Try.prog 18 #[.int .i64 i] w fun e w' => e = .returned (.int .i64 v) ∧ w = w' := by
  have h0 := h.pos
  have H := Lib.hid h
  clear h
  go_enter Try.func18, Try.ntmps18
  go_wp2
  go_loopg [0] (i + 1) (fun g x wr => wr = w ∧ ∃ j : Nat, Hid (Lub j v) ∧ 0 < j ∧ j ≤ 9223372036854775807 ∧ g = j + 1 ∧ x = .int .i64 j)
  case atStart => exact ⟨rfl, i, H, h0, hi, rfl, rfl⟩
  case round =>
    obtain ⟨rfl, j, hj, hj0, hj1, rfl, rfl⟩ := hrel
    obtain ⟨k, m, e1, hk, e2, hm0, hm1, hm2, hm3, hl, hb⟩ := lub_step hj.out hj1
    have HL := Lib.hid hl
    have HB := Lib.hid hb
    have HE2 := Lib.hid e2
    have HBL := Lib.hid (fun w => (by simpa [e1] using Try.bits_Len (j : Int) w (by omega) (by omega) : Calls Try.prog 20 #[.int .u64 j] w fun e w' => e = .returned (.int .i64 ((k + 1 : Nat) : Int)) ∧ w' = w))
    clear e1 e2 hl hb
    go_wp2_with fail
    refine (HBL.out _).mono ?_
    rintro e w1 ⟨rfl, rfl⟩
    go_wp2
    · rename_i hc
      rw [show wrap64 ((2 : Int) ^ k) = (m : Int) from wrap_pow10 HE2.out hm1] at hc ⊢
      have hc := eq_of_beq hc
      rw [IntWalk.wrap64_in _ ⟨by omega, by omega⟩, IntWalk.wrap64_in _ ⟨by omega, by omega⟩] at hc
      have hv := HL.out (by omega)
      go_ret
      exact ⟨by rw [hv]; rfl, rfl⟩
    · rename_i hc
      rw [show wrap64 ((2 : Int) ^ k) = (m : Int) from wrap_pow10 HE2.out hm1] at hc ⊢
      have hc := ne_of_beq_false hc
      rw [IntWalk.wrap64_in _ ⟨by omega, by omega⟩, IntWalk.wrap64_in _ ⟨by omega, by omega⟩] at hc
      obtain ⟨hm4, hl2⟩ := HB.out (by omega)
      rw [IntWalk.wrap64_in ((m : Int) - 1) ⟨by omega, by omega⟩, IntWalk.wrap64_in ((j : Int) - (↑m - 1)) ⟨by omega, by omega⟩]
      go_roundg (j + 2 - m)
      case measure => omega
      case rel => exact ⟨rfl, j + 1 - m, hl2, by omega, by omega, by omega, by go_num⟩
end Go.Proofs.Ytipanbiackidgaa
