/- What package ticks answers: sums and products. -/
import Derived.Test.YtipanbiackidgaaTickMath
import Derived.Test.YtipanbiackidgaaOwnRows
import Derived.Test.YtipanbiackidgaaShelf
import Derived.Test.YtipanbiackidgaaBits
import Derived.WalkSpells
import Derived.Handy
namespace Go.Proofs.Ytipanbiackidgaa
open Go.RowKit
set_option linter.unusedVariables false
set_option linter.unusedSimpArgs false

theorem clamp_any (n : Int) (w : World) : Calls Try.prog 19 #[.int .i64 n] w fun e w' => e = .returned (.int .i64 (clampN n)) ∧ w = w' := by
  rw [← clamp_int]
  go_enter Try.func19, Try.ntmps19
  go_wp2
  go_ret
  exact ⟨rfl, rfl⟩
theorem sum_any (a c : Int) (w : World) : Calls Try.prog 10 #[.int .i64 a, .int .i64 c] w fun e w' => e = .returned (.int .i64 (sumN a c)) ∧ w = w' := by
  have CA := Lib.hid (fun w => clamp_any a w)
  have CC := Lib.hid (fun w => clamp_any c w)
  have h1 := clampN_le a
  have h2 := clampN_le c
  obtain ⟨x, hx⟩ : ∃ x, clampN a = x := ⟨_, rfl⟩
  obtain ⟨y, hy⟩ : ∃ y, clampN c = y := ⟨_, rfl⟩
  have hs : sumN a c = min (x + y) 4611686018427387904 := by rw [sumN, hx, hy]
  rw [hx] at CA h1
  rw [hy] at CC h2
  rw [hs]
  clear hx hy hs
  by_cases h : 4611686018427387904 < x + y
  · rw [Nat.min_eq_right (by omega)]
    go_enter Try.func10, Try.ntmps10
    go_wp2_with fail
    refine (CA.out _).mono ?_
    rintro e w1 ⟨rfl, rfl⟩
    go_wp2_with fail
    refine (CC.out _).mono ?_
    rintro e w1 ⟨rfl, rfl⟩
    go_wp2
    go_ret
    exact ⟨rfl, rfl⟩
  · rw [Nat.min_eq_left (by omega)]
    go_enter Try.func10, Try.ntmps10
    go_wp2_with fail
    refine (CA.out _).mono ?_
    rintro e w1 ⟨rfl, rfl⟩
    go_wp2_with fail
    refine (CC.out _).mono ?_
    rintro e w1 ⟨rfl, rfl⟩
    go_wp2
    go_ret
    exact ⟨by simp, rfl⟩
theorem times_any (a c : Int) (w : World) : Calls Try.prog 11 #[.int .i64 a, .int .i64 c] w fun e w' => e = .returned (.int .i64 (timesN a c)) ∧ w = w' := by
  have CA := Lib.hid (fun w => clamp_any a w)
  have CC := Lib.hid (fun w => clamp_any c w)
  have h1 := clampN_le a
  have h2 := clampN_le c
  obtain ⟨x, hx⟩ : ∃ x, clampN a = x := ⟨_, rfl⟩
  obtain ⟨y, hy⟩ : ∃ y, clampN c = y := ⟨_, rfl⟩
  have hs : timesN a c = min (x * y) 4611686018427387904 := by rw [timesN, hx, hy]
  rw [hx] at CA h1
  rw [hy] at CC h2
  rw [hs]
  clear hx hy hs
  rcases Nat.eq_zero_or_pos y with rfl | hy0
  · go_enter Try.func11, Try.ntmps11
    go_wp2_with fail
    refine (CA.out _).mono ?_
    rintro e w1 ⟨rfl, rfl⟩
    go_wp2_with fail
    refine (CC.out _).mono ?_
    rintro e w1 ⟨rfl, rfl⟩
    go_wp2
    go_ret
    exact ⟨by simp, rfl⟩
  · obtain ⟨q, hq⟩ : ∃ q : Nat, 4611686018427387904 / y = q := ⟨_, rfl⟩
    have hov := over_iff (x := x) hy0
    rw [hq] at hov
    have eq1 : Int.tdiv 4611686018427387904 (y : Int) = (q : Int) := by rw [← hq]; rfl
    have eq2 : (4611686018427387904 : Int) / (y : Int) = (q : Int) := by rw [← hq]; simp
    have hq2 : q ≤ 4611686018427387904 := by rw [← hq]; exact Nat.div_le_self _ _
    obtain ⟨p, hp⟩ : ∃ p : Nat, x * y = p := ⟨_, rfl⟩
    rw [hp] at hov ⊢
    have hpi : (x : Int) * (y : Int) = (p : Int) := by rw [← hp]; simp
    have hyi : (y : Int) ≠ 0 := by omega
    clear hq hp
    by_cases h : q < x
    · rw [Nat.min_eq_right (by omega)]
      go_enter Try.func11, Try.ntmps11
      go_wp2_with fail
      refine (CA.out _).mono ?_
      rintro e w1 ⟨rfl, rfl⟩
      go_wp2_with fail
      refine (CC.out _).mono ?_
      rintro e w1 ⟨rfl, rfl⟩
      go_wp2
      go_ret
      exact ⟨rfl, rfl⟩
    · rw [Nat.min_eq_left (by omega)]
      have hp2 : p ≤ 4611686018427387904 := by omega
      clear hov
      go_enter Try.func11, Try.ntmps11
      go_wp2_with fail
      refine (CA.out _).mono ?_
      rintro e w1 ⟨rfl, rfl⟩
      go_wp2_with fail
      refine (CC.out _).mono ?_
      rintro e w1 ⟨rfl, rfl⟩
      go_wp2
      go_ret
      exact ⟨by simp, rfl⟩
theorem whole_any (n : Int) (w : World) : Calls Try.prog 9 #[.int .i64 n] w fun e w' => e = .returned (.int .i64 (clampN n)) ∧ w = w' := by
  rw [← clamp_int]
  go_enter Try.func9, Try.ntmps9
  go_wp2
  go_ret
  exact ⟨rfl, rfl⟩
end Go.Proofs.Ytipanbiackidgaa
