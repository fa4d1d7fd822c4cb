/- The statement on the order of parts. -/
import Derived.Test.YtipanbiackidgaaReckon10
namespace Go.Proofs.Ytipanbiackidgaa
open Go.RowKit
set_option linter.unusedVariables false
set_option linter.unusedSimpArgs false

set_option maxHeartbeats 2000000 in
theorem orders_any (a c d : Int) (w : World) : Calls Try.prog 6 #[.int .i64 a, .int .i64 c, .int .i64 d] w fun e w' => e = .returned (.bool true) ∧ Below w.heap.size w w' := by
  have C1 := Lib.hid (fun w => sum_any a c w)
  have C2 := Lib.hid (fun w => sumN_comm c a ▸ sum_any c a w)
  have C3 := Lib.hid (fun w => times_any a c w)
  have C4 := Lib.hid (fun w => timesN_comm c a ▸ times_any c a w)
  have C6 := Lib.hid (fun w => sum_any (sumN a c) d w)
  have C7 := Lib.hid (fun w => sum_any c d w)
  have C8 := Lib.hid (fun w => (sumN_assoc a c d).symm ▸ sum_any a (sumN c d) w)
  have C10 := Lib.hid (fun w => times_any (timesN a c) d w)
  have C11 := Lib.hid (fun w => times_any c d w)
  have C12 := Lib.hid (fun w => (timesN_assoc a c d).symm ▸ times_any a (timesN c d) w)
  have C13 := Lib.hid (fun w => sum_any (min a c) d w)
  have C14 := Lib.hid (fun w => sum_any (max a c) d w)
  have C15 := Lib.hid (fun w => times_any (min a c) d w)
  have C16 := Lib.hid (fun w => times_any (max a c) d w)
  have C19 := Lib.hid (fun w => sumN_zero a ▸ sum_any a 0 w)
  have C20 := Lib.hid (fun w => timesN_one a ▸ times_any a 1 w)
  have m1 : sumN (min a c) d ≤ sumN (max a c) d := sumN_mono (by omega) d
  have m2 : timesN (min a c) d ≤ timesN (max a c) d := timesN_mono (by omega) d
  have m3 := sumN_le a c
  have m4 := clamp_int a
  obtain ⟨z0, hz0⟩ : ∃ z, sumN (sumN a c) d = z := ⟨_, rfl⟩
  rw [hz0] at C6 C8
  obtain ⟨z1, hz1⟩ : ∃ z, timesN (timesN a c) d = z := ⟨_, rfl⟩
  rw [hz1] at C10 C12
  obtain ⟨z2, hz2⟩ : ∃ z, sumN (min a c) d = z := ⟨_, rfl⟩
  rw [hz2] at C13 m1
  obtain ⟨z3, hz3⟩ : ∃ z, sumN (max a c) d = z := ⟨_, rfl⟩
  rw [hz3] at C14 m1
  obtain ⟨z4, hz4⟩ : ∃ z, timesN (min a c) d = z := ⟨_, rfl⟩
  rw [hz4] at C15 m2
  obtain ⟨z5, hz5⟩ : ∃ z, timesN (max a c) d = z := ⟨_, rfl⟩
  rw [hz5] at C16 m2
  obtain ⟨z6, hz6⟩ : ∃ z, sumN c d = z := ⟨_, rfl⟩
  rw [hz6] at C7 C8
  obtain ⟨z7, hz7⟩ : ∃ z, timesN c d = z := ⟨_, rfl⟩
  rw [hz7] at C11 C12
  obtain ⟨z8, hz8⟩ : ∃ z, sumN a c = z := ⟨_, rfl⟩
  rw [hz8] at C1 C2 C6 m3
  obtain ⟨z9, hz9⟩ : ∃ z, timesN a c = z := ⟨_, rfl⟩
  rw [hz9] at C3 C4 C10
  obtain ⟨z10, hz10⟩ : ∃ z, clampN a = z := ⟨_, rfl⟩
  rw [hz10] at C19 C20 m4
  clear hz0 hz1 hz2 hz3 hz4 hz5 hz6 hz7 hz8 hz9 hz10
  go_enter Try.func6, Try.ntmps6
  go_wp2_with fail
  refine (fit_any _).mono ?_
  rintro e w1 ⟨rfl, hb⟩
  have HB := Lib.hid hb
  clear hb
  go_wp2_with fail
  refine (C1.out _).mono ?_
  rintro e w2 ⟨rfl, rfl⟩
  go_wp2_with fail
  refine (C2.out _).mono ?_
  rintro e w2 ⟨rfl, rfl⟩
  go_wp2_with fail
  refine (C3.out _).mono ?_
  rintro e w2 ⟨rfl, rfl⟩
  go_wp2_with fail
  refine (C4.out _).mono ?_
  rintro e w2 ⟨rfl, rfl⟩
  go_wp2_with fail
  refine (C1.out _).mono ?_
  rintro e w2 ⟨rfl, rfl⟩
  go_wp2_with fail
  refine (C6.out _).mono ?_
  rintro e w2 ⟨rfl, rfl⟩
  go_wp2_with fail
  refine (C7.out _).mono ?_
  rintro e w2 ⟨rfl, rfl⟩
  go_wp2_with fail
  refine (C8.out _).mono ?_
  rintro e w2 ⟨rfl, rfl⟩
  go_wp2_with fail
  refine (C3.out _).mono ?_
  rintro e w2 ⟨rfl, rfl⟩
  go_wp2_with fail
  refine (C10.out _).mono ?_
  rintro e w2 ⟨rfl, rfl⟩
  go_wp2_with fail
  refine (C11.out _).mono ?_
  rintro e w2 ⟨rfl, rfl⟩
  go_wp2_with fail
  refine (C12.out _).mono ?_
  rintro e w2 ⟨rfl, rfl⟩
  go_wp2_with fail
  refine (C13.out _).mono ?_
  rintro e w2 ⟨rfl, rfl⟩
  go_wp2_with fail
  refine (C14.out _).mono ?_
  rintro e w2 ⟨rfl, rfl⟩
  go_wp2_with fail
  refine (C15.out _).mono ?_
  rintro e w2 ⟨rfl, rfl⟩
  go_wp2_with fail
  refine (C16.out _).mono ?_
  rintro e w2 ⟨rfl, rfl⟩
  go_wp2_with fail
  refine (C1.out _).mono ?_
  rintro e w2 ⟨rfl, rfl⟩
  go_wp2_with fail
  refine (C1.out _).mono ?_
  rintro e w2 ⟨rfl, rfl⟩
  go_wp2_with fail
  refine (C19.out _).mono ?_
  rintro e w2 ⟨rfl, rfl⟩
  go_wp2_with fail
  refine (C20.out _).mono ?_
  rintro e w2 ⟨rfl, rfl⟩
  go_wp2_with fail
  refine (C19.out _).mono ?_
  rintro e w2 ⟨rfl, rfl⟩
  go_wp2
  go_ret
  exact ⟨by simp, HB.out⟩
end Go.Proofs.Ytipanbiackidgaa
