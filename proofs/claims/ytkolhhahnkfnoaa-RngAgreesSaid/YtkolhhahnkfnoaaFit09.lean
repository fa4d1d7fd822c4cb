/- The law's example; the statement on steps; the one on what is below a number. -/
import Derived.Test.YtkolhhahnkfnoaaStream2
import Derived.Test.YtkolhhahnkfnoaaLaw09
import Derived.Test.YtkolhhahnkfnoaaOpen
namespace Go.Proofs.Ytkolhhahnkfnoaa
open Go.RowKit
set_option linter.unusedVariables false
set_option linter.unusedSimpArgs false

theorem below_drewE {B : Nat} {a w w' : World} (h : Below B a w) (hd : ∃ n, w' = w.drewN n) : Below B a w' := by
  obtain ⟨n, rfl⟩ := hd
  exact below_drewN h n
set_option maxHeartbeats 2000000 in
theorem fit_any (w : World) : Calls Try.prog 7 #[] w fun e w' => e = .returned (.bool true) ∧ Below w.heap.size w w' := by
  have HN := Lib.hid (fun (w1 : World) (h : Words w1 w1.heap.size (some ⟨w.heap.size, 0, none⟩) 1 [7]) => new_any h (Nat.le_refl _) 1 (by decide))
  have n1 : (nextOf [7] (seedOf 1)) = 7 := rfl
  have n2 : nextOf (List.tail [7]) (lastOf [7] (seedOf 1)) = 1082269761 := by decide
  have HS := Lib.hid (fun w => step_one ▸ step_any 1 (by decide) w)
  have N1 := Lib.hid n1
  have N2 := Lib.hid n2
  clear n1 n2
  go_enter Try.func7, Try.ntmps7
  go_wp2_with fail
  refine (HN.out _ ?_).mono ?_
  · refine ⟨fun _ => ⟨w.heap.size, 0, rfl, by simp, fun j hj => ?_⟩, by simp, fun x hx => ?_, by simp⟩
    · simp at hj; subst hj; simp
    · simp at hx; subst hx; decide
  rintro e w1 ⟨b, rfl, hs, hb⟩
  have H1 := Lib.hid hs
  have HB := Lib.hid (show Below w.heap.size w w1 from ((Below.refl _ _).alloc (Nat.le_refl _) _).trans (hb.mono (by simp)))
  clear hs hb
  go_wp2_with fail
  with_reducible refine (next_any H1.out (by decide)).mono ?_
  rintro e w2 ⟨rfl, hs, ho⟩
  rw [N1.out]
  have H2 := Lib.hid hs
  have HB2 := Lib.hid (HB.out.trans (ho.below (B := w.heap.size) (by have := H1.out.low; simp at this; omega)))
  clear hs ho
  go_wp2_with fail
  with_reducible refine (next_any H2.out (by decide)).mono ?_
  rintro e w3 ⟨rfl, hs, ho⟩
  rw [N2.out]
  have H3 := Lib.hid hs
  have HB3 := Lib.hid (HB2.out.trans (ho.below (B := w.heap.size) (by have := H1.out.low; simp at this; omega)))
  clear hs ho
  go_wp2_with fail
  with_reducible refine (drawn_any H3.out).mono ?_
  rintro e w4 ⟨rfl, rfl⟩
  go_wp2_with fail
  refine (HS.out _).mono ?_
  rintro e w5 ⟨rfl, rfl⟩
  go_wp2
  go_ret
  exact ⟨rfl, HB3.out⟩

theorem beq9 (a c : Nat) : ((a : Int) == (c : Int)) = decide (a = c) := by
  rw [Bool.eq_iff_iff]; simp; omega
set_option maxHeartbeats 2000000 in
theorem steps_any (x y : Nat) (hx : x < 2 ^ 64) (hy : y < 2 ^ 64) (w : World) : Calls Try.prog 5 #[.int .u64 x, .int .u64 y] w fun e w' => e = .returned (.bool true) ∧ Below w.heap.size w w' := by
  obtain ⟨a, ha⟩ : ∃ a, a = stepN x := ⟨_, rfl⟩
  obtain ⟨c, hc⟩ : ∃ c, c = stepN y := ⟨_, rfl⟩
  have e1 : ((a : Int) == 0) = ((x : Int) == 0) := by
    rw [show (0 : Int) = ((0 : Nat) : Int) by rfl, beq9, beq9, ha]
    exact decide_eq_decide.2 (step_eq_zero hx)
  have e2 : ((a : Int) == (c : Int)) = ((x : Int) == (y : Int)) := by
    rw [beq9, beq9, ha, hc]
    exact decide_eq_decide.2 ⟨fun h => step_inj hx hy h, fun h => by rw [h]⟩
  have S1 := Lib.hid (fun w => ha ▸ step_any x hx w)
  have S2 := Lib.hid (fun w => hc ▸ step_any y hy w)
  have S3 := Lib.hid (fun w => ha ▸ lawstep_any x hx w)
  obtain ⟨b1, f1⟩ : ∃ b, ((x : Int) == 0) = b := ⟨_, rfl⟩
  obtain ⟨b2, f2⟩ : ∃ b, ((x : Int) == (y : Int)) = b := ⟨_, rfl⟩
  rw [f1] at e1
  rw [f2] at e2
  have hr : ((a : Int) == (a : Int)) = true := by simp
  clear ha hc hx hy
  go_enter Try.func5, Try.ntmps5
  go_wp2_with fail
  refine (fit_any _).mono ?_
  rintro e w1 ⟨rfl, hb1⟩
  have HB1 := Lib.hid hb1
  clear hb1
  go_wp2_with fail
  refine (S1.out _).mono ?_
  rintro e w2 ⟨rfl, rfl⟩
  go_wp2_with fail
  refine (S3.out _).mono ?_
  rintro e w3 ⟨rfl, hw3⟩
  have HB3 := Lib.hid (below_drewE HB1.out hw3)
  clear hw3
  go_wp2_with fail
  refine (S1.out _).mono ?_
  rintro e w4 ⟨rfl, rfl⟩
  go_wp2_with fail
  refine (S1.out _).mono ?_
  rintro e w5 ⟨rfl, rfl⟩
  go_wp2_with fail
  refine (S2.out _).mono ?_
  rintro e w6 ⟨rfl, rfl⟩
  go_wp2
  go_ret
  exact ⟨rfl, HB3.out⟩
end Go.Proofs.Ytkolhhahnkfnoaa
