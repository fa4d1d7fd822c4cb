/- The law's own number behind one. -/
import Derived.Test.YtkolhhahnkfnoaaRng
import Derived.Test.YtkolhhahnkfnoaaBits
import Derived.Deep.QuietTactic
import Derived.BigQuiet
import Derived.Deep.LoopGhost
namespace Go.Proofs.Ytkolhhahnkfnoaa
open Go.RowKit
set_option linter.unusedVariables false
set_option linter.unusedSimpArgs false

theorem and1_9 {z : Nat} (h : z < 2 ^ 64) : bits .and .u64 (z : Int) 1 = ((z % 2 : Nat) : Int) := by
  rw [show (1 : Int) = ((1 : Nat) : Int) by rfl, u64_and_nat z 1 h (by decide), Nat.and_one_is_mod]
theorem turn_any (x y : Nat) (hx : x < 2 ^ 64) (hy : y < 2 ^ 64) (w : World) : Calls Try.prog 17 #[.int .u64 x, .int .u64 y] w fun e w' => e = .returned (.int .u64 ((x ^^^ y : Nat) : Int)) ∧ ∃ n, w' = w.drewN n := by
  have hz : x ^^^ y < 2 ^ 64 := Nat.xor_lt_two_pow hx hy
  go_enter Try.func17, Try.ntmps17
  go_wp2
  go_loopg [5, 7] 65 (fun g o i wr => ∃ k n : Nat, wr = w.drewN n ∧ k ≤ 64 ∧ g = 65 - k ∧ i = .int .i64 k ∧ o = .int .u64 (((x ^^^ y) % 2 ^ k : Nat) : Int))
  case atStart => exact ⟨0, 0, rfl, by omega, by omega, rfl, by rw [Nat.pow_zero, Nat.mod_one]; rfl⟩
  case round =>
    obtain ⟨k, n, rfl, hk, rfl, rfl, rfl⟩ := hrel
    by_cases hlt : k < 64
    · have hp : (0 : Nat) < 2 ^ k := Nat.two_pow_pos k
      have ex : bits .and .u64 ((x : Int) / 2 ^ k) 1 = ((x / 2 ^ k % 2 : Nat) : Int) := by
        rw [show (x : Int) / 2 ^ k = ((x / 2 ^ k : Nat) : Int) by simp]
        exact and1_9 (Nat.lt_of_le_of_lt (Nat.div_le_self _ _) hx)
      have ey : bits .and .u64 ((y : Int) / 2 ^ k) 1 = ((y / 2 ^ k % 2 : Nat) : Int) := by
        rw [show (y : Int) / 2 ^ k = ((y / 2 ^ k : Nat) : Int) by simp]
        exact and1_9 (Nat.lt_of_le_of_lt (Nat.div_le_self _ _) hy)
      have hts := turn_step x y k
      obtain ⟨p, hp1⟩ : ∃ p, x / 2 ^ k % 2 = p := ⟨_, rfl⟩
      obtain ⟨q, hq1⟩ : ∃ q, y / 2 ^ k % 2 = q := ⟨_, rfl⟩
      rw [hp1] at ex hts
      rw [hq1] at ey hts
      have h2k : 2 ^ k < 2 ^ 64 := Nat.pow_lt_pow_right (by decide) hlt
      have eo : bits .or .u64 (((x ^^^ y) % 2 ^ k : Nat) : Int) (IntKind.u64.wrap (2 ^ k)) = (((x ^^^ y) % 2 ^ k ||| 2 ^ k : Nat) : Int) := by
        rw [show (2 : Int) ^ k = ((2 ^ k : Nat) : Int) by simp, u64_wrap9, Nat.mod_eq_of_lt h2k, u64_or_nat _ _ (Nat.lt_trans (Nat.mod_lt _ hp) h2k) h2k]
      clear hp1 hq1 hp h2k
      by_cases hpq : p = q
      · subst hpq
        rw [if_pos rfl] at hts
        have HT := Lib.hid hts
        clear hts
        go_wp2
        go_quiet (fail)
        go_wp2
        go_roundg (64 - k)
        case measure => omega
        case rel => exact ⟨k + 1, n + nq, rfl, by omega, by omega, by go_num, by rw [HT.out]⟩
      · rw [if_neg hpq] at hts
        have HT := Lib.hid hts
        clear hts
        have hne : ((p : Int) != (q : Int)) = true := by simp; omega
        clear hpq
        go_wp2
        go_quiet (fail)
        go_wp2
        go_roundg (64 - k)
        case measure => omega
        case rel => exact ⟨k + 1, n + nq, rfl, by omega, by omega, by go_num, by rw [HT.out, ← eo]; simp⟩
    · obtain rfl : k = 64 := by omega
      go_wp2
      go_ret
      exact ⟨by rw [Nat.mod_eq_of_lt hz]; rfl, n, rfl⟩

theorem drewN_trans {w w1 w2 : World} (h1 : ∃ n, w1 = w.drewN n) (h2 : ∃ n, w2 = w1.drewN n) : ∃ n, w2 = w.drewN n := by
  obtain ⟨a, rfl⟩ := h1
  obtain ⟨c, rfl⟩ := h2
  exact ⟨a + c, World.drewN_drewN _ _ _⟩

/-- the law's number behind one is the package's -/
theorem lawstep_any (x : Nat) (hx : x < 2 ^ 64) (w : World) : Calls Try.prog 10 #[.int .u64 x] w fun e w' => e = .returned (.int .u64 (stepN x)) ∧ ∃ n, w' = w.drewN n := by
  have up : ∀ (x s : Nat), x < 2 ^ 64 → ∃ y z : Nat, IntKind.u64.wrap ((x : Int) * 2 ^ s) = (y : Int) ∧ y < 2 ^ 64 ∧ z = x ^^^ y ∧ z < 2 ^ 64 ∧ z = up64 x s := fun x s h =>
    ⟨x * 2 ^ s % 2 ^ 64, up64 x s, by rw [show (x : Int) * 2 ^ s = ((x * 2 ^ s : Nat) : Int) by simp, u64_wrap9], Nat.mod_lt _ (by decide), by rw [up64], up_lt h, rfl⟩
  obtain ⟨y1, a, e1, l1, f1, k1, g1⟩ := up x 13 hx
  obtain ⟨y2, c, e2, l2, f2, k2, g2⟩ : ∃ y z : Nat, (a : Int) / 128 = (y : Int) ∧ y < 2 ^ 64 ∧ z = a ^^^ y ∧ z < 2 ^ 64 ∧ z = down64 a 7 :=
    ⟨a / 2 ^ 7, down64 a 7, by omega, Nat.lt_of_le_of_lt (Nat.div_le_self _ _) k1, by rw [down64], down_lt k1, rfl⟩
  obtain ⟨y3, d, e3, l3, f3, k3, g3⟩ := up c 17 k2
  have hs : stepN x = d := by rw [g3, g2, g1, stepN]
  rw [hs]
  have E1 := Lib.hid (show IntKind.u64.wrap ((x : Int) * 8192) = (y1 : Int) by simpa using e1)
  have E2 := Lib.hid (show IntKind.u64.wrap ((a : Int) / 128) = (y2 : Int) by rw [e2, u64_wrap9, Nat.mod_eq_of_lt l2])
  have E3 := Lib.hid (show IntKind.u64.wrap ((c : Int) * 131072) = (y3 : Int) by simpa using e3)
  have C1 := Lib.hid (fun w => f1 ▸ turn_any x y1 hx l1 w)
  have C2 := Lib.hid (fun w => f2 ▸ turn_any a y2 k1 l2 w)
  have C3 := Lib.hid (fun w => f3 ▸ turn_any c y3 k2 l3 w)
  clear up hx e1 e2 e3 l1 l2 l3 f1 f2 f3 k1 k2 k3 g1 g2 g3 hs
  go_enter Try.func10, Try.ntmps10
  go_wp2_with fail
  rw [E1.out]
  with_reducible refine (C1.out _).mono ?_
  rintro e w1 ⟨rfl, hw1⟩
  have HW1 := Lib.hid hw1
  clear hw1
  go_wp2_with fail
  rw [E2.out]
  with_reducible refine (C2.out _).mono ?_
  rintro e w2 ⟨rfl, hw2⟩
  have HW2 := Lib.hid hw2
  clear hw2
  go_wp2_with fail
  rw [E3.out]
  with_reducible refine (C3.out _).mono ?_
  rintro e w3 ⟨rfl, hw3⟩
  have HW3 := Lib.hid hw3
  clear hw3
  go_wp2
  go_ret
  exact ⟨rfl, drewN_trans (drewN_trans HW1.out HW2.out) HW3.out⟩
end Go.Proofs.Ytkolhhahnkfnoaa
