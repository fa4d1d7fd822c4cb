/- What package rng answers: the number behind one; a stream. -/
import Derived.Test.YtkolhhahnkfnoaaRngMath
import Derived.Test.YtkolhhahnkfnoaaOwnRows
import Derived.Test.YtkolhhahnkfnoaaProg
import Derived.WalkSpells
import Derived.Handy
namespace Go.Proofs.Ytkolhhahnkfnoaa
open Go.RowKit
set_option linter.unusedVariables false
set_option linter.unusedSimpArgs false

theorem u64_wrap9 (n : Nat) : IntKind.u64.wrap (n : Int) = ((n % 2 ^ 64 : Nat) : Int) := by simp [IntKind.wrap, IntKind.signed, IntKind.bits]
theorem up13_9 {x : Nat} (hx : x < 2 ^ 64) : bits .xor .u64 (x : Int) (IntKind.u64.wrap ((x : Int) * 8192)) = (up64 x 13 : Nat) := by
  rw [show (x : Int) * 8192 = ((x * 2 ^ 13 : Nat) : Int) by omega, u64_wrap9, u64_xor_nat x _ hx (Nat.mod_lt _ (by decide))]
  rfl
theorem up17_9 {x : Nat} (hx : x < 2 ^ 64) : bits .xor .u64 (x : Int) (IntKind.u64.wrap ((x : Int) * 131072)) = (up64 x 17 : Nat) := by
  rw [show (x : Int) * 131072 = ((x * 2 ^ 17 : Nat) : Int) by omega, u64_wrap9, u64_xor_nat x _ hx (Nat.mod_lt _ (by decide))]
  rfl
theorem down7_9 {x : Nat} (hx : x < 2 ^ 64) : bits .xor .u64 (x : Int) ((x : Int) / 128) = (down64 x 7 : Nat) := by
  rw [show (x : Int) / 128 = ((x / 2 ^ 7 : Nat) : Int) by omega, u64_xor_nat x _ hx (Nat.lt_of_le_of_lt (Nat.div_le_self _ _) hx)]
  rfl

theorem step_any (x : Nat) (hx : x < 2 ^ 64) (w : World) : Calls Try.prog 15 #[.int .u64 x] w fun e w' => e = .returned (.int .u64 (stepN x)) ∧ w = w' := by
  have e1 := up13_9 hx
  have e2 := down7_9 (up_lt (s := 13) hx)
  have e3 := up17_9 (down_lt (s := 7) (up_lt (s := 13) hx))
  have E : stepN x = up64 (down64 (up64 x 13) 7) 17 := rfl
  rw [E]
  clear E
  go_enter Try.func15, Try.ntmps15
  go_wp2
  go_ret
  exact ⟨rfl, rfl⟩
end Go.Proofs.Ytkolhhahnkfnoaa
