/- The statements of the package of literals, walked: what they call beside the package itself. -/
import Derived.Test.YtdehlikmefpgnaaDoorLit
import Derived.Test.YtdehlikmefpgnaaDoorFrame
import Derived.Test.YtdehlikmefpgnaaDoorBits
namespace Go.Proofs.YtdehlikmefpgnaaDoor
open Go.RowKit

/-- a number that is some literal -/
def SomeLit (w : World) (e : Ending) (w' : World) : Prop := ∃ x : Int, x ≠ 0 ∧ -100000 ≤ x ∧ x ≤ 100000 ∧ e = .returned (.int .i64 x) ∧ w = w'

theorem lit_any (n : Int) (hn : (Lit.int .i64 n).wf = true) (w : World) :
    Calls Tryd.prog 23 #[.int .i64 n] w (SomeLit w) := by
  have hb := bounds_i64 hn
  have b1 := i64_and_1 n
  have b2 := i64_and_1048575 (n / 2)
  clear hn
  by_cases h : n % 2 = 1
  · have h' : (n % 2 == 1) = true := by simpa using h
    clear h
    go_enter Tryd.func23, Tryd.ntmps23
    go_wp2
    go_ret
    exact ⟨-(1 + n / 2 % 1048576 % 100000), by omega, by omega, by omega, by go_unwrap; rfl, rfl⟩
  · have h' : (n % 2 == 1) = false := by simpa using h
    clear h
    go_enter Tryd.func23, Tryd.ntmps23
    go_wp2
    go_ret
    exact ⟨1 + n / 2 % 1048576 % 100000, by omega, by omega, by omega, by go_unwrap; rfl, rfl⟩
end Go.Proofs.YtdehlikmefpgnaaDoor
