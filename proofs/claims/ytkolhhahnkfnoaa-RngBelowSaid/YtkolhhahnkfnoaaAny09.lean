/- The statements' walks over what comes in. -/
import Derived.Test.YtkolhhahnkfnoaaRuns09b
import Derived.Test.YtkolhhahnkfnoaaAgrees09
namespace Go.Proofs.Ytkolhhahnkfnoaa
open Go.RowKit
set_option linter.unusedVariables false

theorem nat_of_u64 {s : Int} (hs : (Lit.int .u64 s).wf = true) : ∃ t : Nat, s = (t : Int) ∧ t < 2 ^ 64 := by
  simp [Lit.wf, IntKind.min, IntKind.max, IntKind.signed, IntKind.bits] at hs
  exact ⟨s.toNat, by omega, by omega⟩
theorem runs_any (a a' : Option Addr) (len cap len' cap' : Nat) (z z' : Nat → Int) (s : Int) (w : World) (hs : (Lit.int .u64 s).wf = true) (h : IsInts .u64 w a len cap z) (h' : IsInts .i64 w a' len' cap' z') :
    Calls Try.prog 3 #[.slice a len cap, .int .u64 s, .slice a' len' cap'] w fun e w' => e = .returned (.bool true) ∧ Below w.heap.size w w' := by
  by_cases hl : 60 < len ∨ 100 < len'
  · exact runs_out a a' len cap len' cap' s w hl
  · obtain ⟨ws, rfl, hw⟩ := words_of h (by omega)
    obtain ⟨t, rfl, ht⟩ := nat_of_u64 hs
    obtain ⟨h1, h2, h3, h4⟩ := h'
    refine runs_in a a' cap len' cap' ws z' t w ht (by omega) hw (by omega) (fun h0 => ?_) (fun j hj => ?_)
    · obtain ⟨b, off, e, hb, hc⟩ := h4 (by omega)
      exact ⟨b, off, e, hb, fun j hj => hc j (by omega)⟩
    · have := h3 j (by omega)
      simp [Lit.wf, IntKind.min, IntKind.max, IntKind.signed, IntKind.bits] at this
      omega
theorem steps_all (x y : Int) (w : World) (hx : (Lit.int .u64 x).wf = true) (hy : (Lit.int .u64 y).wf = true) :
    Calls Try.prog 5 #[.int .u64 x, .int .u64 y] w fun e w' => e = .returned (.bool true) ∧ Below w.heap.size w w' := by
  obtain ⟨a, rfl, ha⟩ := nat_of_u64 hx
  obtain ⟨c, rfl, hc⟩ := nat_of_u64 hy
  exact steps_any a c ha hc w
end Go.Proofs.Ytkolhhahnkfnoaa
