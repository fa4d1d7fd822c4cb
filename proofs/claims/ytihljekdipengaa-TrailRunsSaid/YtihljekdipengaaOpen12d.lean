/- The statement on whatever is done to a trail, its arguments as they came in. -/
import Derived.Test.YtihljekdipengaaRuns12b
namespace Go.Proofs.Ytihljekdipengaa
open Go.ChangeShapes Go.WideShapes Go.ChangeAt Go.RowKit Go.Deep Go.Joins
set_option linter.unusedVariables false
set_option linter.unusedSimpArgs false

set_option maxRecDepth 100000 in
set_option maxHeartbeats 2000000 in
theorem runs_out (kk : Nat) (ds : List DeedV) (A0 : Option Addr) (c0 : Nat) (w : World) (hm : 100 < ds.length) :
    Calls Try.prog 3 #[.int .u8 kk, .slice A0 ds.length c0] w fun e w' => e = .returned (.bool true) ∧ Below w.heap.size w w' := by
  go_enter Try.func3, Try.ntmps3
  go_wp2_with fail
  refine (fit_any w).mono ?_
  rintro e w1 ⟨rfl, hb⟩
  go_wp2
  go_ret
  exact ⟨rfl, hb⟩

theorem runs_raw (a0 : Int) (A : Option Addr) (c : Nat) (ds : List DeedV) (W : World) (w0 : (Lit.int .u8 a0).wf = true) (hok : ∀ d ∈ ds, d.ok) (h : Deeds W W.heap.size A ds) :
    Calls Try.prog 3 #[.int .u8 a0, .slice A ds.length c] W fun e w' => e = .returned (.bool true) ∧ Below W.heap.size W w' := by
  have b0 := bounds_u8 w0
  obtain ⟨n0, rfl⟩ : ∃ n : Nat, a0 = n := ⟨a0.toNat, by omega⟩
  by_cases hm : 100 < ds.length
  · exact runs_out n0 ds A c W hm
  · exact runs_in n0 (by omega) ds A c W (by omega) hok h
end Go.Proofs.Ytihljekdipengaa
