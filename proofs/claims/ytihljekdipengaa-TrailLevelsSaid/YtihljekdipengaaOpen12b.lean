/- The statement on levels, its arguments as they came in. -/
import Derived.Test.YtihljekdipengaaLevels12
namespace Go.Proofs.Ytihljekdipengaa
open Go.ChangeShapes Go.WideShapes Go.ChangeAt Go.RowKit Go.Deep Go.Joins
set_option linter.unusedVariables false
set_option linter.unusedSimpArgs false

theorem levels_out (kk : Nat) (ds : List DeedV) (A0 : Option Addr) (c0 : Nat) (x : Int) (w : World) (hm : 100 < ds.length) :
    Calls Try.prog 4 #[.int .u8 kk, .slice A0 ds.length c0, .int .i64 x] w fun e w' => e = .returned (.bool true) ∧ Below w.heap.size w w' := by
  go_enter Try.func4, Try.ntmps4
  go_wp2_with fail
  refine (fit_any w).mono ?_
  rintro e w1 ⟨rfl, hb⟩
  go_wp2
  go_ret
  exact ⟨rfl, hb⟩

theorem levels_raw (a0 : Int) (A : Option Addr) (c : Nat) (ds : List DeedV) (a2 : Int) (W : World) (w0 : (Lit.int .u8 a0).wf = true) (hok : ∀ d ∈ ds, d.ok) (h : Deeds W W.heap.size A ds) (w2 : (Lit.int .i64 a2).wf = true) :
    Calls Try.prog 4 #[.int .u8 a0, .slice A ds.length c, .int .i64 a2] W fun e w' => e = .returned (.bool true) ∧ Below W.heap.size W w' := by
  have b0 := bounds_u8 w0
  have b2 := bounds_i64 w2
  obtain ⟨n0, rfl⟩ : ∃ n : Nat, a0 = n := ⟨a0.toNat, by omega⟩
  by_cases hm : 100 < ds.length
  · exact levels_out n0 ds A c a2 W hm
  · by_cases h2 : 0 ≤ a2
    · obtain ⟨K, rfl⟩ : ∃ K : Nat, a2 = K := ⟨a2.toNat, by omega⟩
      exact levels_in n0 (by omega) ds A c K (by omega) W (by omega) hok h
    · exact levels_low n0 (by omega) ds A c a2 (by omega) (by omega) W (by omega) hok h
end Go.Proofs.Ytihljekdipengaa
