/- The statement on phases, its arguments as they came in. -/
import Derived.Test.YtihljekdipengaaPhases12
namespace Go.Proofs.Ytihljekdipengaa
open Go.ChangeShapes Go.WideShapes Go.ChangeAt Go.RowKit Go.Deep Go.Joins
set_option linter.unusedVariables false
set_option linter.unusedSimpArgs false

theorem phases_out (kk : Nat) (ds : List DeedV) (A0 : Option Addr) (c0 : Nat) (m : Nat) (A2 : Option Addr) (c2 : Nat) (w : World) (hm : 100 < ds.length ∨ 60 < m) :
    Calls Try.prog 6 #[.int .u8 kk, .slice A0 ds.length c0, .slice A2 m c2] w fun e w' => e = .returned (.bool true) ∧ Below w.heap.size w w' := by
  by_cases h1 : 100 < ds.length
  · go_enter Try.func6, Try.ntmps6
    go_wp2_with fail
    refine (fit_any w).mono ?_
    rintro e w1 ⟨rfl, hb⟩
    go_wp2
    go_ret
    exact ⟨rfl, hb⟩
  · have h2 : 60 < m := by omega
    go_enter Try.func6, Try.ntmps6
    go_wp2_with fail
    refine (fit_any w).mono ?_
    rintro e w1 ⟨rfl, hb⟩
    go_wp2
    go_ret
    exact ⟨rfl, hb⟩

theorem phases_raw (a0 : Int) (A : Option Addr) (c : Nat) (ds : List DeedV) (A2 : Option Addr) (len2 cap2 : Nat) (z2 : Nat → Int) (W : World) (w0 : (Lit.int .u8 a0).wf = true) (hok : ∀ d ∈ ds, d.ok) (h : Deeds W W.heap.size A ds) (w2 : IsInts .i64 W A2 len2 cap2 z2) :
    Calls Try.prog 6 #[.int .u8 a0, .slice A ds.length c, .slice A2 len2 cap2] W fun e w' => e = .returned (.bool true) ∧ Below W.heap.size W w' := by
  have b0 := bounds_u8 w0
  obtain ⟨n0, rfl⟩ : ∃ n : Nat, a0 = n := ⟨a0.toNat, by omega⟩
  obtain ⟨xs, rfl, _, hx, hw⟩ := list_of w2
  by_cases hm : 100 < ds.length ∨ 60 < xs.length
  · exact phases_out n0 ds A c xs.length A2 cap2 W hm
  · exact phases_in n0 (by omega) ds A c xs A2 cap2 W (by omega) (by omega) hok (fun x hx => bounds_i64 (hw x hx)) h hx
end Go.Proofs.Ytihljekdipengaa
