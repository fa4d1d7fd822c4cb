/- Opening the arguments of the statement on moving. -/
import Derived.Test.YtnjcegjcaaplgaaOpen
import Derived.Test.YtnjcegjcaaplgaaMoves05
namespace Go.Proofs.Ytnjcegjcaaplgaa
open Go.ChangeShapes Go.WideShapes Go.ChangeAt Go.RowKit Go.Deep

/-- a slice of numbers that came in, as a row that reads -/
theorem row_of {k : IntKind} {W : World} {a : Option Addr} {len cap : Nat} {z : Nat → Int} (h : IsInts k W a len cap z) :
    ∃ ns : List Int, len = ns.length ∧ ns.length ≤ maxLen ∧ KInts k W W.heap.size a ns ∧ ∀ j, j < ns.length → (Lit.int k (ns.getD j 0)).wf = true := by
  obtain ⟨h1, h2, h3, h4⟩ := h
  have get : ∀ j, j < len → ((List.range len).map z).getD j 0 = z j := fun j hj => by simp [List.getD, hj]
  refine ⟨(List.range len).map z, by simp, by simp; omega, fun hn => ?_, fun j hj => ?_⟩
  · simp at hn
    obtain ⟨b, off, e, hb, hc⟩ := h4 (by omega)
    refine ⟨b, off, e, hb, fun j hj => ?_⟩
    simp at hj
    rw [hc j (by omega)]
    exact congrArg (fun x => some (Value.int k x)) (get j hj).symm
  · simp at hj
    rw [get j hj]
    exact h3 j (by omega)
theorem row_u8 {ns : List Int} (h : ∀ j, j < ns.length → (Lit.int .u8 (ns.getD j 0)).wf = true) : ∀ j, 0 ≤ ns.getD j 0 ∧ ns.getD j 0 ≤ 255 := fun j => by
  by_cases hj : j < ns.length
  · exact bounds_u8 (h j hj)
  · simp only [List.getD, List.getElem?_eq_none (Nat.le_of_not_lt hj), Option.getD_none]; omega

theorem moves_raw (a0 : Option Addr) (len0 cap0 : Nat) (z0 : Nat → Int) (a1 : Int) (W : World) (w0 : IsInts .u8 W a0 len0 cap0 z0) (w1 : (Lit.int .u64 a1).wf = true) :
    Calls Try.prog 4 #[.slice a0 len0 cap0, .int .u64 a1] W fun e w' => e = .returned (.bool true) ∧ Below W.heap.size W w' := by
  obtain ⟨ns, rfl, hm, hk, hw⟩ := row_of w0
  have hb := bounds_u64 w1
  unfold maxLen at hm
  exact moves_any ns a0 cap0 a1 W hb.1 hb.2 (by omega) (row_u8 hw) hk
end Go.Proofs.Ytnjcegjcaaplgaa
