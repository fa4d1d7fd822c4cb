/- The arguments of the fourth layer's statements, opened. -/
import Derived.Test.YtkncndddednipaaOpen
import Derived.Test.YtkncndddednipaaMem
namespace Go.Proofs.Ytkncndddednipaa
open Go.RowKit

/-- a slice of numbers that came in, as a row that reads -/
theorem kints_of {k : IntKind} {W : World} {a : Option Addr} {len cap : Nat} {z : Nat → Int} (h : IsInts k W a len cap z) :
    ∃ ns : List Int, len = ns.length ∧ ns.length ≤ maxLen ∧ KInts k W W.heap.size a ns ∧ ∀ j, j < ns.length → (Lit.int k (ns.getD j 0)).wf = true := by
  obtain ⟨h1, h2, h3, h4⟩ := h
  have get : ∀ j, j < len → ((List.range len).map z).getD j 0 = z j := fun j hj => by simp [List.getD, hj]
  refine ⟨(List.range len).map z, by simp, by simp; omega, fun hn => ?_, fun j hj => ?_⟩
  · simp at hn
    obtain ⟨b, off, e, hb, hc⟩ := h4 (by omega)
    refine ⟨b, off, e, hb, fun j hj => ?_⟩
    simp at hj
    rw [hc j (by omega)]
    exact congrArg (fun x => some (Value.int k x)) (get j hj).symm
  · simp at hj
    rw [get j hj]
    exact h3 j (by omega)
theorem i8_bounds {ns : List Int} (h : ∀ j, j < ns.length → (Lit.int .i8 (ns.getD j 0)).wf = true) : ∀ j, -128 ≤ ns.getD j 0 ∧ ns.getD j 0 ≤ 127 := fun j => by
  by_cases hj : j < ns.length
  · have := h j hj
    exact bounds_i8 this
  · simp only [List.getD, List.getElem?_eq_none (Nat.le_of_not_lt hj), Option.getD_none]; omega
end Go.Proofs.Ytkncndddednipaa
