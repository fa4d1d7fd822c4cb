/- A pair of numbers that came in, opened; a row of numbers that came in, as a list. -/
import Derived.Test.YtnimmlfccgnneaaOpen
import Derived.Test.YtnimmlfccgnneaaMem
import Derived.Laws.IdiomArrays
namespace Go.Proofs.Ytnimmlfccgnneaa
open Go.ChangeShapes Go.WideShapes Go.ChangeAt Go.RowKit Go.Deep
set_option linter.unusedVariables false

/-- an array of two numbers -/
theorem pair_of {H : Type} {enc : TypeId × Value → H} {P : Program} {W : World} {t e : TypeId} {k : IntKind} {r : Reach} {base : Nat} {v : Value} {d : DataW H} {p : List MemPlace}
    (ht : P.underlying t = some (.array 2 e)) (he : P.underlying e = some (.int k)) (ce : P.cellsOf e = 1) (ct : P.cellsOf t = 2) (hv : Value.okWide P W r base t v) (h : DataW.Trod enc P W 0 (fun _ => true) true t v d p) :
    ∃ a b : Int, v = .agg #[.int k a, .int k b] ∧ (Lit.int k a).wf = true ∧ (Lit.int k b).wf = true := by
  simp only [Value.okWide, ht] at hv
  obtain ⟨cs, rfl, h2, _⟩ := hv
  obtain ⟨c0, c1, rfl⟩ : ∃ c0 c1, cs = #[c0, c1] := by
    have h2' := h2.trans ct
    rcases cs with ⟨l⟩
    match l, h2' with
    | [c0, c1], _ => exact ⟨c0, c1, rfl⟩
  obtain ⟨fuel, hf⟩ := h
  obtain ⟨xs, m, _, _, _, hl, hx⟩ := DataW.trod_array ht hf
  have g0 := hx 0 (by omega)
  have g1 := hx 1 (by omega)
  rw [List.getElem?_eq_getElem (by omega)] at g0 g1
  simp [ce, Value.cells] at g0 g1
  obtain ⟨a, e0, _, wa⟩ := DataW.trod_int he g0
  obtain ⟨b, e1, _, wb⟩ := DataW.trod_int he g1
  simp at e0 e1
  subst e0 e1
  exact ⟨a, b, rfl, wa, wb⟩

/-- a row of numbers that came in, as a list -/
theorem list_of {k : IntKind} {W : World} {a : Option Addr} {len cap : Nat} {z : Nat → Int} (h : IsInts k W a len cap z) : ∃ xs : List Int, xs.length = len ∧ len ≤ cap ∧ KInts k W W.heap.size a xs ∧ ∀ y ∈ xs, (Lit.int k y).wf = true := by
  obtain ⟨h1, h2, h3, h4⟩ := h
  have get : ∀ j, j < len → ((List.range len).map z).getD j 0 = z j := fun j hj => by simp [List.getD, hj]
  refine ⟨(List.range len).map z, by simp, h1, fun h0 => ?_, fun y hy => ?_⟩
  · simp at h0
    obtain ⟨b, off, rfl, hb, hc⟩ := h4 (by omega)
    refine ⟨b, off, rfl, hb, fun j hj => ?_⟩
    simp at hj
    show _ = some (Value.int k (((List.range len).map z).getD j 0))
    rw [get j hj]
    exact hc j (by omega)
  · simp at hy
    obtain ⟨j, hj, rfl⟩ := hy
    exact h3 j (by omega)
theorem u64_of {x : Int} (h : (Lit.int .u64 x).wf = true) : ∃ n : Nat, x = (n : Int) ∧ n < 2 ^ 64 := by
  simp [Lit.wf, IntKind.min, IntKind.max, IntKind.signed, IntKind.bits] at h
  exact ⟨x.toNat, by omega, by omega⟩
end Go.Proofs.Ytnimmlfccgnneaa
