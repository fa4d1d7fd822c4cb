/- The arguments of the fourth layer's statements, opened. -/
import Derived.Test.YtkncndddednipaaOpen
import Derived.Test.YtkncndddednipaaOpenRaw
import Derived.Test.YtkncndddednipaaMem
namespace Go.Proofs.Ytkncndddednipaa
open Go.ChangeShapes Go.WideShapes Go.ChangeAt Go.RowKit Go.Deep Go.Joins

/-- a slice of numbers that came in, and how much there may be of it -/
theorem isIntsSz_of {H : Type} {enc : TypeId × Value → H} {P : Program} {W : World} {t e : TypeId} {k : IntKind} {r : Reach} {base bytes : Nat} {v : Value} {d : DataW H} {p : List MemPlace}
    (ht : P.underlying t = some (.slice e)) (he : P.underlying e = some (.int k)) (hc : P.cellsOf e = 1) (hby : P.bytesOf e = bytes) (hv : Value.okWide P W r base t v)
    (h : DataW.Trod enc P W 0 (fun _ => true) true t v d p) (hs : Sz P t d) : ∃ a len cap z, v = .slice a len cap ∧ IsInts k W a len cap z ∧ cap * bytes ≤ 140737488351232 := by
  obtain ⟨a, len, cap, z, rfl, hi⟩ := isInts_of ht he hc hv h
  refine ⟨a, len, cap, z, rfl, hi, ?_⟩
  obtain ⟨fuel, hf⟩ := h
  rcases open_ints ht he hc hf with ⟨hcs, hx⟩ | ⟨x, l, c, zs, hcs, hb, hl, hm, hz, hx, hcell, hwz⟩
  · simp [Value.cells] at hcs
    obtain ⟨rfl, rfl, rfl⟩ := hcs
    simp
  · simp [Value.cells] at hcs
    obtain ⟨rfl, rfl, rfl⟩ := hcs
    simp only [if_true] at hz
    simp only [Prod.mk.injEq] at hx
    obtain ⟨rfl, rfl⟩ := hx
    have := (sz_slice hs ht).1
    rw [hby, show reachBytes = 140737488351232 by decide] at this
    simp only [lits, List.length_map, List.length_take, List.length_drop, hz] at this
    rw [show min len cap + (cap - len) = cap by omega] at this
    exact this

/-- a slice of numbers that came in, as a row that reads -/
theorem kints_of {k : IntKind} {W : World} {a : Option Addr} {len cap : Nat} {z : Nat → Int} (h : IsInts k W a len cap z) :
    ∃ ns : List Int, len = ns.length ∧ ns.length ≤ maxLen ∧ KInts k W W.heap.size a ns ∧ ∀ j, j < ns.length → (Lit.int k (ns.getD j 0)).wf = true := by
  obtain ⟨h1, h2, h3, h4⟩ := h
  have get : ∀ j, j < len → ((List.range len).map z).getD j 0 = z j := fun j hj => by simp [List.getD, hj]
  refine ⟨(List.range len).map z, by simp, by simp; omega, fun hn => ?_, fun j hj => ?_⟩
  · simp at hn
    obtain ⟨b, off, e, hb, hc⟩ := h4 (by omega)
    refine ⟨b, off, e, hb, fun j hj => ?_⟩
    simp at hj
    rw [hc j (by omega)]
    exact congrArg (fun x => some (Value.int k x)) (get j hj).symm
  · simp at hj
    rw [get j hj]
    exact h3 j (by omega)
theorem i8_bounds {ns : List Int} (h : ∀ j, j < ns.length → (Lit.int .i8 (ns.getD j 0)).wf = true) : ∀ j, -128 ≤ ns.getD j 0 ∧ ns.getD j 0 ≤ 127 := fun j => by
  by_cases hj : j < ns.length
  · have := h j hj
    exact bounds_i8 this
  · simp only [List.getD, List.getElem?_eq_none (Nat.le_of_not_lt hj), Option.getD_none]; omega
end Go.Proofs.Ytkncndddednipaa
