/- Rows of strings and pairs of numbers that came in, opened. -/
import Derived.Test.YtnjcegjcaaplgaaGreatDoorOpenInts
import Derived.Test.YtnjcegjcaaplgaaGreatDoorOwnStrs
import Derived.SliceStrings
namespace Go.Proofs.YtnjcegjcaaplgaaGreatDoor
open Go.ChangeShapes Go.WideShapes Go.ChangeAt Go.RowKit Go.Deep Go.Joins
set_option linter.unusedVariables false

theorem strs_of {H : Type} {enc : TypeId × Value → H} {P : Program} {W : World} {t e : TypeId} {r : Reach} {base : Nat} {v : Value} {d : DataW H} {p : List MemPlace}
    (ht : P.underlying t = some (.slice e)) (he : P.underlying e = some .string) (ce : P.cellsOf e = 1) (be : P.bytesOf e = 16) (hv : Value.okWide P W r base t v) (h : DataW.Trod enc P W 0 (fun _ => true) true t v d p) (hs : Sz P t d) :
    ∃ (A : Option Addr) (c : Nat) (ws : List (List UInt8)), v = .slice A ws.length c ∧ ws.length ≤ 8796093021952 ∧ (∀ j, (ws.getD j []).length ≤ 9223372036854775807) ∧ Strs W W.heap.size A ws := by
  obtain ⟨a, len, cap, rfl⟩ := okWide_slice ht hv
  obtain ⟨fuel, hf⟩ := h
  have hr : reachBytes = 140737488351232 := by decide
  have hmx : maxLen = 9223372036854775807 := by decide
  rcases open_strings ht he ce hf with ⟨hcs, hx⟩ | ⟨a', len', cap', ss, hcs, _, hl, hm, hlen, hx, hcell, hsz⟩
  · simp [Value.cells] at hcs
    obtain ⟨rfl, rfl, rfl⟩ := hcs
    exact ⟨none, 0, [], rfl, by simp, fun j => by simp, Cells.nil_⟩
  · simp [Value.cells] at hcs
    obtain ⟨rfl, rfl, rfl⟩ := hcs
    simp only [if_true] at hlen
    simp only [Prod.mk.injEq] at hx
    obtain ⟨rfl, rfl⟩ := hx
    have hz1 := (sz_slice hs ht).1
    simp only [strs, List.length_map, List.length_take, List.length_drop, be, hr, hlen] at hz1
    have hbl : ((ss.take len).map fun s => s.data.toList).length = len := by simp; omega
    have get : ∀ j, j < len → ((ss.take len).map fun s => s.data.toList).getD j [] = (ss.getD j ByteArray.empty).data.toList := fun j hj => by
      simp [List.getD, hj, show j < ss.length by omega]
    refine ⟨some a', cap, (ss.take len).map fun s => s.data.toList, by rw [hbl], by rw [hbl]; omega, fun j => ?_, fun hn => ?_⟩
    · rcases Nat.lt_or_ge j len with hj | hj
      · rw [get j hj]
        have : ss.getD j ByteArray.empty ∈ ss := by
          rw [List.getD, List.getElem?_eq_getElem (by omega)]
          exact List.getElem_mem (by omega)
        have h9 := hsz _ this
        have h8 : (ss.getD j ByteArray.empty).data.toList.length = (ss.getD j ByteArray.empty).size := by simp
        omega
      · rw [List.getD, List.getElem?_eq_none (by omega)]; exact Nat.zero_le _
    · rw [hbl] at hn
      obtain ⟨b, off, spot⟩ := a'
      have hspot : spot = none := by simpa [Addr.add] using World.cell?_spot (hcell 0 (by omega))
      subst hspot
      have hlt : b < W.heap.size := by
        have := World.block_lt_of_cell? W _ (hcell 0 (by omega))
        simpa [Addr.add] using this
      refine ⟨b, off, rfl, hlt, fun j hj => ?_⟩
      rw [hbl] at hj
      rw [← add_plain, hcell j (by omega)]
      show _ = some (strV (((ss.take len).map fun s => s.data.toList).getD j []))
      rw [get j hj]
      rfl

/-- an array of two numbers -/
theorem pair_of {H : Type} {enc : TypeId × Value → H} {P : Program} {W : World} {t e : TypeId} {k : IntKind} {r : Reach} {base : Nat} {v : Value} {d : DataW H} {p : List MemPlace}
    (ht : P.underlying t = some (.array 2 e)) (he : P.underlying e = some (.int k)) (ce : P.cellsOf e = 1) (ct : P.cellsOf t = 2) (hv : Value.okWide P W r base t v) (h : DataW.Trod enc P W 0 (fun _ => true) true t v d p) :
    ∃ a b : Int, v = .agg #[.int k a, .int k b] ∧ (Lit.int k a).wf = true ∧ (Lit.int k b).wf = true := by
  simp only [Value.okWide, ht] at hv
  obtain ⟨cs, rfl, h2, _⟩ := hv
  obtain ⟨c0, c1, rfl⟩ := array2 (h2.trans ct)
  obtain ⟨fuel, hf⟩ := h
  obtain ⟨xs, m, _, _, _, hl, hx⟩ := DataW.trod_array ht hf
  have g0 := hx 0 (by omega)
  have g1 := hx 1 (by omega)
  rw [List.getElem?_eq_getElem (by omega)] at g0 g1
  simp [ce, Value.cells] at g0 g1
  obtain ⟨a, e0, _, wa⟩ := DataW.trod_int he g0
  obtain ⟨b, e1, _, wb⟩ := DataW.trod_int he g1
  simp at e0 e1
  subst e0 e1
  exact ⟨a, b, rfl, wa, wb⟩
end Go.Proofs.YtnjcegjcaaplgaaGreatDoor
