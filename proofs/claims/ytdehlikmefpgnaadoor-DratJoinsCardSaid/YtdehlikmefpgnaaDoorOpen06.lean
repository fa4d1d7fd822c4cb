/- A row of raw steps that came in, opened. -/
import Derived.Test.YtdehlikmefpgnaaDoorOpenInts
import Derived.Test.YtdehlikmefpgnaaDoorDratMem
import Derived.Deep.SlicePairs
namespace Go.Proofs.YtdehlikmefpgnaaDoor
open Go.ChangeShapes Go.WideShapes Go.ChangeAt Go.RowKit Go.Deep Go.Joins
set_option linter.unusedVariables false

theorem ksteps_of {H : Type} {enc : TypeId × Value → H} {P : Program} {W : World} {t e q : TypeId} {f0 f1 : Field} {k : IntKind} {r : Reach} {base : Nat} {v : Value} {d : DataW H} {p : List MemPlace}
    (ht : P.underlying t = some (.slice e)) (he : P.underlying e = some (.struct #[f0, f1])) (ce : P.cellsOf e = 2) (o0 : f0.offset = 0) (o1 : f1.offset = 1) (c0 : P.cellsOf f0.type = 1) (c1 : P.cellsOf f1.type = 1)
    (hb0 : P.underlying f0.type = some .bool) (hs1 : P.underlying f1.type = some (.slice q)) (hq : P.underlying q = some (.int k)) (cq : P.cellsOf q = 1) (be : P.bytesOf e = 32) (bq : P.bytesOf q = 4)
    (hv : Value.okWide P W r base t v) (h : DataW.Trod enc P W 0 (fun _ => true) true t v d p) (hs : Sz P t d) :
    ∃ (A : Option Addr) (c : Nat) (xs : List Stp), v = .slice A xs.length c ∧ xs.length ≤ 4398046510976 ∧ (∀ j, (xs.getD j stp0).2.length ≤ 35184372087808) ∧ (∀ j i, (Lit.int k ((xs.getD j stp0).2.getD i 0)).wf = true) ∧ KSteps k W W.heap.size A xs := by
  obtain ⟨a, len, cap, rfl⟩ := okWide_slice ht hv
  obtain ⟨fuel, hf⟩ := h
  have hr : reachBytes = 140737488351232 := by decide
  rcases open_slice_pairs ht he ce o0 o1 c0 c1 hf with ⟨hcs, hx⟩ | ⟨a', len', cap', m, n, V0, V1, D0, D1, P0, P1, hcs, _, hl, hm, hmm, hx, hc⟩
  · simp [Value.cells] at hcs
    obtain ⟨rfl, rfl, rfl⟩ := hcs
    exact ⟨none, 0, [], rfl, by simp, fun j => by simp [stp0], fun j i => by rw [show ((([] : List Stp).getD j stp0).2.getD i 0) = 0 by simp [stp0]]; exact wf_zero k, KSteps.nil_⟩
  · simp [Value.cells] at hcs
    obtain ⟨rfl, rfl, rfl⟩ := hcs
    simp only [if_true] at hmm
    subst hmm
    simp only [Prod.mk.injEq] at hx
    obtain ⟨rfl, rfl⟩ := hx
    obtain ⟨hz1, hz2⟩ := sz_slice hs ht
    simp only [List.length_map, List.length_range, be, hr] at hz1
    have each : ∀ i, i < len → ∃ y : Bool × Option Addr × Nat × List Int, V0 i = .bool y.1 ∧ V1 i = .slice y.2.1 y.2.2.2.length y.2.2.1 ∧ y.2.2.2.length ≤ 35184372087808 ∧ (∀ x ∈ y.2.2.2, (Lit.int k x).wf = true) ∧ KInts k W W.heap.size y.2.1 y.2.2.2 := by
      intro i hi
      obtain ⟨_, _, h3, h4⟩ := hc i (by omega)
      obtain ⟨bl, hv0, _⟩ := DataW.trod_bool hb0 h3
      have hsz := (sz_agg2 (hz2 (.agg [D0 i, D1 i]) (List.mem_map.2 ⟨i, List.mem_range.2 hi, rfl⟩)) he).2
      rcases open_ints hs1 hq cq h4 with ⟨hcs, hx⟩ | ⟨x, l, c, zs, hcs, hb, hl2, hm2, hz, hx, hcell, hwz⟩
      · simp at hcs
        exact ⟨(bl, none, 0, []), by simpa using hv0, hcs, by simp, by simp, Cells.nil_⟩
      · simp at hcs
        simp only [Prod.mk.injEq] at hx
        rw [hx.1] at hsz
        have h9 := (sz_slice hsz hs1).1
        simp only [if_true] at hz
        simp only [lits, List.length_map, List.length_take, List.length_drop, hz, bq, hr] at h9
        refine ⟨(bl, some x, c, zs.take l), by simpa using hv0, ?_, ?_, fun y hy => hwz y (List.mem_of_mem_take hy), fun hn => ?_⟩
        · rw [hcs]; simp; omega
        · simp; omega
        · simp only [List.length_take] at hn
          obtain ⟨b, off, spot⟩ := x
          have hspot : spot = none := by simpa [Addr.add] using World.cell?_spot (hcell 0 (by omega))
          subst hspot
          have hlt : b < W.heap.size := by
            have := World.block_lt_of_cell? W _ (hcell 0 (by omega))
            simpa [Addr.add] using this
          refine ⟨b, off, rfl, hlt, fun j hj => ?_⟩
          simp only [List.length_take] at hj
          rw [← add_plain, hcell j (by omega)]
          simp [List.getD, show j < l by omega]
    obtain ⟨y, hy⟩ := choose_lt each
    have hlen : ((List.range len).map fun i => ((y i).1, (y i).2.2.2)).length = len := by simp
    have get : ∀ j, j < len → ((List.range len).map fun i => ((y i).1, (y i).2.2.2)).getD j stp0 = ((y j).1, (y j).2.2.2) := fun j hj => by simp [List.getD, hj]
    have out : ∀ j, ¬ j < len → ((List.range len).map fun i => ((y i).1, (y i).2.2.2)).getD j stp0 = stp0 := fun j hj => by rw [List.getD, List.getElem?_eq_none (by rw [hlen]; omega)]; rfl
    refine ⟨some a', m, (List.range len).map fun i => ((y i).1, (y i).2.2.2), by rw [hlen], by rw [hlen]; omega, fun j => ?_, fun j i => ?_, fun hn => ?_⟩
    · by_cases hj : j < len
      · rw [get j hj]; exact (hy j hj).2.2.1
      · rw [out j hj]; exact Nat.zero_le _
    · by_cases hj : j < len
      · rw [get j hj]
        by_cases hi : i < (y j).2.2.2.length
        · refine (hy j hj).2.2.2.1 _ ?_
          simp only [List.getD, List.getElem?_eq_getElem hi, Option.getD_some]
          exact List.getElem_mem hi
        · show (Lit.int k ((y j).2.2.2.getD i 0)).wf = true
          rw [List.getD, List.getElem?_eq_none (by omega)]; exact wf_zero k
      · rw [out j hj]; exact wf_zero k
    · rw [hlen] at hn
      obtain ⟨b, off, spot⟩ := a'
      have hc0 := (hc 0 (by omega)).1
      have hspot : spot = none := by simpa [Addr.add] using World.cell?_spot hc0
      subst hspot
      have hlt : b < W.heap.size := by
        have := World.block_lt_of_cell? W _ hc0
        simpa [Addr.add] using this
      refine ⟨b, off, rfl, hlt, fun j hj => ?_⟩
      rw [hlen] at hj
      obtain ⟨h1, h2, _, _⟩ := hc j (by omega)
      obtain ⟨g1, g2, g3, g4, g5⟩ := hy j hj
      rw [get j hj]
      refine ⟨(y j).2.1, (y j).2.2.1, ?_, ?_, g5⟩
      · rw [← add_plain, h1, g1]
      · rw [Nat.add_assoc, ← add_plain, h2, g2]
end Go.Proofs.YtdehlikmefpgnaaDoor
