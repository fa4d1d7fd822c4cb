/- A row of raw steps of three parts that came in, opened. Few steps, of few literals? A proof out of raw steps, for a formula. What is known of the steps that the statements make, and of what the checker says of bytes. -/
import Derived.Test.YthcpfaahcncfjaaGreatDoorOpenInts
import Derived.Test.YthcpfaahcncfjaaGreatDoorDratMem
import Derived.Deep.SlicePairs
import Derived.Test.YthcpfaahcncfjaaGreatDoorOwnRows
import Derived.Deep.LoopGhost
import Derived.WalkSpells
import Derived.Test.YthcpfaahcncfjaaGreatDoorProg
import Derived.Test.YthcpfaahcncfjaaGreatDoorCheck08
import Derived.Test.YthcpfaahcncfjaaGreatDoorUse7
import Derived.Deep.RegionHeld3
import Derived.Test.YthcpfaahcncfjaaGreatDoorTruth8
import Derived.Test.YthcpfaahcncfjaaGreatDoorSound8
namespace Go.Proofs.YthcpfaahcncfjaaGreatDoor
open Go.ChangeShapes Go.WideShapes Go.ChangeAt Go.RowKit Go.Deep Go.Joins
set_option linter.unusedVariables false

abbrev RStp := Bool × List Int × Nat
abbrev rst0 : RStp := (false, [], 0)
/-- raw steps that lie somewhere below -/
def RSteps (w : World) (B : Nat) (A : Option Addr) (xs : List RStp) : Prop :=
  0 < xs.length → ∃ b off, A = some ⟨b, off, none⟩ ∧ b < B ∧ ∀ j, j < xs.length → ∃ Aj cj, w.cell? ⟨b, off + j * 3, none⟩ = some (.bool (xs.getD j rst0).1) ∧
    w.cell? ⟨b, off + j * 3 + 1, none⟩ = some (.slice Aj (xs.getD j rst0).2.1.length cj) ∧ w.cell? ⟨b, off + j * 3 + 2, none⟩ = some (.int .u8 (xs.getD j rst0).2.2) ∧ KInts .i16 w B Aj (xs.getD j rst0).2.1
theorem RSteps.nil_ {w : World} {B : Nat} {A : Option Addr} : RSteps w B A [] := fun h => absurd h (by simp)
theorem RSteps.below {w w' : World} {B : Nat} {A : Option Addr} {xs : List RStp} (h : RSteps w B A xs) (hb : Below B w w') : RSteps w' B A xs := fun hn => by
  obtain ⟨b, off, e, hlt, hc⟩ := h hn
  refine ⟨b, off, e, hlt, fun j hj => ?_⟩
  obtain ⟨Aj, cj, h1, h2, h3, h4⟩ := hc j hj
  exact ⟨Aj, cj, (hb.cell (p := ⟨b, _, none⟩) hlt).trans h1, (hb.cell (p := ⟨b, _, none⟩) hlt).trans h2, (hb.cell (p := ⟨b, _, none⟩) hlt).trans h3, Cells.keep h4 fun p hp => hb.cell hp⟩
theorem RSteps.at_ {w : World} {B : Nat} {A : Option Addr} {xs : List RStp} {j : Nat} (h : RSteps w B A xs) (hj : j < xs.length) : ∃ b off Aj cj, A = some ⟨b, off, none⟩ ∧ b < B ∧ w.cell? ⟨b, off + j * 3, none⟩ = some (.bool (xs.getD j rst0).1) ∧
    w.cell? ⟨b, off + j * 3 + 1, none⟩ = some (.slice Aj (xs.getD j rst0).2.1.length cj) ∧ w.cell? ⟨b, off + j * 3 + 2, none⟩ = some (.int .u8 (xs.getD j rst0).2.2) ∧ KInts .i16 w B Aj (xs.getD j rst0).2.1 := by
  obtain ⟨b, off, e, hlt, hc⟩ := h (by omega)
  obtain ⟨Aj, cj, h1, h2, h3, h4⟩ := hc j hj
  exact ⟨b, off, Aj, cj, e, hlt, h1, h2, h3, h4⟩

theorem sz_agg3_mid {H : Type} {P : Program} {t : TypeId} {f0 f1 f2 : Field} {d0 d1 d2 : DataW H} (h : Sz P t (.agg [d0, d1, d2])) (hu : P.underlying t = some (.struct #[f0, f1, f2])) : Sz P f1.type d1 := by
  unfold Sz at h
  simp only [DataW.weights, hu] at h
  exact fun x hx => h x (DataW.weights_mem_each (ts := [f0.type, f1.type, f2.type]) (ds := [d0, d1, d2]) (j := 1) rfl rfl x hx)

set_option maxHeartbeats 1000000 in
theorem rsteps_of {H : Type} {enc : TypeId × Value → H} {P : Program} {W : World} {t e q : TypeId} {f0 f1 f2 : Field} {r : Reach} {base : Nat} {v : Value} {d : DataW H} {p : List MemPlace}
    (ht : P.underlying t = some (.slice e)) (he : P.underlying e = some (.struct #[f0, f1, f2])) (ce : P.cellsOf e = 3) (o0 : f0.offset = 0) (o1 : f1.offset = 1) (o2 : f2.offset = 2) (c0 : P.cellsOf f0.type = 1) (c1 : P.cellsOf f1.type = 1) (c2 : P.cellsOf f2.type = 1)
    (hb0 : P.underlying f0.type = some .bool) (hs1 : P.underlying f1.type = some (.slice q)) (hq : P.underlying q = some (.int .i16)) (hu2 : P.underlying f2.type = some (.int .u8)) (cq : P.cellsOf q = 1) (be : P.bytesOf e = 40) (bq : P.bytesOf q = 2)
    (hv : Value.okWide P W r base t v) (h : DataW.Trod enc P W 0 (fun _ => true) true t v d p) (hs : Sz P t d) :
    ∃ (A : Option Addr) (c : Nat) (xs : List RStp), v = .slice A xs.length c ∧ xs.length ≤ 4000000000000 ∧ (∀ j, (xs.getD j rst0).2.1.length ≤ 70368744175616) ∧ (∀ j i, (Lit.int .i16 ((xs.getD j rst0).2.1.getD i 0)).wf = true) ∧ (∀ j, (xs.getD j rst0).2.2 ≤ 255) ∧ RSteps W W.heap.size A xs := by
  obtain ⟨a, len, cap, rfl⟩ := okWide_slice ht hv
  obtain ⟨fuel, hf⟩ := h
  have hr : reachBytes = 140737488351232 := by decide
  rcases open_slice ht hf with ⟨hcs, hx⟩ | ⟨a', len', cap', m, n, D, Pl, hcs, _, hl, hm, hmm, hx, hc⟩
  · simp [Value.cells] at hcs
    obtain ⟨rfl, rfl, rfl⟩ := hcs
    exact ⟨none, 0, [], rfl, by simp, fun j => by simp [rst0], fun j i => by rw [show ((([] : List RStp).getD j rst0).2.1.getD i 0) = 0 by simp [rst0]]; exact wf_zero .i16, fun j => by simp [rst0], RSteps.nil_⟩
  · simp [Value.cells] at hcs
    obtain ⟨rfl, rfl, rfl⟩ := hcs
    simp only [if_true] at hmm
    subst hmm
    simp only [Prod.mk.injEq] at hx
    obtain ⟨rfl, rfl⟩ := hx
    obtain ⟨hz1, hz2⟩ := sz_slice hs ht
    simp only [List.length_map, List.length_range, be, hr] at hz1
    have each : ∀ i, i < len → ∃ y : Bool × (Option Addr × Nat × List Int) × Nat, W.cell? (a'.add (i * 3)) = some (.bool y.1) ∧ W.cell? (a'.add (i * 3 + 1)) = some (.slice y.2.1.1 y.2.1.2.2.length y.2.1.2.1) ∧ W.cell? (a'.add (i * 3 + 2)) = some (.int .u8 y.2.2) ∧
        y.2.1.2.2.length ≤ 70368744175616 ∧ (∀ x ∈ y.2.1.2.2, (Lit.int .i16 x).wf = true) ∧ KInts .i16 W W.heap.size y.2.1.1 y.2.1.2.2 ∧ y.2.2 ≤ 255 := by
      intro i hi
      obtain ⟨cs', h1, h2⟩ := hc i (by omega)
      rw [ce] at h1
      obtain ⟨_, hlen, hcell⟩ := World.cells?_some h1
      obtain ⟨xs, k, hk, hxy, _, hxl, hf⟩ := DataW.trod_struct he h2
      match xs, hxl, cs', hlen with
      | [y0, y1, y2], _, [v0, v1, v2], _ =>
        have g0 := hf 0 f0 rfl
        have g1 := hf 1 f1 rfl
        have g2 := hf 2 f2 rfl
        simp [o0, o1, o2, c0, c1, c2] at g0 g1 g2
        have e0 := hcell 0 (by omega)
        have e1 := hcell 1 (by omega)
        have e2 := hcell 2 (by omega)
        rw [add_add] at e0 e1 e2
        simp at e0 e1 e2
        simp only [Prod.mk.injEq] at hxy
        obtain ⟨bl, hv0, _⟩ := DataW.trod_bool hb0 g0
        obtain ⟨u, hu, _, hwu⟩ := DataW.trod_int hu2 g2
        simp at hv0 hu
        subst hv0 hu
        have hub := bounds_u8 hwu
        have hsz := sz_agg3_mid (by have := hz2 (D i) (List.mem_map.2 ⟨i, List.mem_range.2 hi, rfl⟩); rw [hxy.1] at this; simpa using this) he
        have eu : u = ((u.toNat : Nat) : Int) := by omega
        rcases open_ints hs1 hq cq g1 with ⟨hcs, hx⟩ | ⟨x, l, c, zs, hcs, hb, hl2, hm2, hz, hx, hcell2, hwz⟩
        · simp at hcs
          subst hcs
          exact ⟨(bl, (none, 0, []), u.toNat), e0, e1, by rw [← eu]; exact e2, by simp, by simp, Cells.nil_, by show u.toNat ≤ 255; omega⟩
        · simp at hcs
          subst hcs
          rw [hx] at hsz
          have h9 := (sz_slice hsz hs1).1
          simp only [if_true] at hz
          simp only [lits, List.length_map, List.length_take, List.length_drop, hz, bq, hr] at h9
          refine ⟨(bl, (some x, c, zs.take l), u.toNat), e0, ?_, by rw [← eu]; exact e2, ?_, fun y hy => hwz y (List.mem_of_mem_take hy), fun hn => ?_, by show u.toNat ≤ 255; omega⟩
          · rw [e1]; simp; omega
          · simp; omega
          · simp only [List.length_take] at hn
            obtain ⟨b, off, spot⟩ := x
            have hspot : spot = none := by simpa [Addr.add] using World.cell?_spot (hcell2 0 (by omega))
            subst hspot
            have hlt : b < W.heap.size := by
              have := World.block_lt_of_cell? W _ (hcell2 0 (by omega))
              simpa [Addr.add] using this
            refine ⟨b, off, rfl, hlt, fun j hj => ?_⟩
            simp only [List.length_take] at hj
            rw [← add_plain, hcell2 j (by omega)]
            simp [List.getD, show j < l by omega]
    obtain ⟨y, hy⟩ := choose_lt each
    have hlen : ((List.range len).map fun i => ((y i).1, (y i).2.1.2.2, (y i).2.2)).length = len := by simp
    have get : ∀ j, j < len → ((List.range len).map fun i => ((y i).1, (y i).2.1.2.2, (y i).2.2)).getD j rst0 = ((y j).1, (y j).2.1.2.2, (y j).2.2) := fun j hj => by simp [List.getD, hj]
    have out : ∀ j, ¬ j < len → ((List.range len).map fun i => ((y i).1, (y i).2.1.2.2, (y i).2.2)).getD j rst0 = rst0 := fun j hj => by rw [List.getD, List.getElem?_eq_none (by rw [hlen]; omega)]; rfl
    refine ⟨some a', m, (List.range len).map fun i => ((y i).1, (y i).2.1.2.2, (y i).2.2), by rw [hlen], by rw [hlen]; omega, fun j => ?_, fun j i => ?_, fun j => ?_, fun hn => ?_⟩
    · by_cases hj : j < len
      · rw [get j hj]; exact (hy j hj).2.2.2.1
      · rw [out j hj]; exact Nat.zero_le _
    · by_cases hj : j < len
      · rw [get j hj]
        by_cases hi : i < (y j).2.1.2.2.length
        · refine (hy j hj).2.2.2.2.1 _ ?_
          simp only [List.getD, List.getElem?_eq_getElem hi, Option.getD_some]
          exact List.getElem_mem hi
        · show (Lit.int .i16 ((y j).2.1.2.2.getD i 0)).wf = true
          rw [List.getD, List.getElem?_eq_none (by omega)]; exact wf_zero .i16
      · rw [out j hj]; exact wf_zero .i16
    · by_cases hj : j < len
      · rw [get j hj]; exact (hy j hj).2.2.2.2.2.2
      · rw [out j hj]; exact Nat.zero_le _
    · rw [hlen] at hn
      obtain ⟨b, off, spot⟩ := a'
      have hc0 := (hy 0 (by omega)).1
      have hspot : spot = none := by simpa [Addr.add] using World.cell?_spot hc0
      subst hspot
      have hlt : b < W.heap.size := by
        have := World.block_lt_of_cell? W _ hc0
        simpa [Addr.add] using this
      refine ⟨b, off, rfl, hlt, fun j hj => ?_⟩
      rw [hlen] at hj
      obtain ⟨g1, g2, g3, g4, g5, g6, g7⟩ := hy j hj
      rw [get j hj]
      refine ⟨(y j).2.1.1, (y j).2.1.2.1, ?_, ?_, ?_, g6⟩
      · rw [← add_plain, g1]
      · rw [Nat.add_assoc, ← add_plain, g2]
      · rw [Nat.add_assoc, ← add_plain, g3]
end Go.Proofs.YthcpfaahcncfjaaGreatDoor

namespace Go.Proofs.YthcpfaahcncfjaaGreatDoor
open Go.RowKit
set_option linter.unusedVariables false
set_option linter.unusedSimpArgs false

def smallR (xs : List RStp) : Bool := xs.all (fun x => decide (x.2.1.length ≤ 10)) && decide (xs.length ≤ 30)
theorem smallR_iff {xs : List RStp} : smallR xs = true ↔ (∀ x ∈ xs, x.2.1.length ≤ 10) ∧ xs.length ≤ 30 := by simp [smallR]

set_option maxRecDepth 100000 in
set_option maxHeartbeats 1000000 in
theorem small8_any (xs : List RStp) (B c : Nat) (A : Option Addr) (w : World) (h : RSteps w B A xs) (hB : B ≤ w.heap.size) (hl : xs.length ≤ 4000000000000) (hx : ∀ j, (xs.getD j rst0).2.1.length ≤ 70368744175616) :
    Calls Tryz.prog 11 #[.slice A xs.length c] w fun e w' => e = .returned (.bool (smallR xs)) ∧ Below w.heap.size w w' := by
  have H := Lib.hid h
  have HX := Lib.hid hx
  obtain ⟨n, hnn⟩ : ∃ n, n = xs.length := ⟨_, rfl⟩
  have HN := Lib.hid hnn
  rw [← hnn] at hl ⊢
  clear h hx hnn
  go_enter Tryz.func11, Tryz.ntmps11
  go_wp2
  go_loopg [7] (n + 1) (fun g i wr => ∃ k : Nat, k ≤ n ∧ g = n - k + 1 ∧ i = .int .i64 k ∧ Hid (Below w.heap.size w wr) ∧ Hid (∀ x ∈ xs.take k, x.2.1.length ≤ 10))
  case atStart => exact ⟨0, by omega, by omega, rfl, Lib.hid (Below.refl _ _), Lib.hid (by simp)⟩
  case round =>
    obtain ⟨k, hk, rfl, rfl, HB, HT⟩ := hrel
    by_cases hlt : k < n
    · have hk2 : k < xs.length := by rw [← HN.out]; exact hlt
      obtain ⟨b, off, Aj, cj, rfl, hbB, h1, h2, h3, _⟩ := (H.out.below (HB.out.mono hB)).at_ hk2
      have hlen := HX.out k
      have htk : xs.take (k + 1) = xs.take k ++ [xs.getD k rst0] := by rw [List.take_succ_eq_append_getElem hk2]; simp [List.getD, hk2]
      have hmem : xs.getD k rst0 ∈ xs := by simp [List.getD, hk2]
      obtain ⟨⟨dl, L, q⟩, hy⟩ : ∃ y, y = xs.getD k rst0 := ⟨_, rfl⟩
      rw [← hy] at h1 h2 h3 hlen htk hmem
      simp only at h1 h2 h3 hlen
      have HTK := Lib.hid htk
      have HM := Lib.hid hmem
      obtain ⟨m, hm⟩ : ∃ m, m = L.length := ⟨_, rfl⟩
      have HML := Lib.hid hm
      rw [← hm] at h2 hlen
      have HBA := Lib.hid (HB.out.alloc HB.out.size (.cells #[.bool dl, .slice Aj m cj, .int .u8 q] 69))
      clear htk hmem hy hm
      by_cases hgt : 10 < m
      · have HF : Hid (smallR xs = false) := Lib.hid (by
          rw [Bool.eq_false_iff]; intro h
          have := (smallR_iff.1 h).1 _ HM.out
          simp only at this
          have := HML.out
          omega)
        go_wp2
        go_ret
        exact ⟨by rw [HF.out]; rfl, HBA.out⟩
      · go_wp2
        go_roundg (n - k)
        case measure => omega
        case rel =>
          refine ⟨k + 1, by omega, by omega, by go_num, HBA, Lib.hid fun x hx => ?_⟩
          rw [HTK.out] at hx
          rcases List.mem_append.1 hx with h | h
          · exact HT.out x h
          · rw [List.mem_singleton.1 h]
            show L.length ≤ 10
            rw [← HML.out]; omega
    · obtain rfl : n = k := by omega
      have HF : Hid (smallR xs = decide ((n : Int) ≤ 30)) := Lib.hid (by
        have ht := HT.out
        rw [HN.out, List.take_length] at ht
        rw [Bool.eq_iff_iff, smallR_iff, decide_eq_true_eq]
        exact ⟨fun h => by have := h.2; have := HN.out; omega, fun h => ⟨ht, by have := HN.out; omega⟩⟩)
      go_wp2
      go_ret
      exact ⟨by rw [HF.out]; rfl, HB.out⟩
end Go.Proofs.YthcpfaahcncfjaaGreatDoor

namespace Go.Proofs.YthcpfaahcncfjaaGreatDoor
open Go.RowKit
set_option linter.unusedVariables false
set_option linter.unusedSimpArgs false

def proofStp (F : Nat) (cs : List (List Int)) (x : RStp) : Stp := if x.1 = true ∧ x.2.2 % 2 = 0 ∧ 0 < cs.length then (true, cs.getD (x.2.2 / 2 % cs.length) []) else (x.1, lits07 F x.2.1)
def proofOf (F : Nat) (cs : List (List Int)) (xs : List RStp) : List Stp := xs.map (proofStp F cs)
/-- steps' values, each with a row of its own somewhere -/
def StpO (w : World) (us : List Value) (ps : List Stp) : Prop :=
  ∀ j, j < ps.length → ∃ Aj cj b0, us[j * 2]? = some (.bool (ps.getD j stp0).1) ∧ us[j * 2 + 1]? = some (.slice Aj (ps.getD j stp0).2.length cj) ∧ w.ownsRow b0 3 1 (.slice Aj (ps.getD j stp0).2.length cj) (ps.getD j stp0).2.length ((ps.getD j stp0).2.map (Value.int .i64))
theorem StpO.below {w w' : World} {us : List Value} {ps : List Stp} (h : StpO w us ps) (hb : Below w.heap.size w w') : StpO w' us ps := fun j hj => by
  obtain ⟨Aj, cj, b0, h1, h2, h3⟩ := h j hj
  exact ⟨Aj, cj, b0, h1, h2, own_below h3 hb fun g hg => (h3.lt g hg).2⟩
theorem StpO.d8 {w w' : World} {us : List Value} {ps : List Stp} (h : StpO w us ps) (hb : D8 w w') : StpO w' us ps := fun j hj => by
  obtain ⟨Aj, cj, b0, h1, h2, h3⟩ := h j hj
  exact ⟨Aj, cj, b0, h1, h2, hb.own h3⟩
theorem StpO.snoc {w : World} {us : List Value} {ps : List Stp} {d : Bool} {L : List Int} {A : Option Addr} {c b0 : Nat} (h : StpO w us ps) (hu : us.length = ps.length * 2) (ho : w.ownsRow b0 3 1 (.slice A L.length c) L.length (L.map (Value.int .i64))) :
    StpO w (us ++ [.bool d, .slice A L.length c]) (ps ++ [(d, L)]) := fun j hj => by
  by_cases h1 : j < ps.length
  · obtain ⟨Aj, cj, b1, e1, e2, e3⟩ := h j h1
    have eg : (ps ++ [(d, L)]).getD j stp0 = ps.getD j stp0 := by simp [List.getD, List.getElem?_append_left h1]
    rw [eg]
    exact ⟨Aj, cj, b1, by rw [List.getElem?_append_left (by omega)]; exact e1, by rw [List.getElem?_append_left (by omega)]; exact e2, e3⟩
  · obtain rfl : j = ps.length := by simp at hj; omega
    have eg : (ps ++ [(d, L)]).getD ps.length stp0 = (d, L) := by simp [List.getD]
    rw [eg]
    refine ⟨A, c, b0, ?_, ?_, ho⟩
    · rw [List.getElem?_append_right (by omega), show ps.length * 2 - us.length = 0 by omega]; rfl
    · rw [List.getElem?_append_right (by omega), show ps.length * 2 + 1 - us.length = 1 by omega]; rfl
theorem StpO.osteps {w : World} {us : List Value} {ps : List Stp} {base c : Nat} {A : Option Addr} (h : StpO w us ps) (ho : w.ownsRow base 60 2 (.slice A ps.length c) ps.length us) : OSteps w w.heap.size A ps := by
  intro hn
  rcases ho.2 with ⟨hv, h0⟩ | ⟨g, cap, cur, hv, hb, hg, h1, h2, h3, h4⟩
  · omega
  · injection hv with hA _ _
    subst hA
    refine ⟨g, 0, rfl, (Array.getElem?_eq_some_iff.1 hg).1, fun j hj => ?_⟩
    obtain ⟨Aj, cj, b0, e1, e2, e3⟩ := h j hj
    have cellAt : ∀ i u, us[i]? = some u → w.cell? ⟨g, 0 + i, none⟩ = some u := fun i u hu => by
      have hb2 : Blk w g 60 cur := hg
      rw [hb2.cell, Nat.zero_add]
      rw [← h4, List.getElem?_take] at hu
      split at hu
      · simpa using hu
      · cases hu
    refine ⟨Aj, cj, cellAt _ _ e1, ?_, ?_, fun _ => ⟨b0, e3, fun q hq => (e3.lt q hq).2⟩⟩
    · have := cellAt _ _ e2
      rwa [show 0 + (j * 2 + 1) = 0 + j * 2 + 1 by omega] at this
    · refine (cells_of_own e3 (.int .i64 0)).congr fun i hi => ?_
      simp [List.getD]
theorem StpO.outer {w w' : World} {us : List Value} {ps : List Stp} {n base' : Nat} {v : Value} {xs : List Value} (h : StpO w us ps) (ho : w.ownsRow base' 60 2 v n xs) (hg : w.grownBy w' v.ownBlock) : StpO w' us ps := fun j hj => by
  obtain ⟨Aj, cj, b0, h1, h2, h3⟩ := h j hj
  refine ⟨Aj, cj, b0, h1, h2, h3.kept hg ?_⟩
  rcases ho.2 with ⟨rfl, _⟩ | ⟨g', cap, cur, rfl, _, hh, _⟩
  · rcases hb : (Value.slice Aj (ps.getD j stp0).2.length cj).ownBlock with _ | g
    · exact .inl rfl
    · exact .inr (by simp [Value.ownBlock])
  · rcases hb : (Value.slice Aj (ps.getD j stp0).2.length cj).ownBlock with _ | g
    · exact .inl rfl
    · refine .inr fun he => ?_
      exact own_blk_ne h3 (show Blk w g' 60 cur from hh) (by decide) (by rw [hb]; exact he.symm)
theorem proofOf_take {F : Nat} {cs : List (List Int)} {xs : List RStp} {k : Nat} {x : RStp} (h : xs.take (k + 1) = xs.take k ++ [x]) : proofOf F cs (xs.take (k + 1)) = proofOf F cs (xs.take k) ++ [proofStp F cs x] := by
  rw [h]; simp [proofOf]
theorem u8_and_one8 (q : Nat) (h : q < 256) : bits .and .u8 (q : Int) 1 = ((q % 2 : Nat) : Int) := (by decide +kernel : ∀ q : Fin 256, bits .and .u8 ((q.val : Nat) : Int) 1 = ((q.val % 2 : Nat) : Int)) ⟨q, h⟩
/-- where a proof's rows lie -/
def ProofAns (F : Nat) (cs : List (List Int)) (xs : List RStp) (w : World) (e : Ending) (w' : World) : Prop :=
  Below w.heap.size w w' ∧ ∃ (A' : Option Addr) (c' : Nat) (us : List Value), e = .returned (.slice A' xs.length c') ∧ w'.ownsRow w.heap.size 60 2 (.slice A' xs.length c') xs.length us ∧ StpO w' us (proofOf F cs xs)

set_option maxRecDepth 100000 in
set_option maxHeartbeats 4000000 in
theorem proof8_any (F : Nat) (cs : List (List Int)) (vs : List Value) (b0 b1 : Nat) (A : Option Addr) (c : Nat) (xs : List RStp) (B d : Nat) (D : Option Addr) (w : World) (hF : F ≤ 1000) (hn : cs.length ≤ 1000)
    (ho : w.ownsRow b1 55 1 (.slice A cs.length c) cs.length vs) (hr : ORows w w.heap.size b0 vs cs) (h : RSteps w B D xs) (hB : B ≤ w.heap.size) (hs : smallR xs = true) (hw : ∀ j i, -32768 ≤ (xs.getD j rst0).2.1.getD i 0 ∧ (xs.getD j rst0).2.1.getD i 0 ≤ 32767) (hq : ∀ j, (xs.getD j rst0).2.2 ≤ 255) :
    Calls Tryz.prog 13 #[.slice D xs.length d, .agg #[.int .i64 F, .slice A cs.length c]] w (ProofAns F cs xs w) := by
  have H := Lib.hid h
  have HO := Lib.hid ho
  have HR := Lib.hid hr
  have HW := Lib.hid hw
  have HQ := Lib.hid hq
  obtain ⟨hs1, hs2⟩ := smallR_iff.1 hs
  have HSM := Lib.hid hs1
  obtain ⟨n, hnn⟩ : ∃ n, n = xs.length := ⟨_, rfl⟩
  obtain ⟨m, hmm⟩ : ∃ m, m = cs.length := ⟨_, rfl⟩
  have HN := Lib.hid hnn
  have HM := Lib.hid hmm
  obtain ⟨w1, hw1⟩ : ∃ w1, w1 = w.alloc (.cells #[.int .i64 F, .slice A m c] 31) := ⟨_, rfl⟩
  have hb1 : Below w.heap.size w w1 := by rw [hw1]; exact (Below.refl _ _).alloc (Nat.le_refl _) _
  have HB1 := Lib.hid hb1
  have HF1 := Lib.hid (show Blk w1 w.heap.size 31 #[.int .i64 F, .slice A m c] by rw [hw1]; exact Blk.new w _ _)
  have HW1 := Lib.hid hw1
  rw [← hnn] at hs2 ⊢
  rw [← hmm] at hn ⊢
  obtain ⟨i0, hi, hz0, hz1, hz2⟩ := info_parts Tryz.infoStep
  clear h ho hr hw hq hs hs1 hnn hmm hb1 hw1
  go_enter Tryz.func13, Tryz.ntmps13
  go_wp2
  rw [← HW1.out]
  go_loopg [5, 11] (n + 1) (fun g v i wr => ∃ (k : Nat) (A' : Option Addr) (c' : Nat) (us : List Value), k ≤ n ∧ g = n - k + 1 ∧ i = .int .i64 k ∧ v = .slice A' k c' ∧ Hid (Below w1.heap.size w1 wr) ∧ Hid (wr.ownsRow w1.heap.size 60 2 (.slice A' k c') k us) ∧ Hid (StpO wr us (proofOf F cs (xs.take k))))
  case atStart => exact ⟨0, none, 0, [], by omega, by omega, rfl, rfl, Lib.hid (Below.refl _ _), Lib.hid (World.ownsRow_nil _ _ _ _), Lib.hid (fun j hj => by simp [proofOf] at hj)⟩
  case round =>
    obtain ⟨k, A', c', us, hk, rfl, rfl, rfl, HB, HOW, HST⟩ := hrel
    by_cases hlt : k < n
    · have hk2 : k < xs.length := by rw [← HN.out]; exact hlt
      have hBW := HB1.out.trans (HB.out.mono HB1.out.size)
      have HBW := Lib.hid hBW
      obtain ⟨sb, so, Aj, cj, rfl, hbB, h1, h2, h3, h4⟩ := (H.out.below (hBW.mono hB)).at_ hk2
      have hlw := HW.out k
      have hqk := HQ.out k
      have hmem : xs.getD k rst0 ∈ xs := by simp [List.getD, hk2]
      have hll := HSM.out _ hmem
      have htk : xs.take (k + 1) = xs.take k ++ [xs.getD k rst0] := by rw [List.take_succ_eq_append_getElem hk2]; simp [List.getD, hk2]
      obtain ⟨⟨dl, L, q⟩, hy⟩ : ∃ y, y = xs.getD k rst0 := ⟨_, rfl⟩
      rw [← hy] at h1 h2 h3 h4 hlw hqk hll htk
      simp only at h1 h2 h3 h4 hlw hqk hll
      have HTK := Lib.hid htk
      have HL4 := Lib.hid h4
      obtain ⟨ln, hln⟩ : ∃ ln, ln = L.length := ⟨_, rfl⟩
      have HLN := Lib.hid hln
      rw [← hln] at h2 hll
      have hf0 := (HF1.out.below HB.out HF1.out.lt).cell 0
      have hf1 := (HF1.out.below HB.out HF1.out.lt).cell 1
      simp at hf0 hf1
      obtain ⟨w7, hw7⟩ : ∃ w7, w7 = wr.alloc (.cells #[.bool dl, .slice Aj ln cj, .int .u8 q] 69) := ⟨_, rfl⟩
      have hb7 : Below wr.heap.size wr w7 := by rw [hw7]; exact (Below.refl _ _).alloc (Nat.le_refl _) _
      have HX7 := Lib.hid (show Blk w7 wr.heap.size 69 #[.bool dl, .slice Aj ln cj, .int .u8 q] by rw [hw7]; exact Blk.new wr _ _)
      have HB7 := Lib.hid hb7
      have HF7 := Lib.hid ((HF1.out.below HB.out HF1.out.lt).below hb7 (by have := HF1.out.lt; have := HB.out.size; omega))
      have HLITS : Hid (∀ W, Below w7.heap.size w7 W → Calls Tryz.prog 23 #[.slice Aj ln cj, .int .i64 F] W fun e w' => ∃ A' c', e = .returned (.slice A' (lits07 F L).length c') ∧ w'.ownsRow W.heap.size 3 1 (.slice A' (lits07 F L).length c') (lits07 F L).length ((lits07 F L).map (Value.int .i64)) ∧ Below W.heap.size W w') := Lib.hid fun W hbW => by
        have hbB2 : Below B wr W := (hb7.trans (hbW.mono hb7.size)).mono (by have := hBW.size; omega)
        have := lits07_any F L B Aj cj W (by omega) (by omega) hlw (Cells.keep h4 fun p hp => hbB2.cell hp) (by have := hBW.size; have := hb7.size; have := hbW.size; omega)
        rwa [← hln] at this
      have HW7 := Lib.hid hw7
      have g0 := HX7.out.cell 0
      have g1 := HX7.out.cell 1
      have g2 := HX7.out.cell 2
      have f0 := HF7.out.cell 0
      have f1 := HF7.out.cell 1
      simp at g0 g1 g2 f0 f1
      clear h4 hlw hmem htk hy hln hb7 hw7 hBW
      go_wp2_with fail
      rw [← HW7.out]
      have KE := Lib.hid (fun (W : World) (hb : Below w7.heap.size w7 W) => (show W.cell? ⟨wr.heap.size, 0, none⟩ = some (.bool dl) ∧ W.cell? ⟨wr.heap.size, 1, none⟩ = some (.slice Aj ln cj) ∧ W.cell? ⟨w.heap.size, 0, none⟩ = some (.int .i64 F) from ⟨cell_later hb g0, cell_later hb g1, cell_later hb f0⟩))
      have BD := Lib.hid ((Below.refl w7.heap.size w7).drew)
      have BA := Lib.hid (((Below.refl w7.heap.size w7).drew).alloc (show w7.heap.size ≤ w7.drew.heap.size from Nat.le_refl _) (.cells #[.bool false, .slice none 0 0] 60))
      go_region_held3 (fun w' => w'.cell? ⟨wr.heap.size, 0, none⟩ = some (.bool dl) ∧ w'.cell? ⟨wr.heap.size, 1, none⟩ = some (.slice Aj ln cj) ∧ w'.cell? ⟨w.heap.size, 0, none⟩ = some (.int .i64 F)) (first | exact KK.out | exact ⟨g0, g1, f0⟩ | exact KE.out _ BA.out | exact KE.out _ (HB9.out.alloc HB9.out.size _) | exact KE.out _ ((HB9.out.setCell (p := ⟨w7.heap.size, 0, none⟩) (by simp) _).setCell (p := ⟨w7.heap.size, 1, none⟩) (by simp) _)) (first
        | (go_at_call 23; refine (HLITS.out _ BD.out).mono ?_; rintro e9 w9 ⟨Al, cl, rfl, hown9, hb9'⟩; have HB9 := Lib.hid (BD.out.trans (hb9'.mono (show w7.heap.size ≤ w7.drew.heap.size from Nat.le_refl _))); have KK := Lib.hid (KE.out w9 HB9.out); have HO9 := Lib.hid hown9; clear hown9 hb9')
        | (go_at_call 23; refine (HLITS.out _ BA.out).mono ?_; rintro e9 w9 ⟨Al, cl, rfl, hown9, hb9'⟩; have HB9 := Lib.hid (BA.out.trans (hb9'.mono BA.out.size)); have KK := Lib.hid (KE.out w9 HB9.out); have HO9 := Lib.hid hown9; have hbk := (Blk.new w7.drew 60 #[.bool false, .slice none 0 0]).below hb9' (by simp); have z0 : w9.cell? ⟨w7.heap.size, 0, none⟩ = some (.bool false) := hbk.cell 0; have z1 : w9.cell? ⟨w7.heap.size, 1, none⟩ = some (.slice none 0 0) := hbk.cell 1; have y0 : w9.frozen? ⟨w7.heap.size, 0, none⟩ = false := hbk.frozen 0; have y1 : w9.frozen? ⟨w7.heap.size, 1, none⟩ = false := hbk.frozen 1; have HS9 := Lib.hid hbk; clear hown9 hb9' hbk))
      · obtain ⟨N, hN⟩ : ∃ N, N = (lits07 F L).length := ⟨_, rfl⟩
        have HNL := Lib.hid hN
        rw [← hN] at HO9 ⊢
        have HX8 := Lib.hid (Blk.new w9 60 #[.bool dl, .slice Al N cl])
        have HO8 := Lib.hid (HO9.out.alloc (.cells #[.bool dl, .slice Al N cl] 60))
        have HB8 := Lib.hid (HB9.out.alloc HB9.out.size (.cells #[.bool dl, .slice Al N cl] 60))
        have hg8 : w7.heap.size ≤ w9.heap.size := HB9.out.size
        obtain ⟨W8, hW8⟩ : ∃ W8, W8 = w9.alloc (.cells #[.bool dl, .slice Al N cl] 60) := ⟨_, rfl⟩
        obtain ⟨g8, hgg⟩ : ∃ g8, g8 = w9.heap.size := ⟨_, rfl⟩
        rw [← hW8] at HX8 HO8 HB8 ⊢
        rw [← hgg] at HX8 hg8 ⊢
        clear hN hW8 hgg HO9 HB9 KK BD BA g0 g1 g2 f0 f1
        have HOW8 := Lib.hid (own_belowK HOW.out ((HB7.out.trans (HB8.out.mono HB7.out.size))) (Nat.le_refl _))
        have HST8 := Lib.hid (HST.out.below (HB7.out.trans (HB8.out.mono HB7.out.size)))
        have HBW8 := Lib.hid (HB.out.trans ((HB7.out.trans (HB8.out.mono HB7.out.size)).mono HB.out.size))
        have e0 := HX8.out.cell 0
        have e1 := HX8.out.cell 1
        have e2 := HX8.out.frozen 0
        have e3 := HX8.out.frozen 1
        have g0 := (HX7.out.below HB8.out HX7.out.lt).cell 0
        have g1 := (HX7.out.below HB8.out HX7.out.lt).cell 1
        have g2 := (HX7.out.below HB8.out HX7.out.lt).cell 2
        have f0 := (HF7.out.below HB8.out HF7.out.lt).cell 0
        have f1 := (HF7.out.below HB8.out HF7.out.lt).cell 1
        simp at e0 e1 e2 e3 g0 g1 g2 f0 f1
        have hand : bits .and .u8 (q : Int) 1 = ((q % 2 : Nat) : Int) := u8_and_one8 q (by omega)
        by_cases hC : dl = true ∧ q % 2 = 0 ∧ 0 < m
        · obtain ⟨rfl, hq2, hm9⟩ := hC
          have hqb : ((q : Int) % 2 == 0) = true := by simp; omega
          have hmb : decide ((0 : Int) < (m : Int)) = true := decide_eq_true (by omega)
          obtain ⟨r, hrr⟩ : ∃ r, r = q / 2 % m := ⟨_, rfl⟩
          have hrm : r < m := by rw [hrr]; exact Nat.mod_lt _ hm9
          have hri : ((q : Int) / 2) % (m : Int) = (r : Int) := by rw [hrr]; simp
          have hrt : Int.tmod ((q : Int) / 2) (m : Int) = (r : Int) := by rw [Int.tmod_eq_emod_of_nonneg (by omega)]; exact hri
          have hra : (0 : Int) ≤ (q : Int) / 2 % (m : Int) := by rw [hri]; omega
          have hrb : (q : Int) / 2 % (m : Int) < (m : Int) := by rw [hri]; omega
          have hrn : ((q : Int) / 2 % (m : Int)).toNat = r := by rw [hri]; simp
          have hrq : q / 2 % m = r := hrr.symm
          have hP : proofStp F cs (true, L, q) = (true, cs.getD r []) := by unfold proofStp; rw [if_pos ⟨rfl, hq2, by rw [← HM.out]; exact hm9⟩, hrr, HM.out]
          have HP := Lib.hid hP
          have HBALL := Lib.hid (HBW.out.trans ((HB7.out.trans (HB8.out.mono HB7.out.size)).mono HBW.out.size))
          obtain ⟨Ar, cr, hvr, hor, hlr⟩ := HR.out.below HBALL.out (Nat.le_refl _) r (by rw [← HM.out]; exact hrm)
          have hoh := own_below HO.out HBALL.out fun g hg => (HO.out.lt g hg).2
          obtain ⟨gA, hgA, _, hgAl⟩ := own_addr hoh (by rw [← HM.out]; omega)
          have hrow : W8.cell? ⟨gA, r, none⟩ = some (.slice Ar (cs.getD r []).length cr) := by
            rw [hgA] at hoh
            rw [World.ownsRow.cellAt hoh r (by have := HM.out; omega)]
            exact hvr
          obtain ⟨S, hSS⟩ : ∃ S, S = (cs.getD r []).length := ⟨_, rfl⟩
          have HSS := Lib.hid hSS
          rw [← hSS] at hrow
          have HOR := Lib.hid hor
          subst hgA
          clear hP hvr hor hoh hSS hq2 hrr
          have hgA2 := (HO.out.lt gA rfl).2
          have hw1s := HF1.out.lt
          have hwrs := HB.out.size
          have hs7 : wr.heap.size < w7.heap.size := HX7.out.lt
          have hmi : (m : Int) ≠ 0 := by omega
          have HHG := Lib.hid hlr
          clear hlr
          go_wp2
          go_region
          obtain ⟨W9, hW9⟩ : ∃ W9, W9 = (W8.setCell ⟨g8, 1, none⟩ (.slice Ar S cr)).drew := ⟨_, rfl⟩
          have hb89 : Below w7.heap.size W8 W9 := by rw [hW9]; exact ((Below.refl w7.heap.size W8).setCell (p := ⟨g8, 1, none⟩) hg8 _).drew
          have hx9 : Blk W9 g8 60 #[.bool true, .slice Ar S cr] := by rw [hW9]; show Blk (W8.setCell ⟨g8, 1, none⟩ (.slice Ar S cr)) g8 60 #[.bool true, .slice Ar S cr]; simpa using HX8.out.set_ 1 (.slice Ar S cr)
          have HOW9 := Lib.hid (own_belowK HOW.out ((HB7.out.trans ((HB8.out.trans hb89).mono HB7.out.size))) (Nat.le_refl _))
          have HST9 := Lib.hid (HST.out.below (HB7.out.trans ((HB8.out.trans hb89).mono HB7.out.size)))
          have HBW9 := Lib.hid (HB.out.trans ((HB7.out.trans ((HB8.out.trans hb89).mono HB7.out.size)).mono HB.out.size))
          have HOR9 := Lib.hid (own_below HOR.out hb89 fun g hg => by have := HHG.out g hg; have := HB7.out.size; omega)
          have e0 := hx9.cell 0
          have e1 := hx9.cell 1
          simp at e0 e1
          rw [← hW9]
          clear hW9 hb89 hx9 HOR HX8 e2 e3 f0 f1 g0 g1 g2 hrow HHG
          go_wp2_with (at_builtin; refine wpList_append_el _ rfl _ _ 33 rfl w1.heap.size 60 i0 (.agg #[.bool false, .slice none 0 0]) 2 32 Tryz.underlying33 hi hz0 hz1 hz2 rfl (by decide) _ _ _ rfl (HOW9.out.alloc _) [.bool true, .slice Ar S cr] rfl W9.heap.size rfl (two_cells (Blk.new W9 60 #[.bool true, .slice Ar S cr])) (by simp [Value.oneCell']) (by unfold maxLen; omega) (by omega) (by have := HBW9.out.size; simp; omega) ?_)
          intro v' w4 hown4 hg4 _
          have hsl : ∃ A3 c3, v' = .slice A3 (k + 1) c3 := by
            rcases hown4.2 with ⟨_, h⟩ | ⟨g, cap, cur, h, _⟩
            · omega
            · exact ⟨_, _, h⟩
          obtain ⟨A3, c3, rfl⟩ := hsl
          have hpl : us.length = (proofOf F cs (xs.take k)).length * 2 := by
            have := HOW9.out.1
            rw [this]; simp [proofOf]; omega
          have hst9 := (HST9.out.snoc (d := true) (L := cs.getD r []) hpl HOR9.out).below ((Below.refl W9.heap.size W9).alloc (Nat.le_refl _) (.cells #[.bool true, .slice Ar S cr] 60))
          have hst4 := hst9.outer (HOW9.out.alloc _) hg4
          have HB4 := Lib.hid ((HBW9.out.alloc (by have := HBW9.out.size; omega) (.cells #[.bool true, .slice Ar S cr] 60)).grown hg4 (by have := HBW9.out.size; simp; omega) (fun g hg => (HOW9.out.lt g hg).1))
          have HST4 := Lib.hid (show StpO w4 (us ++ [.bool true, .slice Ar S cr]) (proofOf F cs (xs.take (k + 1))) by rw [proofOf_take HTK.out, HP.out, HSS.out]; exact hst4)
          have HO4 := Lib.hid hown4
          clear hown4 hg4 hst9 hst4 hpl
          go_wp2
          go_roundg (n - k)
          case measure => omega
          case rel => exact ⟨k + 1, A3, c3, _, by omega, by omega, by go_num, rfl, HB4, HO4, HST4⟩
        · have hP : proofStp F cs (dl, L, q) = (dl, lits07 F L) := by unfold proofStp; rw [if_neg (by rw [← HM.out]; exact hC)]
          have HP := Lib.hid hP
          clear hP
          rcases dl with _ | _
          · go_wp2_with (at_builtin; refine wpList_append_el _ rfl _ _ 33 rfl w1.heap.size 60 i0 (.agg #[.bool false, .slice none 0 0]) 2 32 Tryz.underlying33 hi hz0 hz1 hz2 rfl (by decide) _ _ _ rfl (HOW8.out.alloc _) [.bool false, .slice Al N cl] rfl W8.heap.size rfl (two_cells (Blk.new W8 60 #[.bool false, .slice Al N cl])) (by simp [Value.oneCell']) (by unfold maxLen; omega) (by omega) (by have := HBW8.out.size; simp; omega) ?_)
            intro v' w4 hown4 hg4 _
            have hsl : ∃ A3 c3, v' = .slice A3 (k + 1) c3 := by
              rcases hown4.2 with ⟨_, h⟩ | ⟨g, cap, cur, h, _⟩
              · omega
              · exact ⟨_, _, h⟩
            obtain ⟨A3, c3, rfl⟩ := hsl
            have hpl : us.length = (proofOf F cs (xs.take k)).length * 2 := by
              have := HOW8.out.1
              rw [this]; simp [proofOf]; omega
            have hst9 := (HST8.out.snoc (d := false) (L := lits07 F L) hpl (by have := HO8.out; rw [HNL.out] at this; exact this)).below ((Below.refl W8.heap.size W8).alloc (Nat.le_refl _) (.cells #[.bool false, .slice Al N cl] 60))
            have hst4 := hst9.outer (HOW8.out.alloc _) hg4
            have HB4 := Lib.hid ((HBW8.out.alloc (by have := HBW8.out.size; omega) (.cells #[.bool false, .slice Al N cl] 60)).grown hg4 (by have := HBW8.out.size; simp; omega) (fun g hg => (HOW8.out.lt g hg).1))
            have HST4 := Lib.hid (show StpO w4 (us ++ [.bool false, .slice Al N cl]) (proofOf F cs (xs.take (k + 1))) by rw [proofOf_take HTK.out, HP.out, HNL.out]; exact hst4)
            have HO4 := Lib.hid hown4
            clear hown4 hg4 hst9 hst4 hpl
            go_wp2
            go_roundg (n - k)
            case measure => omega
            case rel => exact ⟨k + 1, A3, c3, _, by omega, by omega, by go_num, rfl, HB4, HO4, HST4⟩
          · by_cases hq2 : q % 2 = 0
            · have hm0 : m = 0 := by rcases Nat.eq_zero_or_pos m with h | h; exact h; exact absurd ⟨rfl, hq2, h⟩ hC
              have hqb : ((q : Int) % 2 == 0) = true := by simp; omega
              have hmb : decide ((0 : Int) < (m : Int)) = false := decide_eq_false (by omega)
              have hm9 : ¬ 0 < m := by omega
              clear hm0 hC
              go_wp2_with (at_builtin; refine wpList_append_el _ rfl _ _ 33 rfl w1.heap.size 60 i0 (.agg #[.bool false, .slice none 0 0]) 2 32 Tryz.underlying33 hi hz0 hz1 hz2 rfl (by decide) _ _ _ rfl (HOW8.out.alloc _) [.bool true, .slice Al N cl] rfl W8.heap.size rfl (two_cells (Blk.new W8 60 #[.bool true, .slice Al N cl])) (by simp [Value.oneCell']) (by unfold maxLen; omega) (by omega) (by have := HBW8.out.size; simp; omega) ?_)
              intro v' w4 hown4 hg4 _
              have hsl : ∃ A3 c3, v' = .slice A3 (k + 1) c3 := by
                rcases hown4.2 with ⟨_, h⟩ | ⟨g, cap, cur, h, _⟩
                · omega
                · exact ⟨_, _, h⟩
              obtain ⟨A3, c3, rfl⟩ := hsl
              have hpl : us.length = (proofOf F cs (xs.take k)).length * 2 := by
                have := HOW8.out.1
                rw [this]; simp [proofOf]; omega
              have hst9 := (HST8.out.snoc (d := true) (L := lits07 F L) hpl (by have := HO8.out; rw [HNL.out] at this; exact this)).below ((Below.refl W8.heap.size W8).alloc (Nat.le_refl _) (.cells #[.bool true, .slice Al N cl] 60))
              have hst4 := hst9.outer (HOW8.out.alloc _) hg4
              have HB4 := Lib.hid ((HBW8.out.alloc (by have := HBW8.out.size; omega) (.cells #[.bool true, .slice Al N cl] 60)).grown hg4 (by have := HBW8.out.size; simp; omega) (fun g hg => (HOW8.out.lt g hg).1))
              have HST4 := Lib.hid (show StpO w4 (us ++ [.bool true, .slice Al N cl]) (proofOf F cs (xs.take (k + 1))) by rw [proofOf_take HTK.out, HP.out, HNL.out]; exact hst4)
              have HO4 := Lib.hid hown4
              clear hown4 hg4 hst9 hst4 hpl
              go_wp2
              go_roundg (n - k)
              case measure => omega
              case rel => exact ⟨k + 1, A3, c3, _, by omega, by omega, by go_num, rfl, HB4, HO4, HST4⟩
            · have hqb : ((q : Int) % 2 == 0) = false := by simp; omega
              go_wp2_with (at_builtin; refine wpList_append_el _ rfl _ _ 33 rfl w1.heap.size 60 i0 (.agg #[.bool false, .slice none 0 0]) 2 32 Tryz.underlying33 hi hz0 hz1 hz2 rfl (by decide) _ _ _ rfl (HOW8.out.alloc _) [.bool true, .slice Al N cl] rfl W8.heap.size rfl (two_cells (Blk.new W8 60 #[.bool true, .slice Al N cl])) (by simp [Value.oneCell']) (by unfold maxLen; omega) (by omega) (by have := HBW8.out.size; simp; omega) ?_)
              intro v' w4 hown4 hg4 _
              have hsl : ∃ A3 c3, v' = .slice A3 (k + 1) c3 := by
                rcases hown4.2 with ⟨_, h⟩ | ⟨g, cap, cur, h, _⟩
                · omega
                · exact ⟨_, _, h⟩
              obtain ⟨A3, c3, rfl⟩ := hsl
              have hpl : us.length = (proofOf F cs (xs.take k)).length * 2 := by
                have := HOW8.out.1
                rw [this]; simp [proofOf]; omega
              have hst9 := (HST8.out.snoc (d := true) (L := lits07 F L) hpl (by have := HO8.out; rw [HNL.out] at this; exact this)).below ((Below.refl W8.heap.size W8).alloc (Nat.le_refl _) (.cells #[.bool true, .slice Al N cl] 60))
              have hst4 := hst9.outer (HOW8.out.alloc _) hg4
              have HB4 := Lib.hid ((HBW8.out.alloc (by have := HBW8.out.size; omega) (.cells #[.bool true, .slice Al N cl] 60)).grown hg4 (by have := HBW8.out.size; simp; omega) (fun g hg => (HOW8.out.lt g hg).1))
              have HST4 := Lib.hid (show StpO w4 (us ++ [.bool true, .slice Al N cl]) (proofOf F cs (xs.take (k + 1))) by rw [proofOf_take HTK.out, HP.out, HNL.out]; exact hst4)
              have HO4 := Lib.hid hown4
              clear hown4 hg4 hst9 hst4 hpl
              go_wp2
              go_roundg (n - k)
              case measure => omega
              case rel => exact ⟨k + 1, A3, c3, _, by omega, by omega, by go_num, rfl, HB4, HO4, HST4⟩
      · obtain ⟨N, hN⟩ : ∃ N, N = (lits07 F L).length := ⟨_, rfl⟩
        have HNL := Lib.hid hN
        rw [← hN] at HO9 ⊢
        have HX8 := Lib.hid (show Blk ((w9.setCell ⟨w7.heap.size, 0, none⟩ (.bool dl)).setCell ⟨w7.heap.size, 1, none⟩ (.slice Al N cl)) w7.heap.size 60 #[.bool dl, .slice Al N cl] by simpa using (HS9.out.set_ 0 (.bool dl)).set_ 1 (.slice Al N cl))
        have HO8 := Lib.hid (show ((w9.setCell ⟨w7.heap.size, 0, none⟩ (.bool dl)).setCell ⟨w7.heap.size, 1, none⟩ (.slice Al N cl)).ownsRow _ 3 1 (.slice Al N cl) N _ from own_setCell (own_setCell HO9.out _ (own_blk_ne HO9.out HS9.out (by decide))) _ (own_blk_ne HO9.out HS9.out (by decide)))
        have HB8 := Lib.hid ((HB9.out.setCell (p := ⟨w7.heap.size, 0, none⟩) (by simp) (.bool dl)).setCell (p := ⟨w7.heap.size, 1, none⟩) (by simp) (.slice Al N cl))
        obtain ⟨W8, hW8⟩ : ∃ W8, W8 = (w9.setCell ⟨w7.heap.size, 0, none⟩ (.bool dl)).setCell ⟨w7.heap.size, 1, none⟩ (.slice Al N cl) := ⟨_, rfl⟩
        rw [← hW8] at HX8 HO8 HB8 ⊢
        obtain ⟨g8, hgg⟩ : ∃ g8, g8 = w7.heap.size := ⟨_, rfl⟩
        rw [← hgg] at HX8 ⊢
        have hg8 : w7.heap.size ≤ g8 := by omega
        clear hN hW8 hgg HO9 HS9 HB9 KK BD BA g0 g1 g2 f0 f1 z0 z1 y0 y1
        have HOW8 := Lib.hid (own_belowK HOW.out ((HB7.out.trans (HB8.out.mono HB7.out.size))) (Nat.le_refl _))
        have HST8 := Lib.hid (HST.out.below (HB7.out.trans (HB8.out.mono HB7.out.size)))
        have HBW8 := Lib.hid (HB.out.trans ((HB7.out.trans (HB8.out.mono HB7.out.size)).mono HB.out.size))
        have e0 := HX8.out.cell 0
        have e1 := HX8.out.cell 1
        have e2 := HX8.out.frozen 0
        have e3 := HX8.out.frozen 1
        have g0 := (HX7.out.below HB8.out HX7.out.lt).cell 0
        have g1 := (HX7.out.below HB8.out HX7.out.lt).cell 1
        have g2 := (HX7.out.below HB8.out HX7.out.lt).cell 2
        have f0 := (HF7.out.below HB8.out HF7.out.lt).cell 0
        have f1 := (HF7.out.below HB8.out HF7.out.lt).cell 1
        simp at e0 e1 e2 e3 g0 g1 g2 f0 f1
        have hand : bits .and .u8 (q : Int) 1 = ((q % 2 : Nat) : Int) := u8_and_one8 q (by omega)
        by_cases hC : dl = true ∧ q % 2 = 0 ∧ 0 < m
        · obtain ⟨rfl, hq2, hm9⟩ := hC
          have hqb : ((q : Int) % 2 == 0) = true := by simp; omega
          have hmb : decide ((0 : Int) < (m : Int)) = true := decide_eq_true (by omega)
          obtain ⟨r, hrr⟩ : ∃ r, r = q / 2 % m := ⟨_, rfl⟩
          have hrm : r < m := by rw [hrr]; exact Nat.mod_lt _ hm9
          have hri : ((q : Int) / 2) % (m : Int) = (r : Int) := by rw [hrr]; simp
          have hrt : Int.tmod ((q : Int) / 2) (m : Int) = (r : Int) := by rw [Int.tmod_eq_emod_of_nonneg (by omega)]; exact hri
          have hra : (0 : Int) ≤ (q : Int) / 2 % (m : Int) := by rw [hri]; omega
          have hrb : (q : Int) / 2 % (m : Int) < (m : Int) := by rw [hri]; omega
          have hrn : ((q : Int) / 2 % (m : Int)).toNat = r := by rw [hri]; simp
          have hrq : q / 2 % m = r := hrr.symm
          have hP : proofStp F cs (true, L, q) = (true, cs.getD r []) := by unfold proofStp; rw [if_pos ⟨rfl, hq2, by rw [← HM.out]; exact hm9⟩, hrr, HM.out]
          have HP := Lib.hid hP
          have HBALL := Lib.hid (HBW.out.trans ((HB7.out.trans (HB8.out.mono HB7.out.size)).mono HBW.out.size))
          obtain ⟨Ar, cr, hvr, hor, hlr⟩ := HR.out.below HBALL.out (Nat.le_refl _) r (by rw [← HM.out]; exact hrm)
          have hoh := own_below HO.out HBALL.out fun g hg => (HO.out.lt g hg).2
          obtain ⟨gA, hgA, _, hgAl⟩ := own_addr hoh (by rw [← HM.out]; omega)
          have hrow : W8.cell? ⟨gA, r, none⟩ = some (.slice Ar (cs.getD r []).length cr) := by
            rw [hgA] at hoh
            rw [World.ownsRow.cellAt hoh r (by have := HM.out; omega)]
            exact hvr
          obtain ⟨S, hSS⟩ : ∃ S, S = (cs.getD r []).length := ⟨_, rfl⟩
          have HSS := Lib.hid hSS
          rw [← hSS] at hrow
          have HOR := Lib.hid hor
          subst hgA
          clear hP hvr hor hoh hSS hq2 hrr
          have hgA2 := (HO.out.lt gA rfl).2
          have hw1s := HF1.out.lt
          have hwrs := HB.out.size
          have hs7 : wr.heap.size < w7.heap.size := HX7.out.lt
          have hmi : (m : Int) ≠ 0 := by omega
          have HHG := Lib.hid hlr
          clear hlr
          go_wp2
          go_region
          obtain ⟨W9, hW9⟩ : ∃ W9, W9 = (W8.setCell ⟨g8, 1, none⟩ (.slice Ar S cr)).drew := ⟨_, rfl⟩
          have hb89 : Below w7.heap.size W8 W9 := by rw [hW9]; exact ((Below.refl w7.heap.size W8).setCell (p := ⟨g8, 1, none⟩) hg8 _).drew
          have hx9 : Blk W9 g8 60 #[.bool true, .slice Ar S cr] := by rw [hW9]; show Blk (W8.setCell ⟨g8, 1, none⟩ (.slice Ar S cr)) g8 60 #[.bool true, .slice Ar S cr]; simpa using HX8.out.set_ 1 (.slice Ar S cr)
          have HOW9 := Lib.hid (own_belowK HOW.out ((HB7.out.trans ((HB8.out.trans hb89).mono HB7.out.size))) (Nat.le_refl _))
          have HST9 := Lib.hid (HST.out.below (HB7.out.trans ((HB8.out.trans hb89).mono HB7.out.size)))
          have HBW9 := Lib.hid (HB.out.trans ((HB7.out.trans ((HB8.out.trans hb89).mono HB7.out.size)).mono HB.out.size))
          have HOR9 := Lib.hid (own_below HOR.out hb89 fun g hg => by have := HHG.out g hg; have := HB7.out.size; omega)
          have e0 := hx9.cell 0
          have e1 := hx9.cell 1
          simp at e0 e1
          rw [← hW9]
          clear hW9 hb89 hx9 HOR HX8 e2 e3 f0 f1 g0 g1 g2 hrow HHG
          go_wp2_with (at_builtin; refine wpList_append_el _ rfl _ _ 33 rfl w1.heap.size 60 i0 (.agg #[.bool false, .slice none 0 0]) 2 32 Tryz.underlying33 hi hz0 hz1 hz2 rfl (by decide) _ _ _ rfl (HOW9.out.alloc _) [.bool true, .slice Ar S cr] rfl W9.heap.size rfl (two_cells (Blk.new W9 60 #[.bool true, .slice Ar S cr])) (by simp [Value.oneCell']) (by unfold maxLen; omega) (by omega) (by have := HBW9.out.size; simp; omega) ?_)
          intro v' w4 hown4 hg4 _
          have hsl : ∃ A3 c3, v' = .slice A3 (k + 1) c3 := by
            rcases hown4.2 with ⟨_, h⟩ | ⟨g, cap, cur, h, _⟩
            · omega
            · exact ⟨_, _, h⟩
          obtain ⟨A3, c3, rfl⟩ := hsl
          have hpl : us.length = (proofOf F cs (xs.take k)).length * 2 := by
            have := HOW9.out.1
            rw [this]; simp [proofOf]; omega
          have hst9 := (HST9.out.snoc (d := true) (L := cs.getD r []) hpl HOR9.out).below ((Below.refl W9.heap.size W9).alloc (Nat.le_refl _) (.cells #[.bool true, .slice Ar S cr] 60))
          have hst4 := hst9.outer (HOW9.out.alloc _) hg4
          have HB4 := Lib.hid ((HBW9.out.alloc (by have := HBW9.out.size; omega) (.cells #[.bool true, .slice Ar S cr] 60)).grown hg4 (by have := HBW9.out.size; simp; omega) (fun g hg => (HOW9.out.lt g hg).1))
          have HST4 := Lib.hid (show StpO w4 (us ++ [.bool true, .slice Ar S cr]) (proofOf F cs (xs.take (k + 1))) by rw [proofOf_take HTK.out, HP.out, HSS.out]; exact hst4)
          have HO4 := Lib.hid hown4
          clear hown4 hg4 hst9 hst4 hpl
          go_wp2
          go_roundg (n - k)
          case measure => omega
          case rel => exact ⟨k + 1, A3, c3, _, by omega, by omega, by go_num, rfl, HB4, HO4, HST4⟩
        · have hP : proofStp F cs (dl, L, q) = (dl, lits07 F L) := by unfold proofStp; rw [if_neg (by rw [← HM.out]; exact hC)]
          have HP := Lib.hid hP
          clear hP
          rcases dl with _ | _
          · go_wp2_with (at_builtin; refine wpList_append_el _ rfl _ _ 33 rfl w1.heap.size 60 i0 (.agg #[.bool false, .slice none 0 0]) 2 32 Tryz.underlying33 hi hz0 hz1 hz2 rfl (by decide) _ _ _ rfl (HOW8.out.alloc _) [.bool false, .slice Al N cl] rfl W8.heap.size rfl (two_cells (Blk.new W8 60 #[.bool false, .slice Al N cl])) (by simp [Value.oneCell']) (by unfold maxLen; omega) (by omega) (by have := HBW8.out.size; simp; omega) ?_)
            intro v' w4 hown4 hg4 _
            have hsl : ∃ A3 c3, v' = .slice A3 (k + 1) c3 := by
              rcases hown4.2 with ⟨_, h⟩ | ⟨g, cap, cur, h, _⟩
              · omega
              · exact ⟨_, _, h⟩
            obtain ⟨A3, c3, rfl⟩ := hsl
            have hpl : us.length = (proofOf F cs (xs.take k)).length * 2 := by
              have := HOW8.out.1
              rw [this]; simp [proofOf]; omega
            have hst9 := (HST8.out.snoc (d := false) (L := lits07 F L) hpl (by have := HO8.out; rw [HNL.out] at this; exact this)).below ((Below.refl W8.heap.size W8).alloc (Nat.le_refl _) (.cells #[.bool false, .slice Al N cl] 60))
            have hst4 := hst9.outer (HOW8.out.alloc _) hg4
            have HB4 := Lib.hid ((HBW8.out.alloc (by have := HBW8.out.size; omega) (.cells #[.bool false, .slice Al N cl] 60)).grown hg4 (by have := HBW8.out.size; simp; omega) (fun g hg => (HOW8.out.lt g hg).1))
            have HST4 := Lib.hid (show StpO w4 (us ++ [.bool false, .slice Al N cl]) (proofOf F cs (xs.take (k + 1))) by rw [proofOf_take HTK.out, HP.out, HNL.out]; exact hst4)
            have HO4 := Lib.hid hown4
            clear hown4 hg4 hst9 hst4 hpl
            go_wp2
            go_roundg (n - k)
            case measure => omega
            case rel => exact ⟨k + 1, A3, c3, _, by omega, by omega, by go_num, rfl, HB4, HO4, HST4⟩
          · by_cases hq2 : q % 2 = 0
            · have hm0 : m = 0 := by rcases Nat.eq_zero_or_pos m with h | h; exact h; exact absurd ⟨rfl, hq2, h⟩ hC
              have hqb : ((q : Int) % 2 == 0) = true := by simp; omega
              have hmb : decide ((0 : Int) < (m : Int)) = false := decide_eq_false (by omega)
              have hm9 : ¬ 0 < m := by omega
              clear hm0 hC
              go_wp2_with (at_builtin; refine wpList_append_el _ rfl _ _ 33 rfl w1.heap.size 60 i0 (.agg #[.bool false, .slice none 0 0]) 2 32 Tryz.underlying33 hi hz0 hz1 hz2 rfl (by decide) _ _ _ rfl (HOW8.out.alloc _) [.bool true, .slice Al N cl] rfl W8.heap.size rfl (two_cells (Blk.new W8 60 #[.bool true, .slice Al N cl])) (by simp [Value.oneCell']) (by unfold maxLen; omega) (by omega) (by have := HBW8.out.size; simp; omega) ?_)
              intro v' w4 hown4 hg4 _
              have hsl : ∃ A3 c3, v' = .slice A3 (k + 1) c3 := by
                rcases hown4.2 with ⟨_, h⟩ | ⟨g, cap, cur, h, _⟩
                · omega
                · exact ⟨_, _, h⟩
              obtain ⟨A3, c3, rfl⟩ := hsl
              have hpl : us.length = (proofOf F cs (xs.take k)).length * 2 := by
                have := HOW8.out.1
                rw [this]; simp [proofOf]; omega
              have hst9 := (HST8.out.snoc (d := true) (L := lits07 F L) hpl (by have := HO8.out; rw [HNL.out] at this; exact this)).below ((Below.refl W8.heap.size W8).alloc (Nat.le_refl _) (.cells #[.bool true, .slice Al N cl] 60))
              have hst4 := hst9.outer (HOW8.out.alloc _) hg4
              have HB4 := Lib.hid ((HBW8.out.alloc (by have := HBW8.out.size; omega) (.cells #[.bool true, .slice Al N cl] 60)).grown hg4 (by have := HBW8.out.size; simp; omega) (fun g hg => (HOW8.out.lt g hg).1))
              have HST4 := Lib.hid (show StpO w4 (us ++ [.bool true, .slice Al N cl]) (proofOf F cs (xs.take (k + 1))) by rw [proofOf_take HTK.out, HP.out, HNL.out]; exact hst4)
              have HO4 := Lib.hid hown4
              clear hown4 hg4 hst9 hst4 hpl
              go_wp2
              go_roundg (n - k)
              case measure => omega
              case rel => exact ⟨k + 1, A3, c3, _, by omega, by omega, by go_num, rfl, HB4, HO4, HST4⟩
            · have hqb : ((q : Int) % 2 == 0) = false := by simp; omega
              go_wp2_with (at_builtin; refine wpList_append_el _ rfl _ _ 33 rfl w1.heap.size 60 i0 (.agg #[.bool false, .slice none 0 0]) 2 32 Tryz.underlying33 hi hz0 hz1 hz2 rfl (by decide) _ _ _ rfl (HOW8.out.alloc _) [.bool true, .slice Al N cl] rfl W8.heap.size rfl (two_cells (Blk.new W8 60 #[.bool true, .slice Al N cl])) (by simp [Value.oneCell']) (by unfold maxLen; omega) (by omega) (by have := HBW8.out.size; simp; omega) ?_)
              intro v' w4 hown4 hg4 _
              have hsl : ∃ A3 c3, v' = .slice A3 (k + 1) c3 := by
                rcases hown4.2 with ⟨_, h⟩ | ⟨g, cap, cur, h, _⟩
                · omega
                · exact ⟨_, _, h⟩
              obtain ⟨A3, c3, rfl⟩ := hsl
              have hpl : us.length = (proofOf F cs (xs.take k)).length * 2 := by
                have := HOW8.out.1
                rw [this]; simp [proofOf]; omega
              have hst9 := (HST8.out.snoc (d := true) (L := lits07 F L) hpl (by have := HO8.out; rw [HNL.out] at this; exact this)).below ((Below.refl W8.heap.size W8).alloc (Nat.le_refl _) (.cells #[.bool true, .slice Al N cl] 60))
              have hst4 := hst9.outer (HOW8.out.alloc _) hg4
              have HB4 := Lib.hid ((HBW8.out.alloc (by have := HBW8.out.size; omega) (.cells #[.bool true, .slice Al N cl] 60)).grown hg4 (by have := HBW8.out.size; simp; omega) (fun g hg => (HOW8.out.lt g hg).1))
              have HST4 := Lib.hid (show StpO w4 (us ++ [.bool true, .slice Al N cl]) (proofOf F cs (xs.take (k + 1))) by rw [proofOf_take HTK.out, HP.out, HNL.out]; exact hst4)
              have HO4 := Lib.hid hown4
              clear hown4 hg4 hst9 hst4 hpl
              go_wp2
              go_roundg (n - k)
              case measure => omega
              case rel => exact ⟨k + 1, A3, c3, _, by omega, by omega, by go_num, rfl, HB4, HO4, HST4⟩
    · have hkn : n = k := by omega
      subst hkn
      have hst := HST.out
      rw [HN.out, List.take_length] at hst
      have HSTF := Lib.hid hst
      have HBF := Lib.hid (HB1.out.trans (HB.out.mono HB1.out.size))
      have HOF : Hid (wr.ownsRow w.heap.size 60 2 (.slice A' n c') n us) := Lib.hid (by
        have h := HOW.out
        refine ⟨h.1, ?_⟩
        rcases h.2 with hn | ⟨g, cap, cur, e, hg, rest⟩
        · exact .inl hn
        · exact .inr ⟨g, cap, cur, e, Nat.le_trans HB1.out.size hg, rest⟩)
      clear hst
      go_wp2
      go_ret
      have hnx := HN.out
      refine ⟨HBF.out, A', c', us, by rw [← hnx]; rfl, by rw [← hnx]; exact HOF.out, HSTF.out⟩
end Go.Proofs.YthcpfaahcncfjaaGreatDoor

namespace Go.Proofs.YthcpfaahcncfjaaGreatDoor
open Go.RowKit
set_option linter.unusedVariables false
set_option linter.unusedSimpArgs false

theorem OwnList.orows {w w' : World} {b0 : Nat} {vs : List Value} {cs : List (List Int)} (h : OwnList w b0 3 vs cs) (hb : Below w.heap.size w w') : ORows w' w'.heap.size b0 vs cs := fun j hj => by
  obtain ⟨Aj, cj, e, ho⟩ := h.each j hj
  exact ⟨Aj, cj, e, own_below ho hb fun g hg => (ho.lt g hg).2, fun g hg => Nat.lt_of_lt_of_le (ho.lt g hg).2 hb.size⟩
theorem proof_len (F : Nat) (cs : List (List Int)) (xs : List RStp) : (proofOf F cs xs).length = xs.length := by simp [proofOf]
theorem proof_each {F : Nat} {cs : List (List Int)} {xs : List RStp} (hc : ∀ d, d ∈ cs → d.length ≤ 10 ∧ ∀ x, x ∈ d → Lt7 F x) (hs : smallR xs = true) : ∀ p, p ∈ proofOf F cs xs → p.2.length ≤ 10 ∧ ∀ x, x ∈ p.2 → Lt7 F x := by
  intro p hp
  obtain ⟨x, hx, rfl⟩ := List.mem_map.1 hp
  unfold proofStp
  split
  · rename_i h
    refine hc _ ?_
    have := Nat.mod_lt (x.2.2 / 2) h.2.2
    simp [List.getD, this]
  · exact ⟨Nat.le_trans (lits07_len F x.2.1) ((smallR_iff.1 hs).1 x hx), fun y hy => lits07_bd hy⟩
theorem right_lt {F : Nat} {l : Int} (hF : F ≤ 100000) (h : Lt7 F l) : rightV F l = true := by
  unfold rightV
  rw [litRight_iff]
  obtain ⟨a, b, c⟩ := h
  omega
theorem steps_rightP {F : Nat} {ps : List Stp} (hF : F ≤ 100000) (h : ∀ p, p ∈ ps → ∀ x, x ∈ p.2 → Lt7 F x) : ps.all (rightP F) = true := by
  rw [List.all_eq_true]
  intro p hp
  show p.2.all (rightV F) = true
  rw [List.all_eq_true]
  exact fun x hx => right_lt hF (h p hp x hx)
theorem steps_right {F : Nat} {ps : List Stp} (hF : F ≤ 100000) (h : ∀ p, p ∈ ps → ∀ x, x ∈ p.2 → Lt7 F x) : stpsRight ps = true := by
  rw [stpsRight, List.all_eq_true]
  intro p hp
  rw [stpRight, List.all_eq_true]
  intro x hx
  rw [isLit_iff]
  obtain ⟨a, b, c⟩ := h p hp x hx
  omega
theorem steps_wide {F : Nat} {ps : List Stp} (hF : F ≤ 100000) (hl : ps.length ≤ 1000000) (h : ∀ p, p ∈ ps → p.2.length ≤ 10 ∧ ∀ x, x ∈ p.2 → Lt7 F x) : Wide8s ps := by
  refine wide_of_right8 (steps_right hF fun p hp => (h p hp).2) hl fun j => ?_
  by_cases hj : j < ps.length
  · have := (h (ps.getD j stp0) (by simp [List.getD, hj])).1
    omega
  · simp [List.getD, List.getElem?_eq_none (by omega : ps.length ≤ j)]
theorem lbs_short {F : Nat} (hF : F ≤ 60) : ∀ {L : List Int}, (∀ x, x ∈ L → Lt7 F x) → (lbs L).length = L.length
  | [], _ => rfl
  | l :: L, h => by
    rw [lbs_cons, List.length_append, lbs_short hF fun x hx => h x (by simp [hx])]
    have h1 : (lb l).length = 1 := by
      unfold lb
      rw [nb_low]
      · rfl
      · obtain ⟨a, b, c⟩ := h l (by simp)
        unfold litNum litVar
        split <;> omega
    rw [h1, List.length_cons, Nat.add_comm]
theorem bin_short {F : Nat} (hF : F ≤ 60) : ∀ {ps : List Stp}, (∀ p, p ∈ ps → p.2.length ≤ 10 ∧ ∀ x, x ∈ p.2 → Lt7 F x) → (binOf ps).length ≤ 12 * ps.length
  | [], _ => Nat.zero_le _
  | p :: ps, h => by
    have := bin_short hF (ps := ps) fun q hq => h q (by simp [hq])
    have h1 := (h p (by simp)).1
    rw [binOf_cons, List.length_append, stpBin, List.length_cons, List.length_append, lbs_short hF (h p (by simp)).2, List.length_cons]
    simp
    omega
theorem sat_norm {z : List Bool} {cs : List (List Int)} : AllS z (cs.map normOf) ↔ formSat z cs = true := by
  unfold formSat
  rw [List.all_eq_true]
  constructor
  · intro h c hc
    exact (sat_congr (fun y => mem_normOf)).1 (h (normOf c) (List.mem_map.2 ⟨c, hc, rfl⟩))
  · intro h c hc
    obtain ⟨d, hd, rfl⟩ := List.mem_map.1 hc
    exact (sat_congr (fun y => mem_normOf)).2 (h d hd)
theorem rng_norm {F : Nat} {cs : List (List Int)} (h : ∀ d, d ∈ cs → ∀ x, x ∈ d → Lt7 F x) : Rngs F (cs.map normOf) := fun c hc y hy => by
  obtain ⟨d, hd, rfl⟩ := List.mem_map.1 hc
  exact h d hd y (mem_normOf.1 hy)
theorem chk_unsat {F : Nat} {cs : List (List Int)} {ps : List Stp} {e b : Int} (hF : F ≤ 100000) (hc : ∀ d, d ∈ cs → ∀ x, x ∈ d → Lt7 F x) (hp : ps.all (rightP F) = true) (h : Chk (cs.map normOf) 0 ps e b) (he : e ≠ -1) : ¬ SatP F cs := fun ⟨z, hz, hs⟩ => by
  refine chk_sound h (V := F) (Int.le_refl _) (rng_norm hc) (fun p hp2 y hy => ?_) he z hz (sat_norm.2 hs)
  have h1 : rightP F p = true := (List.all_eq_true.1 hp) p hp2
  have h2 : rightV F y = true := (List.all_eq_true.1 h1) y hy
  unfold rightV at h2
  rw [litRight_iff] at h2
  exact ⟨by omega, by omega, by omega⟩
/-- what refutes tells the truth -/
def Tells8 (F : Nat) (cs : List (List Int)) (e : Ending) : Prop :=
  ∃ (rr : Bool) (en bd er : Int), e = .returned (.tuple #[.agg #[.bool rr, .int .i64 en, .int .i64 bd], .int .i64 er]) ∧ (er = 0 → rr = true → ¬ SatP F cs)
theorem tells_of {V : Nat} {cs : List (List Int)} {r : Option (List Stp)} {k : Int} {w w' : World} {e : Ending} (hV : V ≤ 100000) (hc : ∀ d, d ∈ cs → ∀ x, x ∈ d → Lt7 V x) (h : ParsedAns V cs r k w e w') : Below w.heap.size w w' ∧ Tells8 V cs e := by
  obtain ⟨hb, h⟩ := h
  refine ⟨hb, ?_⟩
  cases r with
  | none => exact ⟨_, _, _, _, h, fun _ h => by cases h⟩
  | some ps =>
    rcases h with ⟨_, rfl⟩ | ⟨hr, en, bd, hch, rfl⟩
    · exact ⟨_, _, _, _, rfl, fun _ h => by cases h⟩
    · refine ⟨_, _, _, _, rfl, fun _ h => chk_unsat hV hc hr hch ?_⟩
      simpa using h
/-- a later world's block, made on the way -/
theorem Below.later_a {w w' : World} (h : Below w.heap.size w w') (o : Obj) : Below w.heap.size w (w'.drew.alloc o) := h.drew.alloc h.size o
theorem own_base {w : World} {b b' e k n : Nat} {v : Value} {xs : List Value} (h : w.ownsRow b e k v n xs) (hb : b' ≤ b) : w.ownsRow b' e k v n xs := by
  refine ⟨h.1, ?_⟩
  rcases h.2 with hn | ⟨g, cap, cur, e, hg, rest⟩
  · exact .inl hn
  · exact .inr ⟨g, cap, cur, e, Nat.le_trans hb hg, rest⟩
theorem bytes_joined {w : World} {base e c bl bn : Nat} {A : Option Addr} {bx bs : List UInt8} {f : Nat → Value} (h : w.ownsRow base e 1 (.slice A (bl + bn) c) (bl + bn) (Lib.byteCells bx ++ (List.range bn).map f)) (h1 : bl = bx.length) (h2 : bn = bs.length)
    (hf : f = fun j => .int .u8 ((bs.getD j 0).toNat : Int)) : Bytes w w.heap.size A (bx ++ bs) := by
  have e1 : (List.range bn).map f = Lib.byteCells bs := by
    rw [h2, hf]
    apply List.ext_getElem
    · simp [Lib.byteCells]
    · intro j h1 h2
      simp [Lib.byteCells, List.getD] at h1 ⊢
      simp [h1]
  rw [e1, ← byteCells_append, h1, h2, ← List.length_append] at h
  exact bytes_of_own h
abbrev rep0 : Array Value := #[.bool false, .int .i64 0, .int .i64 0]
theorem Form7.short8 {F : Nat} {cs : List (List Int)} (h : Form7 F cs) (j : Nat) : (cs.getD j []).length ≤ 1099511627776 := by
  by_cases hj : j < cs.length
  · have := (h.each _ (rows_row hj)).1; omega
  · rw [List.getD, List.getElem?_eq_none (by omega)]; simp
theorem one_bd8 {F : Nat} {L : List Int} (h : ∀ x, x ∈ L → Lt7 F x) (j k : Nat) : -(F : Int) ≤ ([L].getD j []).getD k 0 ∧ ([L].getD j []).getD k 0 ≤ F := by
  have aux : ∀ k, -(F : Int) ≤ L.getD k 0 ∧ L.getD k 0 ≤ F := fun k => by
    by_cases hk : k < L.length
    · obtain ⟨_, a, b⟩ := h _ (take_snoc7 hk).2
      exact ⟨a, b⟩
    · rw [List.getD, List.getElem?_eq_none (by omega)]; simp
  rcases j with _ | j
  · exact aux k
  · simp [List.getD]
theorem Form7.bd8 {F : Nat} {cs : List (List Int)} (h : Form7 F cs) (j k : Nat) : -(F : Int) ≤ (cs.getD j []).getD k 0 ∧ (cs.getD j []).getD k 0 ≤ F := by
  by_cases hj : j < cs.length
  · have := one_bd8 (h.each _ (rows_row hj)).2 0 k
    exact this
  · rw [show cs.getD j [] = [] by rw [List.getD, List.getElem?_eq_none (by omega)]; rfl]; simp
end Go.Proofs.YthcpfaahcncfjaaGreatDoor
