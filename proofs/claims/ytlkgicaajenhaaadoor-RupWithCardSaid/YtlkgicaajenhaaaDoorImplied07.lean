/- Implied: do the negations of a clause's literals clash? -/
import Derived.Test.YtlkgicaajenhaaaDoorFollow07
import Derived.Test.YtlkgicaajenhaaaDoorRef07b
namespace Go.Proofs.YtlkgicaajenhaaaDoor
open Go.RowKit
set_option linter.unusedVariables false
set_option linter.unusedSimpArgs false

theorem made_zeros7 (n : Nat) : (madeCells (Value.int .i64 0).cells (n * 1)).toList = (List.replicate n (0 : Int)).map (Value.int .i64) := by
  apply List.ext_getElem
  · simp [madeCells]
  · intro i h1 h2
    simp [madeCells, Value.cells, Nat.mod_one]
/-- the first k negations, noughts behind them -/
def negTo (L : List Int) (k : Nat) : List Int := negs (L.take k) ++ List.replicate (L.length - k) 0
theorem negTo_zero (L : List Int) : negTo L 0 = List.replicate L.length 0 := by simp [negTo, negs]
theorem negTo_all (L : List Int) : negTo L L.length = negs L := by simp [negTo]
theorem negTo_len (L : List Int) {k : Nat} (h : k ≤ L.length) : (negTo L k).length = L.length := by simp [negTo, negs]; omega
theorem negTo_step (L : List Int) {k : Nat} (h : k < L.length) : ((negTo L k).map (Value.int .i64)).set k (.int .i64 (-(L.getD k 0))) = (negTo L (k + 1)).map (Value.int .i64) := by
  rw [← List.map_set]
  congr 1
  unfold negTo negs
  obtain ⟨h1, _⟩ := take_snoc7 h
  have hr : List.replicate (L.length - k) (0 : Int) = 0 :: List.replicate (L.length - (k + 1)) 0 := by
    rw [← List.replicate_succ]; congr 1; omega
  rw [h1, hr, List.set_append_right _ _ (by simp; omega)]
  simp [Nat.min_eq_left (Nat.le_of_lt h)]
/-- Implied's answer -/
def ImpliedP (base : Nat) (X : SX) (L : List Int) (W : World) (e : Ending) (W' : World) : Prop :=
  ∃ (X' : SX) (fo' : List Bool) (b : Bool), e = .returned (.bool b) ∧ Rest7 W' base X' fo' ∧ Tn base X W W' ∧ Later7 W X X' ∧ SameR X X' ∧ (b = true ↔ foreign7 X.V L = false ∧ Clash X.cs (negs L))
set_option maxRecDepth 100000 in
set_option maxHeartbeats 1000000 in
theorem implied_any7 {W : World} {base b0 c : Nat} {X : SX} {fo : List Bool} {L : List Int} {A : Option Addr} (h : Rest7 W base X fo) (hA : Apart W X b0 A c L) (hx : ∀ x, x ∈ L → -9223372036854775808 ≤ x ∧ x ≤ 9223372036854775807) (hn : L.length ≤ 1000000000) :
    Calls Tryd.prog 18 #[.pointer (some ⟨X.s, 0, none⟩), .slice A L.length c] W (ImpliedP base X L W) := by
  have hvb := h.sto.vb
  have hB : base ≤ W.heap.size := by have := h.sto.lo.1; have := h.sto.st.lt; omega
  have HF := Lib.hid (foreign_any h.sto L hx hn W.heap.size A c hA.ints (Nat.le_refl _))
  have H := Lib.hid h
  have HA := Lib.hid hA
  obtain ⟨i0, hi, hz0, hz1, hz2⟩ := info_parts Tryd.infoInt3
  cases hfo : foreign7 X.V L with
  | true =>
    rw [hfo] at HF
    clear h hA hx
    go_enter_defers Tryd.func18, Tryd.ntmps18
    go_wp2_with (go_at_call 29; refine HF.out.mono ?_; rintro e3 w3 ⟨rfl, hb3⟩; have HB3 := Lib.hid hb3; clear hb3)
    refine ⟨_, results_tmp rfl _ _ _, ?_⟩
    exact ⟨X, fo, false, rfl, H.out.below HB3.out, Tn.of_below HB3.out hB, Later7.refl _ _, SameR.refl _, ⟨fun e => (by cases e), fun e => (by cases e.1.symm.trans hfo)⟩⟩
  | false =>
    rw [hfo] at HF
    have HL := Lib.hid (foreign7_no hvb hfo)
    have HFO := Lib.hid hfo
    clear h hA hx hfo
    go_enter_defers Tryd.func18, Tryd.ntmps18
    go_wp2_with (first | (go_at_call 29; refine HF.out.mono ?_; rintro e3 w3 ⟨rfl, hb3⟩; have HB2 := Lib.hid hb3; clear hb3) | (at_make; refine wpList_make_full _ rfl _ _ 34 rfl w3.heap.size 3 i0 (.int .i64 0) 1 Tryd.underlying34 hi hz0 hz1 .i64 .i64 _ _ L.length rfl rfl rfl rfl (by rw [hz2]; omega) (by unfold maxLen; omega) (Nat.le_refl _) ?_; intro w4 hown4 hg4; have HOW := Lib.hid (show w4.ownsRow w3.heap.size 3 1 (.slice (some ⟨w3.heap.size, 0, none⟩) L.length L.length) L.length ((negTo L 0).map (Value.int .i64)) by rw [negTo_zero, ← made_zeros7]; exact hown4); have HB4 := Lib.hid (show Below w3.heap.size w3 w4 from ⟨hg4.os, hg4.tape, hg4.output, hg4.size, fun k hk => hg4.block k hk (by simp)⟩); clear hown4 hg4))
    go_loopg [16] (L.length + 1) (fun gk i wr => ∃ k : Nat, k ≤ L.length ∧ gk = L.length - k + 1 ∧ i = .int .i64 k ∧ Hid (wr.ownsRow w3.heap.size 3 1 (.slice (some ⟨w3.heap.size, 0, none⟩) L.length L.length) L.length ((negTo L k).map (Value.int .i64))) ∧ Hid (Below w3.heap.size w3 wr))
    case atStart => exact ⟨0, by omega, by omega, rfl, HOW, HB4⟩
    case round =>
      obtain ⟨k, hk, rfl, rfl, HO, HBR⟩ := hrel
      clear HOW HB4
      have HBW := Lib.hid (HB2.out.trans (HBR.out.mono HB2.out.size))
      by_cases hlt : k < L.length
      · obtain ⟨b', off', rfl, hb', hcj⟩ := (Cells.below HA.out.ints HBW.out).at_ hlt
        obtain ⟨x1, x2, x3⟩ := HL.out _ (take_snoc7 hlt).2
        have HST := Lib.hid (negTo_step L hlt)
        obtain ⟨x, hx⟩ : ∃ x, x = L.getD k 0 := ⟨_, rfl⟩
        rw [← hx] at hcj x1 x2 x3 HST
        have hwx : IntKind.i64.wrap (-x) = -x := IntWalk.i64_in _ (by omega)
        obtain ⟨Y, hY⟩ := own_blk7 HO.out
        have hfz := hY.frozen k
        have hck : ∃ v, wr.cell? ⟨w3.heap.size, k, none⟩ = some v := ⟨_, (World.ownsRow.cellAt HO.out k (by omega)).trans (List.getElem?_eq_getElem (by rw [List.length_map, negTo_len L hk]; exact hlt))⟩
        obtain ⟨v0, hv0⟩ := hck
        have HPUT := Lib.hid (own_putv HO.out k (.int .i64 (-x)))
        rw [HST.out] at HPUT
        clear hx hY
        go_wp2
        go_roundg (L.length - k)
        case measure => omega
        case rel => exact ⟨k + 1, by omega, by omega, by go_num, HPUT, Lib.hid (HBR.out.setCell (Nat.le_refl _) _)⟩
      · obtain rfl : k = L.length := by omega
        rw [negTo_all] at HO
        have hln : (negs L).length = L.length := by simp [negs]
        have hbw : base ≤ wr.heap.size := Nat.le_trans hB HBW.out.size
        have hap : Apart wr X w3.heap.size (some ⟨w3.heap.size, 0, none⟩) L.length (negs L) := ⟨by rw [hln]; exact HO.out, fun g hg e => by
          have h1 : w3.heap.size = g := by simpa [Value.ownBlock] using hg
          have h2 := (H.out.sto.fnd.lt g e).2
          have h3 := HB2.out.size
          omega⟩
        have hRW := H.out.below HBW.out
        have HSP := Lib.hid (spread_any hRW.sto hRW.wf hRW.fw hRW.fd hRW.short hRW.shn hap (fun x hx => by obtain ⟨y, hy, rfl⟩ := List.mem_map.1 hx; exact (HL.out y hy).neg) (by rw [hln]; exact hn))
        rw [hln] at HSP
        have HTW := Lib.hid (Tn.of_below (X := X) HBW.out hB)
        clear hap hRW hln
        go_wp2_with (go_at_call 31; refine HSP.out.mono ?_)
        rintro e5 w5 ⟨Z, fz, b, rfl, hS, hT, hLat, hSame, hFw, hWf, hyes, hno⟩
        have HFG := Lib.hid (forget_d (u := .returning) hS hFw)
        rw [hSame.s] at HFG
        have HT := Lib.hid (show Tn base X W w5 from HTW.out.trans hT (Later7.refl _ _))
        have HLA := Lib.hid (show Later7 W X Z from hLat.from_ HBW.out.size)
        have HSA := Lib.hid hSame
        have HWF := Lib.hid hWf
        have HY := Lib.hid hyes
        have HN := Lib.hid hno
        have HSZ := Lib.hid (Nat.le_trans HBW.out.size hT.below.size)
        clear hS hT hLat hSame hFw hWf hyes hno
        go_wp2
        refine leaves_cons (f := 30) (args := #[.pointer (some ⟨X.s, 0, none⟩)]) (by simp) (by simp [go_sem]) ?_
        refine HFG.out.mono ?_
        rintro e6 u6 w6 ⟨rfl, hfg⟩
        obtain ⟨rfl, fo6, hS6, hF6, hT6, hL6⟩ := hfg
        refine ⟨_, results_tmp rfl _ _ _, ?_⟩
        refine ⟨Z.clean, fo6, !b, rfl, H.out.again HSA.out HWF.out hS6 hF6, HT.out.trans hT6 HLA.out, HLA.out.trans hL6 HSZ.out, HSA.out.rest, ?_⟩
        rw [← HSA.out.cs]
        cases b with
        | true => exact ⟨fun e => (by cases e), fun e => absurd e.2 ((HY.out rfl).yes rfl).1⟩
        | false => exact ⟨fun _ => ⟨HFO.out, HN.out rfl⟩, fun _ => rfl⟩
end Go.Proofs.YtlkgicaajenhaaaDoor
