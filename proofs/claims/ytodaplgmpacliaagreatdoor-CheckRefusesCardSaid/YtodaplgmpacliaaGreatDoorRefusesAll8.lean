/- What is no proof is refused: the walk. What is no proof is refused, of raw arguments. -/
import Derived.Test.YtodaplgmpacliaaGreatDoorCheck08
import Derived.Test.YtodaplgmpacliaaGreatDoorDoor8
namespace Go.Proofs.YtodaplgmpacliaaGreatDoor
open Go.RowKit
set_option linter.unusedVariables false
set_option linter.unusedSimpArgs false

theorem OwnList.orows {w w' : World} {b0 : Nat} {vs : List Value} {cs : List (List Int)} (h : OwnList w b0 3 vs cs) (hb : Below w.heap.size w w') : ORows w' w'.heap.size b0 vs cs := fun j hj => by
  obtain ⟨Aj, cj, e, ho⟩ := h.each j hj
  exact ⟨Aj, cj, e, own_below ho hb fun g hg => (ho.lt g hg).2, fun g hg => Nat.lt_of_lt_of_le (ho.lt g hg).2 hb.size⟩
theorem txt_same8 {s : List UInt8} {k : Int} {r : Option (List Stp)} {k' : Int} (h : TxtIs s (none, k)) (h' : TxtIs s (r, k')) : r = none ∧ k' = k := by
  cases h with
  | form h =>
    cases h' with
    | ok ps h1 h2 => exact absurd h2 (h ps h1)
    | form _ => exact ⟨rfl, rfl⟩
theorem bin_same8 {s : List UInt8} {k : Int} {r : Option (List Stp)} {k' : Int} (h : BinIs s (none, k)) (h' : BinIs s (r, k')) : r = none ∧ k' = k := by
  cases h with
  | short h hx =>
    cases h' with
    | ok ps h1 h2 => exact absurd h2 (h ps h1)
    | short _ _ => exact ⟨rfl, rfl⟩
    | form h3 => obtain ⟨ps, e, _, _, h5⟩ := hx; exact absurd h5 (h3 ps e (by assumption))
  | form h =>
    cases h' with
    | ok ps h1 h2 => exact absurd (by rw [h2, List.append_nil]) (h ps [] h1)
    | short _ hx => obtain ⟨ps, e, h3, _, h5⟩ := hx; exact absurd h5 (h ps e h3)
    | form _ => exact ⟨rfl, rfl⟩
theorem ans_form8 {V : Nat} {cs : List (List Int)} {r : Option (List Stp)} {k : Int} {e : Ending} (h : match r with
    | none => e = .returned (.tuple #[.agg #[.bool false, .int .i64 0, .int .i64 0], .int .i64 k])
    | some ps => (ps.all (rightP V) = false ∧ e = .returned (.tuple #[.agg #[.bool false, .int .i64 0, .int .i64 0], .int .i64 1])) ∨
      (ps.all (rightP V) = true ∧ ∃ en bd : Int, Chk (cs.map normOf) 0 ps en bd ∧ e = .returned (.tuple #[.agg #[.bool (decide (en ≠ -1)), .int .i64 en, .int .i64 bd], .int .i64 0]))) :
    ∃ (rr : Bool) (en bd er : Int), e = .returned (.tuple #[.agg #[.bool rr, .int .i64 en, .int .i64 bd], .int .i64 er]) := by
  cases r with
  | none => exact ⟨_, _, _, _, h⟩
  | some ps => rcases h with ⟨_, rfl⟩ | ⟨_, en, bd, _, rfl⟩ <;> exact ⟨_, _, _, _, rfl⟩
theorem rightV_iff {F : Nat} (hF : F ≤ 100000) {l : Int} : rightV F l = true ↔ l ≠ 0 ∧ l ≤ F ∧ -(F : Int) ≤ l := by
  unfold rightV
  rw [litRight_iff]
  omega

set_option maxRecDepth 100000 in
set_option maxHeartbeats 4000000 in
theorem refuses_law (v : Nat) (nss : List (List Int)) (A : Option Addr) (c : Nat) (L : List Int) (LA : Option Addr) (lc : Nat) (bs : List UInt8) (D : Option Addr) (d : Nat) (m : Int) (w : World) (hv : v ≤ 255) (hx : nss.length ≤ 140737488355328) (hl : ∀ j, (nss.getD j []).length ≤ 140737488355328) (hn : ∀ j k, -32768 ≤ (nss.getD j []).getD k 0 ∧ (nss.getD j []).getD k 0 ≤ 32767) (h : KRows .i16 w w.heap.size A nss)
    (hL : Ints w w.heap.size LA L) (hLl : L.length ≤ 9223372036854775807) (hLw : ∀ k, -9223372036854775808 ≤ L.getD k 0 ∧ L.getD k 0 ≤ 9223372036854775807) (hb : Bytes w w.heap.size D bs) (hbd : bs.length ≤ d) (hbl : bs.length ≤ 9223372036854775807) (hT : Tab7 w) (hE : EnvN m w) :
    Calls Tryz.prog 6 #[.agg #[.int .u8 v, .slice A nss.length c], .slice LA L.length lc, .slice D bs.length d] w fun e w' => e = .returned (.bool true) ∧ Below w.heap.size w w' := by
  have H := Lib.hid h
  have HL := Lib.hid hl
  have HN := Lib.hid hn
  have HTE : Hid (∀ w', Below w.heap.size w w' → Tab7 w' ∧ EnvN m w') := Lib.hid fun w' hb => ⟨(hT.b.on hb).here, hE.same hb⟩
  have HLI := Lib.hid hL
  have HLW := Lib.hid hLw
  have HBY := Lib.hid hb
  have HCV := Lib.hid (fun (w' : World) (hb' : Below w.heap.size w w') => run_bytes_string (hb.below hb') d)
  obtain ⟨n, hnn⟩ : ∃ n, n = L.length := ⟨_, rfl⟩
  obtain ⟨bn, hbn⟩ : ∃ bn, bn = bs.length := ⟨_, rfl⟩
  have HNN := Lib.hid hnn
  have HBN := Lib.hid hbn
  rw [← hnn] at hLl ⊢
  rw [← hbn] at hbd hbl HCV ⊢
  obtain ⟨w1, hw1⟩ : ∃ w1, w1 = w.alloc (.cells #[.int .u8 v, .slice A nss.length c] 24) := ⟨_, rfl⟩
  have hb1 : Below w.heap.size w w1 := by rw [hw1]; exact (Below.refl _ _).alloc (Nat.le_refl _) _
  have HB1 := Lib.hid hb1
  have HK1 := Lib.hid (show Blk w1 w.heap.size 24 #[.int .u8 v, .slice A nss.length c] by rw [hw1]; exact Blk.new w _ _)
  have HFIT := Lib.hid (fit8_any m w1 (HTE.out w1 hb1).1 (HTE.out w1 hb1).2)
  have HW1 := Lib.hid hw1
  clear h hl hn hT hE hL hLw hb hb1 hw1 hnn hbn
  go_enter Tryz.func6, Tryz.ntmps6
  go_wp2_with fail
  rw [← HW1.out]
  refine HFIT.out.mono ?_
  rintro e w2 ⟨rfl, hb2⟩
  have HB2 := Lib.hid (HB1.out.trans (hb2.mono HB1.out.size))
  have HK2 := Lib.hid (HK1.out.below hb2 HK1.out.lt)
  have hcv := HCV.out w2 HB2.out
  have k0 := HK2.out.cell 0
  have k1 := HK2.out.cell 1
  simp at k0 k1
  clear hb2
  go_wp2_with fail
  refine (light_any v nss _ A c 30 w2 (by omega) hx HL.out (H.out.below HB2.out) HB2.out.size).mono ?_
  rintro e w3 ⟨rfl, hb3⟩
  have HB3 := Lib.hid (HB2.out.trans (hb3.mono HB2.out.size))
  have HK3 := Lib.hid (HK2.out.below hb3 HK2.out.lt)
  have k0 := HK3.out.cell 0
  have k1 := HK3.out.cell 1
  simp at k0 k1
  clear hb3
  rcases hlt : light nss 30 with _ | _
  · go_wp2
    go_ret
    exact ⟨rfl, HB3.out⟩
  by_cases hn20 : 20 < n
  · clear hlt
    go_wp2
    go_ret
    exact ⟨rfl, HB3.out⟩
  by_cases hn300 : 300 < bn
  · clear hlt
    go_wp2
    go_ret
    exact ⟨rfl, HB3.out⟩
  have hls := rows_light7 hlt (by omega)
  have hFM := form7_raw (F := v % (8 + 1)) (width := 5) hlt (by omega) (by omega)
  clear hlt
  go_wp2_with fail
  refine (formula_any v nss _ A c 8 5 w3 hv (by omega) (by omega) hls.1 hls.2 HN.out (H.out.below HB3.out) HB3.out.size).mono ?_
  have hF : v % (8 + 1) ≤ 8 := by omega
  obtain ⟨F, hFF⟩ : ∃ F, F = v % (8 + 1) := ⟨_, rfl⟩
  rw [← hFF] at hF hFM ⊢
  clear hFF
  obtain ⟨cs, hcs⟩ : ∃ cs, cs = rawForm F 5 nss := ⟨_, rfl⟩
  rw [← hcs] at hFM ⊢
  clear hcs
  have HFM := Lib.hid hFM
  have hfew := hFM.few
  rintro e w4 ⟨A4, c4, vs, rfl, hown4, hlist4, hb4⟩
  have HB4 := Lib.hid (HB3.out.trans (hb4.mono HB3.out.size))
  have HO4 := Lib.hid hown4
  have HLI4 := Lib.hid hlist4
  clear hFM hown4 hlist4 hb4 k0 k1 hls hcv
  obtain ⟨CN, hCN⟩ : ∃ CN, CN = cs.length := ⟨_, rfl⟩
  have HCN := Lib.hid hCN
  rw [← hCN] at hfew ⊢
  obtain ⟨w5, hw5⟩ : ∃ w5, w5 = w4.alloc (.cells #[.int .i64 F, .slice A4 CN c4] 31) := ⟨_, rfl⟩
  have hb45 : Below w4.heap.size w4 w5 := by rw [hw5]; exact (Below.refl _ _).alloc (Nat.le_refl _) _
  have HB5 := Lib.hid (HB4.out.trans (hb45.mono HB4.out.size))
  have HFB5 := Lib.hid (show Blk w5 w4.heap.size 31 #[.int .i64 F, .slice A4 CN c4] by rw [hw5]; exact Blk.new w4 _ _)
  have HCK : Hid (∀ w', Below w5.heap.size w5 w' → w'.ownsRow w3.heap.size 55 1 (.slice A4 cs.length c4) cs.length vs ∧ ORows w' w'.heap.size w3.heap.size vs cs ∧ Blk w' w4.heap.size 31 #[.int .i64 F, .slice A4 CN c4]) := Lib.hid fun w' hb =>
    ⟨own_below HO4.out (hb45.trans (hb.mono hb45.size)) fun g hg => (HO4.out.lt g hg).2, HLI4.out.orows (hb45.trans (hb.mono hb45.size)), HFB5.out.below hb HFB5.out.lt⟩
  have HW5 := Lib.hid hw5
  clear hb45 hw5 hCN
  have f0 := HFB5.out.cell 0
  have f1 := HFB5.out.cell 1
  simp at f0 f1
  rw [HW5.out] at f0 f1
  go_wp2
  rw [← HW5.out] at f0 f1 ⊢
  go_loopg [9, 41] (n + 1) (fun g r i wr => w5 = wr ∧ ∃ k : Nat, k ≤ n ∧ g = n - k + 1 ∧ i = .int .i64 k ∧ r = .bool ((L.take k).all (rightV F)))
  case atStart => exact ⟨rfl, 0, by omega, by omega, rfl, rfl⟩
  case round =>
    obtain ⟨rfl, k, hk, rfl, rfl, rfl⟩ := hrel
    by_cases hlt : k < n
    · obtain ⟨lb, off, rfl, _, hcell⟩ := (Cells.below HLI.out HB5.out).at_ (k := k) (by rw [← HNN.out]; exact hlt)
      have hlw := HLW.out k
      have hall : (L.take (k + 1)).all (rightV F) = ((L.take k).all (rightV F) && rightV F (L.getD k 0)) := by
        have hk2 : k < L.length := by rw [← HNN.out]; exact hlt
        rw [List.take_succ_eq_append_getElem hk2, List.all_append]
        simp [List.getD, hk2]
      obtain ⟨l, hl⟩ : ∃ l, L.getD k 0 = l := ⟨_, rfl⟩
      obtain ⟨r, hr⟩ : ∃ r, (L.take k).all (rightV F) = r := ⟨_, rfl⟩
      rw [hl] at hall hlw
      simp only [hl] at hcell
      rw [hr] at hall ⊢
      have HA := Lib.hid hall
      have HRV := Lib.hid (rightV_iff (F := F) (l := l) (by omega))
      clear hall hl hr
      rcases r with _ | _
      · go_wp2
        go_roundg (n - k)
        case measure => omega
        case rel => exact ⟨rfl, k + 1, by omega, by omega, by go_num, by rw [HA.out, Bool.false_and]⟩
      · by_cases h0 : l = 0
        · have h0b : (l != 0) = false := by simp [h0]
          go_wp2
          go_roundg (n - k)
          case measure => omega
          case rel => exact ⟨rfl, k + 1, by omega, by omega, by go_num, by rw [HA.out, show rightV F l = false by rw [Bool.eq_false_iff]; intro h; have := HRV.out.1 h; omega, Bool.and_false]⟩
        · have h0b : (l != 0) = true := by simp [h0]
          by_cases h1 : l ≤ F
          · by_cases h2 : -(F : Int) ≤ l
            · go_wp2
              go_roundg (n - k)
              case measure => omega
              case rel => exact ⟨rfl, k + 1, by omega, by omega, by go_num, by rw [HA.out, HRV.out.2 ⟨h0, h1, h2⟩, Bool.and_true]⟩
            · go_wp2
              go_roundg (n - k)
              case measure => omega
              case rel => exact ⟨rfl, k + 1, by omega, by omega, by go_num, by rw [HA.out, show rightV F l = false by rw [Bool.eq_false_iff]; intro h; have := HRV.out.1 h; omega, Bool.and_false]⟩
          · go_wp2
            go_roundg (n - k)
            case measure => omega
            case rel => exact ⟨rfl, k + 1, by omega, by omega, by go_num, by rw [HA.out, show rightV F l = false by rw [Bool.eq_false_iff]; intro h; have := HRV.out.1 h; omega, Bool.and_false]⟩
    · have hkn : n = k := by omega
      subst hkn
      have hst : ∃ w6, w6 = w5.alloc (.cells #[.bool true, .slice LA n lc] 60) := ⟨_, rfl⟩
      obtain ⟨w6, hw6⟩ := hst
      have hb56 : Below w5.heap.size w5 w6 := by rw [hw6]; exact (Below.refl _ _).alloc (Nat.le_refl _) _
      have HB6 := Lib.hid (HB5.out.trans (hb56.mono HB5.out.size))
      have HB56 := Lib.hid hb56
      have ks : Blk w6 w5.heap.size 60 #[.bool true, .slice LA n lc] := by rw [hw6]; exact Blk.new w5 _ _
      have hck := HCK.out w6 hb56
      have hli : Ints w6 w6.heap.size LA L := (Cells.below HLI.out HB6.out).more HB6.out.size
      have HC6 := Lib.hid (check8_any F cs [(true, L)] vs w3.heap.size w3.heap.size A4 (some ⟨w5.heap.size, 0, none⟩) c4 1 w6 (by omega) (by have := HCN.out; omega) HFM.out.big hck.1 hck.2.1 (fun _ => ⟨w5.heap.size, 0, rfl, ks.lt, fun j hj => by
        obtain rfl : j = 0 := by simp at hj; omega
        exact ⟨LA, lc, ks.cell 0, (ks.cell 1).trans (by rw [HNN.out]; rfl), hli, fun h => by cases h⟩⟩) ⟨by simp, fun k => by match k with | 0 => exact ⟨by show L.length ≤ 1000000; rw [← HNN.out]; omega, HLW.out⟩ | k + 1 => exact ⟨by simp [List.getD], fun i => by simp [List.getD]⟩⟩ (by simp) (HTE.out w6 HB6.out).1)
      rw [← HCN.out, show [(true, L)].length = 1 from rfl] at HC6
      have hall : (L.take n).all (rightV F) = L.all (rightV F) := by rw [HNN.out, List.take_length]
      have hps : [(true, L)].all (rightP F) = L.all (rightV F) := by simp [rightP]
      rw [hall]
      obtain ⟨R, hR⟩ : ∃ R, L.all (rightV F) = R := ⟨_, rfl⟩
      rw [hR] at hps ⊢
      have HPS := Lib.hid hps
      have f0 := HFB5.out.cell 0
      have f1 := HFB5.out.cell 1
      simp at f0 f1
      have HW6 := Lib.hid hw6
      clear hw6 hb56 ks hck hli hall hps hR
      go_wp2_with fail
      rw [← HW6.out]
      with_reducible refine HC6.out.mono ?_
      rintro e w7 ⟨hb7, h7⟩
      have HB7 := Lib.hid (HB6.out.trans (hb7.mono HB6.out.size))
      have HB57 := Lib.hid (HB56.out.trans (hb7.mono HB56.out.size))
      clear hb7
      rcases h7 with ⟨hf, rfl⟩ | ⟨hf, en, bd, _, rfl⟩
      · obtain rfl : R = false := HPS.out.symm.trans hf
        obtain ⟨w8, hw8⟩ : ∃ w8, w8 = w7.alloc (.cells #[.bool false, .int .i64 0, .int .i64 0] 40) := ⟨_, rfl⟩
        have hb78 : Below w7.heap.size w7 w8 := by rw [hw8]; exact (Below.refl _ _).alloc (Nat.le_refl _) _
        have HB8 := Lib.hid (HB7.out.trans (hb78.mono HB7.out.size))
        have HB58 := Lib.hid (HB57.out.trans (hb78.mono HB57.out.size))
        have HW8 := Lib.hid hw8
        clear hb78 hw8 hf
        go_wp2_with fail
        rw [← HW8.out]
        have HPT := Lib.hid (parseText_any bs m w8 (by rw [← HBN.out]; omega) (HTE.out w8 HB8.out).2)
        go_wp2_with fail
        with_reducible refine HPT.out.mono ?_
        rintro e wp ⟨hbp, (⟨ps1, D1, d1, rfl, htx1, hown1⟩ | ⟨rfl, htx1⟩)⟩
        · have HBp := Lib.hid (HB8.out.trans (hbp.mono HB8.out.size))
          have HBp5 := Lib.hid (HB58.out.trans (hbp.mono HB58.out.size))
          have hck := HCK.out wp HBp5.out
          have HTI := Lib.hid (text8_any F cs vs w3.heap.size w3.heap.size A4 c4 bs m wp (by omega) (by have := HCN.out; omega) HFM.out.big hck.1 hck.2.1 (by rw [← HBN.out]; omega) (HTE.out wp HBp.out).1 (HTE.out wp HBp.out).2)
          rw [← HCN.out] at HTI
          have f0 := hck.2.2.cell 0
          have f1 := hck.2.2.cell 1
          simp at f0 f1
          clear hbp htx1 hown1 hck
          go_wp2_with fail
          with_reducible refine HTI.out.mono ?_
          rintro e wq ⟨r2, k2', htx2, hbq, h2⟩
          obtain ⟨rr2, en2, bd2, er2, rfl⟩ : ∃ (rr : Bool) (en bd er : Int), e = .returned (.tuple #[.agg #[.bool rr, .int .i64 en, .int .i64 bd], .int .i64 er]) := ans_form8 h2
          obtain ⟨wr2, hwr2⟩ : ∃ wr2, wr2 = wq.alloc (.cells #[.bool rr2, .int .i64 en2, .int .i64 bd2] 40) := ⟨_, rfl⟩
          have hbr2 : Below wq.heap.size wq wr2 := by rw [hwr2]; exact (Below.refl _ _).alloc (Nat.le_refl _) _
          have HBq := Lib.hid ((HBp.out.trans (hbq.mono HBp.out.size)).trans (hbr2.mono ((HBp.out.trans (hbq.mono HBp.out.size)).size)))
          have HBq5 := Lib.hid ((HBp5.out.trans (hbq.mono HBp5.out.size)).trans (hbr2.mono ((HBp5.out.trans (hbq.mono HBp5.out.size)).size)))
          have HWR2 := Lib.hid hwr2
          clear hbq h2 htx2 hbr2 hwr2
          go_wp2_with fail
          rw [← HWR2.out]
          have HPB := Lib.hid (parseBinary_any bs w.heap.size d D wr2 (Cells.below HBY.out HBq.out) HBq.out.size (by rw [← HBN.out]; exact hbd) (by rw [← HBN.out]; omega))
          rw [← HBN.out] at HPB
          go_wp2_with fail
          with_reducible refine HPB.out.mono ?_
          rintro e wb ⟨hbb, (⟨ps2, D2, d2, rfl, htx2, hown2⟩ | ⟨k2, rfl, htx2, hk2⟩)⟩
          · have HBb := Lib.hid (HBq.out.trans (hbb.mono HBq.out.size))
            have HBb5 := Lib.hid (HBq5.out.trans (hbb.mono HBq5.out.size))
            have hck := HCK.out wb HBb5.out
            have HBI := Lib.hid (binary8_any F cs vs w3.heap.size w3.heap.size A4 c4 bs w.heap.size d D wb (by omega) (by have := HCN.out; omega) HFM.out.big hck.1 hck.2.1 (by rw [← HBN.out]; omega) (HTE.out wb HBb.out).1 (Cells.below HBY.out HBb.out) HBb.out.size (by rw [← HBN.out]; exact hbd))
            rw [← HBN.out, ← HCN.out] at HBI
            have f0 := hck.2.2.cell 0
            have f1 := hck.2.2.cell 1
            simp at f0 f1
            clear hbb htx2 hown2 hck
            go_wp2_with fail
            with_reducible refine HBI.out.mono ?_
            rintro e wc ⟨r3, k3, htx3, hkk3, hbc, h3⟩
            obtain ⟨rr3, en3, bd3, er3, rfl⟩ : ∃ (rr : Bool) (en bd er : Int), e = .returned (.tuple #[.agg #[.bool rr, .int .i64 en, .int .i64 bd], .int .i64 er]) := ans_form8 h3
            have HBc := Lib.hid (HBb.out.trans (hbc.mono HBb.out.size))
            have HBE := Lib.hid (HBc.out.alloc HBc.out.size (.cells #[.bool rr3, .int .i64 en3, .int .i64 bd3] 40))
            clear hbc h3 htx3 hkk3
            go_wp2
            go_ret
            exact ⟨rfl, HBE.out⟩
          · have HBb := Lib.hid (HBq.out.trans (hbb.mono HBq.out.size))
            have HBb5 := Lib.hid (HBq5.out.trans (hbb.mono HBq5.out.size))
            have hck := HCK.out wb HBb5.out
            have HTX2 := Lib.hid htx2
            have HBI := Lib.hid (binary8_any F cs vs w3.heap.size w3.heap.size A4 c4 bs w.heap.size d D wb (by omega) (by have := HCN.out; omega) HFM.out.big hck.1 hck.2.1 (by rw [← HBN.out]; omega) (HTE.out wb HBb.out).1 (Cells.below HBY.out HBb.out) HBb.out.size (by rw [← HBN.out]; exact hbd))
            rw [← HBN.out, ← HCN.out] at HBI
            have hkb : (k2 == 0) = false := by simpa using hk2
            have f0 := hck.2.2.cell 0
            have f1 := hck.2.2.cell 1
            simp at f0 f1
            clear hbb htx2 hck hk2
            go_wp2_with fail
            with_reducible refine HBI.out.mono ?_
            rintro e wc ⟨r3, k3, htx3, hkk3, hbc, h3⟩
            obtain ⟨rfl, rfl⟩ := bin_same8 HTX2.out htx3
            have h3 : e = .returned (.tuple #[.agg #[.bool false, .int .i64 0, .int .i64 0], .int .i64 k3]) := h3
            subst h3
            have HBc := Lib.hid (HBb.out.trans (hbc.mono HBb.out.size))
            have hwc := Blk.new wc 40 #[.bool false, .int .i64 0, .int .i64 0]
            have HBE := Lib.hid (HBc.out.alloc HBc.out.size (.cells #[.bool false, .int .i64 0, .int .i64 0] 40))
            clear hbc htx3 hkk3 HTX2 hwc
            go_wp2
            go_ret
            exact ⟨by simp, HBE.out⟩
        · have HBp := Lib.hid (HB8.out.trans (hbp.mono HB8.out.size))
          have HBp5 := Lib.hid (HB58.out.trans (hbp.mono HB58.out.size))
          have hck := HCK.out wp HBp5.out
          have HTX1 := Lib.hid htx1
          have HTI := Lib.hid (text8_any F cs vs w3.heap.size w3.heap.size A4 c4 bs m wp (by omega) (by have := HCN.out; omega) HFM.out.big hck.1 hck.2.1 (by rw [← HBN.out]; omega) (HTE.out wp HBp.out).1 (HTE.out wp HBp.out).2)
          rw [← HCN.out] at HTI
          have f0 := hck.2.2.cell 0
          have f1 := hck.2.2.cell 1
          simp at f0 f1
          clear hbp htx1 hck
          go_wp2_with fail
          with_reducible refine HTI.out.mono ?_
          rintro e wq ⟨r2, k2', htx2, hbq, h2⟩
          obtain ⟨rfl, rfl⟩ := txt_same8 HTX1.out htx2
          have h2 : e = .returned (.tuple #[.agg #[.bool false, .int .i64 0, .int .i64 0], .int .i64 9]) := h2
          subst h2
          obtain ⟨wr2, hwr2⟩ : ∃ wr2, wr2 = wq.alloc (.cells #[.bool false, .int .i64 0, .int .i64 0] 40) := ⟨_, rfl⟩
          have hbr2 : Below wq.heap.size wq wr2 := by rw [hwr2]; exact (Below.refl _ _).alloc (Nat.le_refl _) _
          have HBq := Lib.hid ((HBp.out.trans (hbq.mono HBp.out.size)).trans (hbr2.mono ((HBp.out.trans (hbq.mono HBp.out.size)).size)))
          have HBq5 := Lib.hid ((HBp5.out.trans (hbq.mono HBp5.out.size)).trans (hbr2.mono ((HBp5.out.trans (hbq.mono HBp5.out.size)).size)))
          have HWR2 := Lib.hid hwr2
          clear hbq htx2 hbr2 hwr2 HTX1
          go_wp2_with fail
          rw [← HWR2.out]
          have HPB := Lib.hid (parseBinary_any bs w.heap.size d D wr2 (Cells.below HBY.out HBq.out) HBq.out.size (by rw [← HBN.out]; exact hbd) (by rw [← HBN.out]; omega))
          rw [← HBN.out] at HPB
          go_wp2_with fail
          with_reducible refine HPB.out.mono ?_
          rintro e wb ⟨hbb, (⟨ps2, D2, d2, rfl, htx2, hown2⟩ | ⟨k2, rfl, htx2, hk2⟩)⟩
          · have HBb := Lib.hid (HBq.out.trans (hbb.mono HBq.out.size))
            have HBb5 := Lib.hid (HBq5.out.trans (hbb.mono HBq5.out.size))
            have hck := HCK.out wb HBb5.out
            have HBI := Lib.hid (binary8_any F cs vs w3.heap.size w3.heap.size A4 c4 bs w.heap.size d D wb (by omega) (by have := HCN.out; omega) HFM.out.big hck.1 hck.2.1 (by rw [← HBN.out]; omega) (HTE.out wb HBb.out).1 (Cells.below HBY.out HBb.out) HBb.out.size (by rw [← HBN.out]; exact hbd))
            rw [← HBN.out, ← HCN.out] at HBI
            have f0 := hck.2.2.cell 0
            have f1 := hck.2.2.cell 1
            simp at f0 f1
            clear hbb htx2 hown2 hck
            go_wp2_with fail
            with_reducible refine HBI.out.mono ?_
            rintro e wc ⟨r3, k3, htx3, hkk3, hbc, h3⟩
            obtain ⟨rr3, en3, bd3, er3, rfl⟩ : ∃ (rr : Bool) (en bd er : Int), e = .returned (.tuple #[.agg #[.bool rr, .int .i64 en, .int .i64 bd], .int .i64 er]) := ans_form8 h3
            have HBc := Lib.hid (HBb.out.trans (hbc.mono HBb.out.size))
            have HBE := Lib.hid (HBc.out.alloc HBc.out.size (.cells #[.bool rr3, .int .i64 en3, .int .i64 bd3] 40))
            clear hbc h3 htx3 hkk3
            go_wp2
            go_ret
            exact ⟨rfl, HBE.out⟩
          · have HBb := Lib.hid (HBq.out.trans (hbb.mono HBq.out.size))
            have HBb5 := Lib.hid (HBq5.out.trans (hbb.mono HBq5.out.size))
            have hck := HCK.out wb HBb5.out
            have HTX2 := Lib.hid htx2
            have HBI := Lib.hid (binary8_any F cs vs w3.heap.size w3.heap.size A4 c4 bs w.heap.size d D wb (by omega) (by have := HCN.out; omega) HFM.out.big hck.1 hck.2.1 (by rw [← HBN.out]; omega) (HTE.out wb HBb.out).1 (Cells.below HBY.out HBb.out) HBb.out.size (by rw [← HBN.out]; exact hbd))
            rw [← HBN.out, ← HCN.out] at HBI
            have hkb : (k2 == 0) = false := by simpa using hk2
            have f0 := hck.2.2.cell 0
            have f1 := hck.2.2.cell 1
            simp at f0 f1
            clear hbb htx2 hck hk2
            go_wp2_with fail
            with_reducible refine HBI.out.mono ?_
            rintro e wc ⟨r3, k3, htx3, hkk3, hbc, h3⟩
            obtain ⟨rfl, rfl⟩ := bin_same8 HTX2.out htx3
            have h3 : e = .returned (.tuple #[.agg #[.bool false, .int .i64 0, .int .i64 0], .int .i64 k3]) := h3
            subst h3
            have HBc := Lib.hid (HBb.out.trans (hbc.mono HBb.out.size))
            have hwc := Blk.new wc 40 #[.bool false, .int .i64 0, .int .i64 0]
            have HBE := Lib.hid (HBc.out.alloc HBc.out.size (.cells #[.bool false, .int .i64 0, .int .i64 0] 40))
            clear hbc htx3 hkk3 HTX2 hwc
            go_wp2
            go_ret
            exact ⟨by simp, HBE.out⟩
      · obtain rfl : R = true := HPS.out.symm.trans hf
        obtain ⟨w8, hw8⟩ : ∃ w8, w8 = w7.alloc (.cells #[.bool (decide (en ≠ -1)), .int .i64 en, .int .i64 bd] 40) := ⟨_, rfl⟩
        have hb78 : Below w7.heap.size w7 w8 := by rw [hw8]; exact (Below.refl _ _).alloc (Nat.le_refl _) _
        have HB8 := Lib.hid (HB7.out.trans (hb78.mono HB7.out.size))
        have HB58 := Lib.hid (HB57.out.trans (hb78.mono HB57.out.size))
        have HW8 := Lib.hid hw8
        clear hb78 hw8 hf
        generalize decide (en ≠ -1) = rr at HW8 ⊢
        go_wp2_with fail
        rw [← HW8.out]
        have HPT := Lib.hid (parseText_any bs m w8 (by rw [← HBN.out]; omega) (HTE.out w8 HB8.out).2)
        go_wp2_with fail
        with_reducible refine HPT.out.mono ?_
        rintro e wp ⟨hbp, (⟨ps1, D1, d1, rfl, htx1, hown1⟩ | ⟨rfl, htx1⟩)⟩
        · have HBp := Lib.hid (HB8.out.trans (hbp.mono HB8.out.size))
          have HBp5 := Lib.hid (HB58.out.trans (hbp.mono HB58.out.size))
          have hck := HCK.out wp HBp5.out
          have HTI := Lib.hid (text8_any F cs vs w3.heap.size w3.heap.size A4 c4 bs m wp (by omega) (by have := HCN.out; omega) HFM.out.big hck.1 hck.2.1 (by rw [← HBN.out]; omega) (HTE.out wp HBp.out).1 (HTE.out wp HBp.out).2)
          rw [← HCN.out] at HTI
          have f0 := hck.2.2.cell 0
          have f1 := hck.2.2.cell 1
          simp at f0 f1
          clear hbp htx1 hown1 hck
          go_wp2_with fail
          with_reducible refine HTI.out.mono ?_
          rintro e wq ⟨r2, k2', htx2, hbq, h2⟩
          obtain ⟨rr2, en2, bd2, er2, rfl⟩ : ∃ (rr : Bool) (en bd er : Int), e = .returned (.tuple #[.agg #[.bool rr, .int .i64 en, .int .i64 bd], .int .i64 er]) := ans_form8 h2
          obtain ⟨wr2, hwr2⟩ : ∃ wr2, wr2 = wq.alloc (.cells #[.bool rr2, .int .i64 en2, .int .i64 bd2] 40) := ⟨_, rfl⟩
          have hbr2 : Below wq.heap.size wq wr2 := by rw [hwr2]; exact (Below.refl _ _).alloc (Nat.le_refl _) _
          have HBq := Lib.hid ((HBp.out.trans (hbq.mono HBp.out.size)).trans (hbr2.mono ((HBp.out.trans (hbq.mono HBp.out.size)).size)))
          have HBq5 := Lib.hid ((HBp5.out.trans (hbq.mono HBp5.out.size)).trans (hbr2.mono ((HBp5.out.trans (hbq.mono HBp5.out.size)).size)))
          have HWR2 := Lib.hid hwr2
          clear hbq h2 htx2 hbr2 hwr2
          go_wp2_with fail
          rw [← HWR2.out]
          have HPB := Lib.hid (parseBinary_any bs w.heap.size d D wr2 (Cells.below HBY.out HBq.out) HBq.out.size (by rw [← HBN.out]; exact hbd) (by rw [← HBN.out]; omega))
          rw [← HBN.out] at HPB
          go_wp2_with fail
          with_reducible refine HPB.out.mono ?_
          rintro e wb ⟨hbb, (⟨ps2, D2, d2, rfl, htx2, hown2⟩ | ⟨k2, rfl, htx2, hk2⟩)⟩
          · have HBb := Lib.hid (HBq.out.trans (hbb.mono HBq.out.size))
            have HBb5 := Lib.hid (HBq5.out.trans (hbb.mono HBq5.out.size))
            have hck := HCK.out wb HBb5.out
            have HBI := Lib.hid (binary8_any F cs vs w3.heap.size w3.heap.size A4 c4 bs w.heap.size d D wb (by omega) (by have := HCN.out; omega) HFM.out.big hck.1 hck.2.1 (by rw [← HBN.out]; omega) (HTE.out wb HBb.out).1 (Cells.below HBY.out HBb.out) HBb.out.size (by rw [← HBN.out]; exact hbd))
            rw [← HBN.out, ← HCN.out] at HBI
            have f0 := hck.2.2.cell 0
            have f1 := hck.2.2.cell 1
            simp at f0 f1
            clear hbb htx2 hown2 hck
            go_wp2_with fail
            with_reducible refine HBI.out.mono ?_
            rintro e wc ⟨r3, k3, htx3, hkk3, hbc, h3⟩
            obtain ⟨rr3, en3, bd3, er3, rfl⟩ : ∃ (rr : Bool) (en bd er : Int), e = .returned (.tuple #[.agg #[.bool rr, .int .i64 en, .int .i64 bd], .int .i64 er]) := ans_form8 h3
            have HBc := Lib.hid (HBb.out.trans (hbc.mono HBb.out.size))
            have HBE := Lib.hid (HBc.out.alloc HBc.out.size (.cells #[.bool rr3, .int .i64 en3, .int .i64 bd3] 40))
            clear hbc h3 htx3 hkk3
            go_wp2
            go_ret
            exact ⟨rfl, HBE.out⟩
          · have HBb := Lib.hid (HBq.out.trans (hbb.mono HBq.out.size))
            have HBb5 := Lib.hid (HBq5.out.trans (hbb.mono HBq5.out.size))
            have hck := HCK.out wb HBb5.out
            have HTX2 := Lib.hid htx2
            have HBI := Lib.hid (binary8_any F cs vs w3.heap.size w3.heap.size A4 c4 bs w.heap.size d D wb (by omega) (by have := HCN.out; omega) HFM.out.big hck.1 hck.2.1 (by rw [← HBN.out]; omega) (HTE.out wb HBb.out).1 (Cells.below HBY.out HBb.out) HBb.out.size (by rw [← HBN.out]; exact hbd))
            rw [← HBN.out, ← HCN.out] at HBI
            have hkb : (k2 == 0) = false := by simpa using hk2
            have f0 := hck.2.2.cell 0
            have f1 := hck.2.2.cell 1
            simp at f0 f1
            clear hbb htx2 hck hk2
            go_wp2_with fail
            with_reducible refine HBI.out.mono ?_
            rintro e wc ⟨r3, k3, htx3, hkk3, hbc, h3⟩
            obtain ⟨rfl, rfl⟩ := bin_same8 HTX2.out htx3
            have h3 : e = .returned (.tuple #[.agg #[.bool false, .int .i64 0, .int .i64 0], .int .i64 k3]) := h3
            subst h3
            have HBc := Lib.hid (HBb.out.trans (hbc.mono HBb.out.size))
            have hwc := Blk.new wc 40 #[.bool false, .int .i64 0, .int .i64 0]
            have HBE := Lib.hid (HBc.out.alloc HBc.out.size (.cells #[.bool false, .int .i64 0, .int .i64 0] 40))
            clear hbc htx3 hkk3 HTX2 hwc
            go_wp2
            go_ret
            exact ⟨by simp, HBE.out⟩
        · have HBp := Lib.hid (HB8.out.trans (hbp.mono HB8.out.size))
          have HBp5 := Lib.hid (HB58.out.trans (hbp.mono HB58.out.size))
          have hck := HCK.out wp HBp5.out
          have HTX1 := Lib.hid htx1
          have HTI := Lib.hid (text8_any F cs vs w3.heap.size w3.heap.size A4 c4 bs m wp (by omega) (by have := HCN.out; omega) HFM.out.big hck.1 hck.2.1 (by rw [← HBN.out]; omega) (HTE.out wp HBp.out).1 (HTE.out wp HBp.out).2)
          rw [← HCN.out] at HTI
          have f0 := hck.2.2.cell 0
          have f1 := hck.2.2.cell 1
          simp at f0 f1
          clear hbp htx1 hck
          go_wp2_with fail
          with_reducible refine HTI.out.mono ?_
          rintro e wq ⟨r2, k2', htx2, hbq, h2⟩
          obtain ⟨rfl, rfl⟩ := txt_same8 HTX1.out htx2
          have h2 : e = .returned (.tuple #[.agg #[.bool false, .int .i64 0, .int .i64 0], .int .i64 9]) := h2
          subst h2
          obtain ⟨wr2, hwr2⟩ : ∃ wr2, wr2 = wq.alloc (.cells #[.bool false, .int .i64 0, .int .i64 0] 40) := ⟨_, rfl⟩
          have hbr2 : Below wq.heap.size wq wr2 := by rw [hwr2]; exact (Below.refl _ _).alloc (Nat.le_refl _) _
          have HBq := Lib.hid ((HBp.out.trans (hbq.mono HBp.out.size)).trans (hbr2.mono ((HBp.out.trans (hbq.mono HBp.out.size)).size)))
          have HBq5 := Lib.hid ((HBp5.out.trans (hbq.mono HBp5.out.size)).trans (hbr2.mono ((HBp5.out.trans (hbq.mono HBp5.out.size)).size)))
          have HWR2 := Lib.hid hwr2
          clear hbq htx2 hbr2 hwr2 HTX1
          go_wp2_with fail
          rw [← HWR2.out]
          have HPB := Lib.hid (parseBinary_any bs w.heap.size d D wr2 (Cells.below HBY.out HBq.out) HBq.out.size (by rw [← HBN.out]; exact hbd) (by rw [← HBN.out]; omega))
          rw [← HBN.out] at HPB
          go_wp2_with fail
          with_reducible refine HPB.out.mono ?_
          rintro e wb ⟨hbb, (⟨ps2, D2, d2, rfl, htx2, hown2⟩ | ⟨k2, rfl, htx2, hk2⟩)⟩
          · have HBb := Lib.hid (HBq.out.trans (hbb.mono HBq.out.size))
            have HBb5 := Lib.hid (HBq5.out.trans (hbb.mono HBq5.out.size))
            have hck := HCK.out wb HBb5.out
            have HBI := Lib.hid (binary8_any F cs vs w3.heap.size w3.heap.size A4 c4 bs w.heap.size d D wb (by omega) (by have := HCN.out; omega) HFM.out.big hck.1 hck.2.1 (by rw [← HBN.out]; omega) (HTE.out wb HBb.out).1 (Cells.below HBY.out HBb.out) HBb.out.size (by rw [← HBN.out]; exact hbd))
            rw [← HBN.out, ← HCN.out] at HBI
            have f0 := hck.2.2.cell 0
            have f1 := hck.2.2.cell 1
            simp at f0 f1
            clear hbb htx2 hown2 hck
            go_wp2_with fail
            with_reducible refine HBI.out.mono ?_
            rintro e wc ⟨r3, k3, htx3, hkk3, hbc, h3⟩
            obtain ⟨rr3, en3, bd3, er3, rfl⟩ : ∃ (rr : Bool) (en bd er : Int), e = .returned (.tuple #[.agg #[.bool rr, .int .i64 en, .int .i64 bd], .int .i64 er]) := ans_form8 h3
            have HBc := Lib.hid (HBb.out.trans (hbc.mono HBb.out.size))
            have HBE := Lib.hid (HBc.out.alloc HBc.out.size (.cells #[.bool rr3, .int .i64 en3, .int .i64 bd3] 40))
            clear hbc h3 htx3 hkk3
            go_wp2
            go_ret
            exact ⟨rfl, HBE.out⟩
          · have HBb := Lib.hid (HBq.out.trans (hbb.mono HBq.out.size))
            have HBb5 := Lib.hid (HBq5.out.trans (hbb.mono HBq5.out.size))
            have hck := HCK.out wb HBb5.out
            have HTX2 := Lib.hid htx2
            have HBI := Lib.hid (binary8_any F cs vs w3.heap.size w3.heap.size A4 c4 bs w.heap.size d D wb (by omega) (by have := HCN.out; omega) HFM.out.big hck.1 hck.2.1 (by rw [← HBN.out]; omega) (HTE.out wb HBb.out).1 (Cells.below HBY.out HBb.out) HBb.out.size (by rw [← HBN.out]; exact hbd))
            rw [← HBN.out, ← HCN.out] at HBI
            have hkb : (k2 == 0) = false := by simpa using hk2
            have f0 := hck.2.2.cell 0
            have f1 := hck.2.2.cell 1
            simp at f0 f1
            clear hbb htx2 hck hk2
            go_wp2_with fail
            with_reducible refine HBI.out.mono ?_
            rintro e wc ⟨r3, k3, htx3, hkk3, hbc, h3⟩
            obtain ⟨rfl, rfl⟩ := bin_same8 HTX2.out htx3
            have h3 : e = .returned (.tuple #[.agg #[.bool false, .int .i64 0, .int .i64 0], .int .i64 k3]) := h3
            subst h3
            have HBc := Lib.hid (HBb.out.trans (hbc.mono HBb.out.size))
            have hwc := Blk.new wc 40 #[.bool false, .int .i64 0, .int .i64 0]
            have HBE := Lib.hid (HBc.out.alloc HBc.out.size (.cells #[.bool false, .int .i64 0, .int .i64 0] 40))
            clear hbc htx3 hkk3 HTX2 hwc
            go_wp2
            go_ret
            exact ⟨by simp, HBE.out⟩
end Go.Proofs.YtodaplgmpacliaaGreatDoor

namespace Go.Proofs.YtodaplgmpacliaaGreatDoor
open Go.RowKit
set_option linter.unusedVariables false

theorem refuses_raw (u : Int) (nss : List (List Int)) (A : Option Addr) (c : Nat) (L : List Int) (LA : Option Addr) (lc : Nat) (ns : List Int) (D : Option Addr) (d : Nat) (m : Int) (w : World) (hu : (Lit.int .u8 u).wf = true) (hx : nss.length ≤ 5864062014805) (hm : ∀ j, (nss.getD j []).length * 2 ≤ 140737488351232) (hn : ∀ j i, (Lit.int .i16 ((nss.getD j []).getD i 0)).wf = true) (h : KRows .i16 w w.heap.size A nss)
    (hL : KInts .i64 w w.heap.size LA L) (hLl : L.length ≤ 9223372036854775807) (hLw : ∀ k, (Lit.int .i64 (L.getD k 0)).wf = true) (hD : KInts .u8 w w.heap.size D ns) (hDb : ∀ k, (Lit.int .u8 (ns.getD k 0)).wf = true) (hDc : ns.length ≤ d) (hDl : ns.length ≤ 9223372036854775807) (hT : Tab7 w) (hE : EnvN m w) :
    Calls Tryz.prog 6 #[.agg #[.int .u8 u, .slice A nss.length c], .slice LA L.length lc, .slice D ns.length d] w fun e w' => e = .returned (.bool true) ∧ Below w.heap.size w w' := by
  obtain ⟨v, rfl, hv⟩ := raw_nat7 hu
  obtain ⟨bs, h1, h2⟩ := bytes_of_kints hD (fun k => bounds_u8 (hDb k))
  rw [← h1] at hDc hDl ⊢
  exact refuses_law v nss A c L LA lc bs D d m w hv (by omega) (raw_rows7 hm hn).1 (raw_rows7 hm hn).2 h hL hLl (fun k => bounds_i64 (hLw k)) h2 hDc hDl hT hE
end Go.Proofs.YtodaplgmpacliaaGreatDoor
