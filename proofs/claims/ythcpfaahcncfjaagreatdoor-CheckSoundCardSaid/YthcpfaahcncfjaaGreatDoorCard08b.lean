/- What refutes a formula: the walk. What refutes a formula tells the truth: no assignment satisfies it: of every input, under the row's own conditions, where the library's listed variables read as the program's text lays them. -/
import Derived.Test.YthcpfaahcncfjaaGreatDoorSteps8
import Derived.Test.YthcpfaahcncfjaaGreatDoorCheck08
import Derived.Deep.RegionHeld3
import Derived.Deep.CutBlock
import Derived.Test.YthcpfaahcncfjaaGreatDoorDoor8
import Derived.Test.YthcpfaahcncfjaaGreatDoorCards
import Derived.Test.YthcpfaahcncfjaaGreatDoorTie
import Derived.SevenTiedAt
import Derived.ChangeMaps5
namespace Go.Proofs.YthcpfaahcncfjaaGreatDoor
open Go.RowKit
set_option linter.unusedVariables false
set_option linter.unusedSimpArgs false

set_option maxRecDepth 100000 in
set_option maxHeartbeats 4000000 in
theorem sound_law (v : Nat) (nss : List (List Int)) (A : Option Addr) (c : Nat) (xs : List RStp) (xsA : Option Addr) (xsc : Nat) (bs : List UInt8) (D : Option Addr) (d : Nat) (m : Int) (w : World) (hv : v ≤ 255) (hx : nss.length ≤ 140737488355328) (hl : ∀ j, (nss.getD j []).length ≤ 140737488355328) (hn : ∀ j k, -32768 ≤ (nss.getD j []).getD k 0 ∧ (nss.getD j []).getD k 0 ≤ 32767) (h : KRows .i16 w w.heap.size A nss)
    (hxs : RSteps w w.heap.size xsA xs) (hxsl : xs.length ≤ 4000000000000) (hxsx : ∀ j, (xs.getD j rst0).2.1.length ≤ 70368744175616) (hxsw : ∀ j i, -32768 ≤ (xs.getD j rst0).2.1.getD i 0 ∧ (xs.getD j rst0).2.1.getD i 0 ≤ 32767) (hxsq : ∀ j, (xs.getD j rst0).2.2 ≤ 255)
    (hb : Bytes w w.heap.size D bs) (hbd : bs.length ≤ d) (hbl : bs.length ≤ 9223372036854775807) (hT : Tab7 w) (hE : EnvN m w) :
    Calls Tryz.prog 4 #[.agg #[.int .u8 v, .slice A nss.length c], .slice xsA xs.length xsc, .slice D bs.length d] w fun e w' => e = .returned (.bool true) ∧ Below w.heap.size w w' := by
  have H := Lib.hid h
  have HL := Lib.hid hl
  have HN := Lib.hid hn
  have HTE : Hid (∀ w', Below w.heap.size w w' → Tab7 w' ∧ EnvN m w') := Lib.hid fun w' hb => ⟨(hT.b.on hb).here, hE.same hb⟩
  have HRxs := Lib.hid hxs
  have HXxs := Lib.hid hxsx
  have HWxs := Lib.hid hxsw
  have HQxs := Lib.hid hxsq
  obtain ⟨nxs, hnxs⟩ : ∃ nxs, nxs = xs.length := ⟨_, rfl⟩
  have HNxs := Lib.hid hnxs
  rw [← hnxs] at hxsl ⊢
  have HBY := Lib.hid hb
  have HCV := Lib.hid (fun (w' : World) (hb' : Below w.heap.size w w') => run_bytes_string (hb.below hb') d)
  obtain ⟨bn, hbn⟩ : ∃ bn, bn = bs.length := ⟨_, rfl⟩
  have HBN := Lib.hid hbn
  rw [← hbn] at hbd hbl HCV ⊢
  clear hb hbn
  obtain ⟨w1, hw1⟩ : ∃ w1, w1 = w.alloc (.cells #[.int .u8 v, .slice A nss.length c] 24) := ⟨_, rfl⟩
  have hb1 : Below w.heap.size w w1 := by rw [hw1]; exact (Below.refl _ _).alloc (Nat.le_refl _) _
  have HB1 := Lib.hid hb1
  have HK1 := Lib.hid (show Blk w1 w.heap.size 24 #[.int .u8 v, .slice A nss.length c] by rw [hw1]; exact Blk.new w _ _)
  have HFIT := Lib.hid (fit8_any m w1 (HTE.out w1 hb1).1 (HTE.out w1 hb1).2)
  have HW1 := Lib.hid hw1
  clear h hl hn hT hE hb1 hw1 hxs hxsx hxsw hxsq hnxs
  go_enter Tryz.func4, Tryz.ntmps4
  go_wp2_with fail
  rw [← HW1.out]
  refine HFIT.out.mono ?_
  rintro e w2 ⟨rfl, hb2⟩
  have HB2 := Lib.hid (HB1.out.trans (hb2.mono HB1.out.size))
  have HK2 := Lib.hid (HK1.out.below hb2 HK1.out.lt)
  have k0 := HK2.out.cell 0
  have k1 := HK2.out.cell 1
  simp at k0 k1
  clear hb2
  go_wp2_with fail
  refine (light_any v nss _ A c 30 w2 (by omega) hx HL.out (H.out.below HB2.out) HB2.out.size).mono ?_
  rintro e w3 ⟨rfl, hb3⟩
  have HB3 := Lib.hid (HB2.out.trans (hb3.mono HB2.out.size))
  have HK3 := Lib.hid (HK2.out.below hb3 HK2.out.lt)
  have k0 := HK3.out.cell 0
  have k1 := HK3.out.cell 1
  simp at k0 k1
  clear hb3
  rcases hlt : light nss 30 with _ | _
  · go_wp2
    go_ret
    exact ⟨rfl, HB3.out⟩
  have HSMxs := Lib.hid (small8_any xs w.heap.size xsc xsA w3 (HRxs.out.below HB3.out) HB3.out.size (by rw [← HNxs.out]; exact hxsl) HXxs.out)
  rw [← HNxs.out] at HSMxs
  go_wp2_with fail
  with_reducible refine HSMxs.out.mono ?_
  rintro e w4 ⟨rfl, hb4⟩
  have HB4 := Lib.hid (HB3.out.trans (hb4.mono HB3.out.size))
  have HK4 := Lib.hid (HK3.out.below hb4 HK3.out.lt)
  have k0 := HK4.out.cell 0
  have k1 := HK4.out.cell 1
  simp at k0 k1
  clear hb4 HSMxs
  rcases hsmxs : smallR xs with _ | _
  · clear hlt
    go_wp2
    go_ret
    exact ⟨rfl, HB4.out⟩
  have HSxs := Lib.hid hsmxs
  have hlxs : nxs ≤ 30 := by rw [HNxs.out]; exact (smallR_iff.1 hsmxs).2
  clear hsmxs
  by_cases hn300 : 200 < bn
  · clear hlt
    go_wp2
    go_ret
    exact ⟨rfl, HB4.out⟩
  have hls := rows_light7 hlt (by omega)
  have hFM := form7_raw (F := v % (8 + 1)) (width := 5) hlt (by omega) (by omega)
  clear hlt
  go_wp2_with fail
  refine (formula_any v nss _ A c 8 5 w4 hv (by omega) (by omega) hls.1 hls.2 HN.out (H.out.below HB4.out) HB4.out.size).mono ?_
  have hF : v % (8 + 1) ≤ 8 := by omega
  obtain ⟨F, hFF⟩ : ∃ F, F = v % (8 + 1) := ⟨_, rfl⟩
  rw [← hFF] at hF hFM ⊢
  clear hFF
  have hwid : ∀ d, d ∈ rawForm F 5 nss → d.length ≤ 5 := fun d hd => by
    obtain ⟨c, _, rfl⟩ := List.mem_map.1 hd
    exact (rawClause_len F 5 c).2
  obtain ⟨cs, hcs⟩ : ∃ cs, cs = rawForm F 5 nss := ⟨_, rfl⟩
  rw [← hcs] at hFM hwid ⊢
  clear hcs
  have HFM := Lib.hid hFM
  have HCE : Hid (∀ d, d ∈ cs → d.length ≤ 10 ∧ ∀ x, x ∈ d → Lt7 F x) := Lib.hid fun d hd => ⟨by have := hwid d hd; omega, (hFM.each d hd).2⟩
  have hfew := hFM.few
  rintro e wf ⟨A4, c4, vs, rfl, hown4, hlist4, hbf⟩
  have HBf := Lib.hid (HB4.out.trans (hbf.mono HB4.out.size))
  have HO4 := Lib.hid hown4
  have HLI4 := Lib.hid hlist4
  clear hFM hwid hown4 hlist4 hbf k0 k1 hls
  obtain ⟨CN, hCN⟩ : ∃ CN, CN = cs.length := ⟨_, rfl⟩
  have HCN := Lib.hid hCN
  rw [← hCN] at hfew ⊢
  obtain ⟨wg, hwg⟩ : ∃ wg, wg = wf.alloc (.cells #[.int .i64 F, .slice A4 CN c4] 31) := ⟨_, rfl⟩
  have hbfg : Below wf.heap.size wf wg := by rw [hwg]; exact (Below.refl _ _).alloc (Nat.le_refl _) _
  have HBg := Lib.hid (HBf.out.trans (hbfg.mono HBf.out.size))
  have HFBg := Lib.hid (show Blk wg wf.heap.size 31 #[.int .i64 F, .slice A4 CN c4] by rw [hwg]; exact Blk.new wf _ _)
  have HCK : Hid (∀ w', Below wg.heap.size wg w' → w'.ownsRow w4.heap.size 55 1 (.slice A4 cs.length c4) cs.length vs ∧ ORows w' w'.heap.size w4.heap.size vs cs ∧ Blk w' wf.heap.size 31 #[.int .i64 F, .slice A4 CN c4]) := Lib.hid fun w' hb =>
    ⟨own_below HO4.out (hbfg.trans (hb.mono hbfg.size)) fun g hg => (HO4.out.lt g hg).2, HLI4.out.orows (hbfg.trans (hb.mono hbfg.size)), HFBg.out.below hb HFBg.out.lt⟩
  have HRW : Hid (∀ w', Below wg.heap.size wg w' → Rows w' wf.heap.size A4 cs) := Lib.hid fun w' hb => (HLI4.out.rows HO4.out).below (hbfg.trans (hb.mono hbfg.size))
  have HWG := Lib.hid hwg
  clear hbfg hwg hCN
  have f0 := HFBg.out.cell 0
  have f1 := HFBg.out.cell 1
  simp at f0 f1
  rw [HWG.out] at f0 f1
  obtain ⟨j0, hj, hy0, hy1, hy2⟩ := info_parts Tryz.infoByte
  obtain ⟨ps, hps⟩ : ∃ ps, ps = proofOf F cs xs := ⟨_, rfl⟩
  have hpl : ps.length = nxs := by rw [hps, proof_len, HNxs.out]
  have HPLN := Lib.hid hpl
  have HPE : Hid (∀ p, p ∈ ps → p.2.length ≤ 10 ∧ ∀ x, x ∈ p.2 → Lt7 F x) := Lib.hid (by rw [hps]; exact proof_each HCE.out HSxs.out)
  have hbx : (binOf ps).length ≤ 360 := by have := bin_short (F := F) (by omega) HPE.out; omega
  obtain ⟨bx, hbb⟩ : ∃ bx, bx = binOf ps := ⟨_, rfl⟩
  have HBB := Lib.hid hbb
  rw [← hbb] at hbx
  obtain ⟨bl, hbl2⟩ : ∃ bl, bl = bx.length := ⟨_, rfl⟩
  have HBL := Lib.hid hbl2
  rw [← hbl2] at hbx
  have HPS := Lib.hid hps
  clear hpl hps hbb hbl2
  have HPR : Hid (∀ W, Below wg.heap.size wg W → Calls Tryz.prog 13 #[.slice xsA nxs xsc, .agg #[.int .i64 F, .slice A4 CN c4]] W fun e w' => Below W.heap.size W w' ∧ ∃ Ap cp, e = .returned (.slice Ap nxs cp) ∧ OSteps w' w'.heap.size Ap ps) := Lib.hid fun W hb => by
    have hck := HCK.out W hb
    have h1 := proof8_any F cs vs _ _ A4 c4 xs w.heap.size xsc xsA W (by omega) (by rw [← HCN.out]; omega) hck.1 hck.2.1 (HRxs.out.below (HBg.out.trans (hb.mono HBg.out.size))) (by have := HBg.out.size; have := hb.size; omega) HSxs.out HWxs.out HQxs.out
    rw [← HNxs.out, ← HCN.out] at h1
    refine h1.mono ?_
    rintro e w' ⟨hb', A', c', us, rfl, ho, hst⟩
    refine ⟨hb', A', c', by rw [HNxs.out], ?_⟩
    rw [HPS.out]
    exact hst.osteps (by rw [proof_len]; exact ho)
  have HBIN : Hid (∀ W B Ap cp, OSteps W B Ap ps → B ≤ W.heap.size → wg.heap.size ≤ W.heap.size → Calls Tryz.prog 20 #[.slice Ap nxs cp] W fun e w' => Below W.heap.size W w' ∧ ∃ Ab cb, e = .returned (.slice Ab bl cb) ∧ w'.ownsRow wg.heap.size 5 1 (.slice Ab bl cb) bl (Lib.byteCells bx)) := Lib.hid fun W B Ap cp hos hB hW => by
    have h1 := binary_any ps B cp Ap W hos.steps hB (steps_right (F := F) (by omega) fun p hp => (HPE.out p hp).2) (by rw [HPLN.out]; omega) (by rw [← HBB.out, ← HBL.out]; omega)
    rw [HPLN.out] at h1
    refine h1.mono ?_
    rintro e w' ⟨A', c', rfl, ho, hb'⟩
    rw [← HBB.out, ← HBL.out] at ho ⊢
    exact ⟨hb', A', c', rfl, own_base ho hW⟩
  have HCB : Hid (∀ W D' d', Below wg.heap.size wg W → Bytes W W.heap.size D' (bx ++ bs) → bl + bn ≤ d' → Calls Tryz.prog 19 #[.agg #[.int .i64 F, .slice A4 CN c4], .slice D' (bl + bn) d'] W fun e w' => Below W.heap.size W w' ∧ Tells8 F cs e) := Lib.hid fun W D' d' hb hby hd => by
    have hck := HCK.out W hb
    have hln : (bx ++ bs).length = bl + bn := by rw [List.length_append, HBL.out, HBN.out]
    have h1 := binary8_any F cs vs _ _ A4 c4 (bx ++ bs) W.heap.size d' D' W (by omega) (by rw [← HCN.out]; omega) HFM.out.big hck.1 hck.2.1 (by rw [hln]; omega) (HTE.out W (HBg.out.trans (hb.mono HBg.out.size))).1 hby (Nat.le_refl _) (by rw [hln]; exact hd)
    rw [hln, ← HCN.out] at h1
    refine h1.mono ?_
    rintro e w' ⟨r, k, _, _, ha⟩
    exact tells_of (by omega) (fun d hd => (HCE.out d hd).2) ha
  have KE : Hid (∀ W, Below wg.heap.size wg W → W.cell? ⟨wf.heap.size, 0, none⟩ = some (.int .i64 F) ∧ W.cell? ⟨wf.heap.size, 1, none⟩ = some (.slice A4 CN c4)) := Lib.hid fun W hb => ⟨(HCK.out W hb).2.2.cell 0, (HCK.out W hb).2.2.cell 1⟩
  have HB0 : Hid (Below wg.heap.size wg wg) := Lib.hid (Below.refl _ _)
  have HDY : Hid (∀ W, Below wg.heap.size wg W → Cells W w.heap.size D bn (fun j => .int .u8 ((bs.getD j 0).toNat : Int))) := Lib.hid fun W hb => by
    have := Cells.below HBY.out (HBg.out.trans (hb.mono HBg.out.size))
    rw [HBN.out]; exact this
  rw [← HWG.out] at f0 f1
  clear f0 f1
  go_upto_region 6 with fail
  rw [← HWG.out]
  go_cut [8, 9] (fun p q wx => ∃ (g : Nat) (rr : Bool) (en bd er : Int), p = .pointer (some ⟨g, 0, none⟩) ∧ q = .int .i64 er ∧ Blk wx g 40 #[.bool rr, .int .i64 en, .int .i64 bd] ∧ Below wg.heap.size wg wx ∧ (er = 0 → rr = true → ¬ SatP F cs))
  case first =>
    go_region_held3 (fun w' => w'.cell? ⟨wf.heap.size, 0, none⟩ = some (.int .i64 F) ∧ w'.cell? ⟨wf.heap.size, 1, none⟩ = some (.slice A4 CN c4)) (first | exact KK.out | exact KE.out _ HB0.out | (refine KE.out _ ?_; repeat (first | with_reducible exact HB4.out | with_reducible exact HBA.out | with_reducible exact HBQ.out | with_reducible exact HBP.out | with_reducible exact HB0.out | with_reducible refine Below.drew ?_ | refine Below.alloc ?_ (by first | exact Nat.le_refl _ | omega | (simp <;> omega)) _ | refine Below.setCell ?_ (by first | exact Nat.le_refl _ | omega | (simp <;> omega)) _)) | (refine KE.out _ ?_; trace_state; fail))
      (first
        | (go_at_call 13; (with_reducible refine (HPR.out _ HB0.out.drew).mono ?_); rintro e1 wp ⟨hb1, Ap, cp, rfl, hos⟩; have HBP := Lib.hid (HB0.out.drew.trans (hb1.mono HB0.out.drew.size)); have HOS := Lib.hid hos; have szwp : wg.heap.size ≤ wp.heap.size := HBP.out.size; have KK := Lib.hid (KE.out wp HBP.out); clear hb1 hos)
        | (go_at_call 13; (with_reducible refine (HPR.out _ (HB0.out.later_a (.cells rep0 40))).mono ?_); rintro e1 wp ⟨hb1, Ap, cp, rfl, hos⟩; have HBP := Lib.hid ((HB0.out.later_a (.cells rep0 40)).trans (hb1.mono (HB0.out.later_a (.cells rep0 40)).size)); have HOS := Lib.hid hos; have szwp : wg.heap.size ≤ wp.heap.size := HBP.out.size; have KK := Lib.hid (KE.out wp HBP.out); have hbk := (Blk.new wg.drew 40 rep0).below hb1 (Blk.new wg.drew 40 rep0).lt; have HZ := Lib.hid hbk; clear hbk; clear hb1 hos)
        | (go_at_call 13; (with_reducible refine (HPR.out _ (HB0.out.alloc HB0.out.size (.cells rep0 40))).mono ?_); rintro e1 wp ⟨hb1, Ap, cp, rfl, hos⟩; have HBP := Lib.hid ((HB0.out.alloc HB0.out.size (.cells rep0 40)).trans (hb1.mono (HB0.out.alloc HB0.out.size (.cells rep0 40)).size)); have HOS := Lib.hid hos; have szwp : wg.heap.size ≤ wp.heap.size := HBP.out.size; have KK := Lib.hid (KE.out wp HBP.out); have hbk := (Blk.new wg 40 rep0).below hb1 (Blk.new wg 40 rep0).lt; have HZ := Lib.hid hbk; clear hbk; clear hb1 hos)
        | (go_at_call 13; (with_reducible refine (HPR.out _ (HB0.out.alloc HB0.out.size (.cells rep0 40)).drew).mono ?_); rintro e1 wp ⟨hb1, Ap, cp, rfl, hos⟩; have HBP := Lib.hid ((HB0.out.alloc HB0.out.size (.cells rep0 40)).drew.trans (hb1.mono (HB0.out.alloc HB0.out.size (.cells rep0 40)).drew.size)); have HOS := Lib.hid hos; have szwp : wg.heap.size ≤ wp.heap.size := HBP.out.size; have KK := Lib.hid (KE.out wp HBP.out); have hbk := (show Blk (wg.alloc (.cells rep0 40)).drew wg.heap.size 40 rep0 from Blk.new wg 40 rep0).below hb1 (show Blk (wg.alloc (.cells rep0 40)).drew wg.heap.size 40 rep0 from Blk.new wg 40 rep0).lt; have HZ := Lib.hid hbk; clear hbk; clear hb1 hos)
        | (go_at_call 13; (with_reducible refine (HPR.out _ HB0.out).mono ?_); rintro e1 wp ⟨hb1, Ap, cp, rfl, hos⟩; have HBP := Lib.hid (HB0.out.trans (hb1.mono HB0.out.size)); have HOS := Lib.hid hos; have szwp : wg.heap.size ≤ wp.heap.size := HBP.out.size; have KK := Lib.hid (KE.out wp HBP.out); clear hb1 hos)
        | (go_at_call 20; (with_reducible refine (HBIN.out _ _ _ _ (HOS.out.below (show Below wp.heap.size wp wp.drew from (Below.refl _ _).drew) (Nat.le_refl _)) (show Below wp.heap.size wp wp.drew from (Below.refl _ _).drew).size HBP.out.drew.size).mono ?_); rintro e2 wq ⟨hb2, Ab, cb, rfl, hob⟩; have HBQ := Lib.hid (HBP.out.drew.trans (hb2.mono HBP.out.drew.size)); have HOB := Lib.hid hob; have szwq : wg.heap.size ≤ wq.heap.size := HBQ.out.size; have KK := Lib.hid (KE.out wq HBQ.out); clear hb2 hob)
        | (go_at_call 20; (with_reducible refine (HBIN.out _ _ _ _ (HOS.out.below (show Below wp.heap.size wp (wp.drew.alloc (.cells rep0 40)) from (Below.refl _ _).later_a _) (Nat.le_refl _)) (show Below wp.heap.size wp (wp.drew.alloc (.cells rep0 40)) from (Below.refl _ _).later_a _).size (HBP.out.later_a (.cells rep0 40)).size).mono ?_); rintro e2 wq ⟨hb2, Ab, cb, rfl, hob⟩; have HBQ := Lib.hid ((HBP.out.later_a (.cells rep0 40)).trans (hb2.mono (HBP.out.later_a (.cells rep0 40)).size)); have HOB := Lib.hid hob; have szwq : wg.heap.size ≤ wq.heap.size := HBQ.out.size; have KK := Lib.hid (KE.out wq HBQ.out); have hbk := (Blk.new wp.drew 40 rep0).below hb2 (Blk.new wp.drew 40 rep0).lt; have HZ := Lib.hid hbk; clear hbk; clear hb2 hob)
        | (go_at_call 20; (with_reducible refine (HBIN.out _ _ _ _ (HOS.out.below (show Below wp.heap.size wp (wp.alloc (.cells rep0 40)) from (Below.refl _ _).alloc (Nat.le_refl _) _) (Nat.le_refl _)) (show Below wp.heap.size wp (wp.alloc (.cells rep0 40)) from (Below.refl _ _).alloc (Nat.le_refl _) _).size (HBP.out.alloc HBP.out.size (.cells rep0 40)).size).mono ?_); rintro e2 wq ⟨hb2, Ab, cb, rfl, hob⟩; have HBQ := Lib.hid ((HBP.out.alloc HBP.out.size (.cells rep0 40)).trans (hb2.mono (HBP.out.alloc HBP.out.size (.cells rep0 40)).size)); have HOB := Lib.hid hob; have szwq : wg.heap.size ≤ wq.heap.size := HBQ.out.size; have KK := Lib.hid (KE.out wq HBQ.out); have hbk := (Blk.new wp 40 rep0).below hb2 (Blk.new wp 40 rep0).lt; have HZ := Lib.hid hbk; clear hbk; clear hb2 hob)
        | (go_at_call 20; (with_reducible refine (HBIN.out _ _ _ _ (HOS.out.below (show Below wp.heap.size wp (wp.alloc (.cells rep0 40)).drew from ((Below.refl _ _).alloc (Nat.le_refl _) _).drew) (Nat.le_refl _)) (show Below wp.heap.size wp (wp.alloc (.cells rep0 40)).drew from ((Below.refl _ _).alloc (Nat.le_refl _) _).drew).size (HBP.out.alloc HBP.out.size (.cells rep0 40)).drew.size).mono ?_); rintro e2 wq ⟨hb2, Ab, cb, rfl, hob⟩; have HBQ := Lib.hid ((HBP.out.alloc HBP.out.size (.cells rep0 40)).drew.trans (hb2.mono (HBP.out.alloc HBP.out.size (.cells rep0 40)).drew.size)); have HOB := Lib.hid hob; have szwq : wg.heap.size ≤ wq.heap.size := HBQ.out.size; have KK := Lib.hid (KE.out wq HBQ.out); have hbk := (show Blk (wp.alloc (.cells rep0 40)).drew wp.heap.size 40 rep0 from Blk.new wp 40 rep0).below hb2 (show Blk (wp.alloc (.cells rep0 40)).drew wp.heap.size 40 rep0 from Blk.new wp 40 rep0).lt; have HZ := Lib.hid hbk; clear hbk; clear hb2 hob)
        | (go_at_call 20; (with_reducible refine (HBIN.out _ _ _ _ (HOS.out.below (show Below wp.heap.size wp wp from Below.refl _ _) (Nat.le_refl _)) (show Below wp.heap.size wp wp from Below.refl _ _).size HBP.out.size).mono ?_); rintro e2 wq ⟨hb2, Ab, cb, rfl, hob⟩; have HBQ := Lib.hid (HBP.out.trans (hb2.mono HBP.out.size)); have HOB := Lib.hid hob; have szwq : wg.heap.size ≤ wq.heap.size := HBQ.out.size; have KK := Lib.hid (KE.out wq HBQ.out); have hbk := HZ.out.below hb2 HZ.out.lt; have HZ := Lib.hid hbk; clear hbk; clear hb2 hob)
        | (go_at_call 20; (with_reducible refine (HBIN.out _ _ _ _ (HOS.out.below (show Below wp.heap.size wp wp from Below.refl _ _) (Nat.le_refl _)) (show Below wp.heap.size wp wp from Below.refl _ _).size HBP.out.size).mono ?_); rintro e2 wq ⟨hb2, Ab, cb, rfl, hob⟩; have HBQ := Lib.hid (HBP.out.trans (hb2.mono HBP.out.size)); have HOB := Lib.hid hob; have szwq : wg.heap.size ≤ wq.heap.size := HBQ.out.size; have KK := Lib.hid (KE.out wq HBQ.out); clear hb2 hob)
        | ((with_reducible refine step_append_cells rfl (.tmp 35) (.tmp 36) 47 rfl wg.heap.size 5 j0 (.int .u8 0) 1 Tryz.underlying47 hj hy0 hy1 hy2 rfl (.slice Ab bl cb) bl _ rfl (show wq.drew.ownsRow wg.heap.size 5 1 (.slice Ab bl cb) bl (Lib.byteCells bx) from HOB.out) w.heap.size D bn d _ rfl (HDY.out wq.drew HBQ.out.drew) (fun j _ => rfl) (by unfold maxLen; omega) (by omega) HBQ.out.drew.size ?_); intro v3 w3 hown3 hg3 _; obtain ⟨Aa, ca, hv3, hca, _⟩ := own_slice hown3; subst hv3; have HBA := Lib.hid (HBQ.out.drew.grown hg3 HBQ.out.drew.size (fun g hg => (HOB.out.lt g hg).1)); have HBY3 := Lib.hid (bytes_joined hown3 HBL.out HBN.out rfl); have HCA := Lib.hid hca; have szw3 : wg.heap.size ≤ w3.heap.size := HBA.out.size; have KK := Lib.hid (KE.out w3 HBA.out); clear hown3 hg3 hca)
        | ((with_reducible refine step_append_cells rfl (.tmp 35) (.tmp 36) 47 rfl wg.heap.size 5 j0 (.int .u8 0) 1 Tryz.underlying47 hj hy0 hy1 hy2 rfl (.slice Ab bl cb) bl _ rfl (show (wq.drew.alloc (.cells rep0 40)).ownsRow wg.heap.size 5 1 (.slice Ab bl cb) bl (Lib.byteCells bx) from (World.ownsRow.alloc HOB.out _)) w.heap.size D bn d _ rfl (HDY.out (wq.drew.alloc (.cells rep0 40)) (HBQ.out.later_a (.cells rep0 40))) (fun j _ => rfl) (by unfold maxLen; omega) (by omega) (HBQ.out.later_a (.cells rep0 40)).size ?_); intro v3 w3 hown3 hg3 _; obtain ⟨Aa, ca, hv3, hca, _⟩ := own_slice hown3; subst hv3; have HBA := Lib.hid ((HBQ.out.later_a (.cells rep0 40)).grown hg3 (HBQ.out.later_a (.cells rep0 40)).size (fun g hg => (HOB.out.lt g hg).1)); have HBY3 := Lib.hid (bytes_joined hown3 HBL.out HBN.out rfl); have HCA := Lib.hid hca; have szw3 : wg.heap.size ≤ w3.heap.size := HBA.out.size; have KK := Lib.hid (KE.out w3 HBA.out); have hbk := (Blk.new wq.drew 40 rep0).grown hg3 (own_blk_ne (show (wq.drew.alloc (.cells rep0 40)).ownsRow wg.heap.size 5 1 (.slice Ab bl cb) bl (Lib.byteCells bx) from (World.ownsRow.alloc HOB.out _)) (Blk.new wq.drew 40 rep0) (by decide)); have HZ := Lib.hid hbk; clear hbk; clear hown3 hg3 hca)
        | ((with_reducible refine step_append_cells rfl (.tmp 35) (.tmp 36) 47 rfl wg.heap.size 5 j0 (.int .u8 0) 1 Tryz.underlying47 hj hy0 hy1 hy2 rfl (.slice Ab bl cb) bl _ rfl (show (wq.alloc (.cells rep0 40)).ownsRow wg.heap.size 5 1 (.slice Ab bl cb) bl (Lib.byteCells bx) from (World.ownsRow.alloc HOB.out _)) w.heap.size D bn d _ rfl (HDY.out (wq.alloc (.cells rep0 40)) (HBQ.out.alloc HBQ.out.size (.cells rep0 40))) (fun j _ => rfl) (by unfold maxLen; omega) (by omega) (HBQ.out.alloc HBQ.out.size (.cells rep0 40)).size ?_); intro v3 w3 hown3 hg3 _; obtain ⟨Aa, ca, hv3, hca, _⟩ := own_slice hown3; subst hv3; have HBA := Lib.hid ((HBQ.out.alloc HBQ.out.size (.cells rep0 40)).grown hg3 (HBQ.out.alloc HBQ.out.size (.cells rep0 40)).size (fun g hg => (HOB.out.lt g hg).1)); have HBY3 := Lib.hid (bytes_joined hown3 HBL.out HBN.out rfl); have HCA := Lib.hid hca; have szw3 : wg.heap.size ≤ w3.heap.size := HBA.out.size; have KK := Lib.hid (KE.out w3 HBA.out); have hbk := (Blk.new wq 40 rep0).grown hg3 (own_blk_ne (show (wq.alloc (.cells rep0 40)).ownsRow wg.heap.size 5 1 (.slice Ab bl cb) bl (Lib.byteCells bx) from (World.ownsRow.alloc HOB.out _)) (Blk.new wq 40 rep0) (by decide)); have HZ := Lib.hid hbk; clear hbk; clear hown3 hg3 hca)
        | ((with_reducible refine step_append_cells rfl (.tmp 35) (.tmp 36) 47 rfl wg.heap.size 5 j0 (.int .u8 0) 1 Tryz.underlying47 hj hy0 hy1 hy2 rfl (.slice Ab bl cb) bl _ rfl (show (wq.alloc (.cells rep0 40)).drew.ownsRow wg.heap.size 5 1 (.slice Ab bl cb) bl (Lib.byteCells bx) from (World.ownsRow.alloc HOB.out _)) w.heap.size D bn d _ rfl (HDY.out (wq.alloc (.cells rep0 40)).drew (HBQ.out.alloc HBQ.out.size (.cells rep0 40)).drew) (fun j _ => rfl) (by unfold maxLen; omega) (by omega) (HBQ.out.alloc HBQ.out.size (.cells rep0 40)).drew.size ?_); intro v3 w3 hown3 hg3 _; obtain ⟨Aa, ca, hv3, hca, _⟩ := own_slice hown3; subst hv3; have HBA := Lib.hid ((HBQ.out.alloc HBQ.out.size (.cells rep0 40)).drew.grown hg3 (HBQ.out.alloc HBQ.out.size (.cells rep0 40)).drew.size (fun g hg => (HOB.out.lt g hg).1)); have HBY3 := Lib.hid (bytes_joined hown3 HBL.out HBN.out rfl); have HCA := Lib.hid hca; have szw3 : wg.heap.size ≤ w3.heap.size := HBA.out.size; have KK := Lib.hid (KE.out w3 HBA.out); have hbk := (show Blk (wq.alloc (.cells rep0 40)).drew wq.heap.size 40 rep0 from Blk.new wq 40 rep0).grown hg3 (own_blk_ne (show (wq.alloc (.cells rep0 40)).drew.ownsRow wg.heap.size 5 1 (.slice Ab bl cb) bl (Lib.byteCells bx) from (World.ownsRow.alloc HOB.out _)) (show Blk (wq.alloc (.cells rep0 40)).drew wq.heap.size 40 rep0 from Blk.new wq 40 rep0) (by decide)); have HZ := Lib.hid hbk; clear hbk; clear hown3 hg3 hca)
        | ((with_reducible refine step_append_cells rfl (.tmp 35) (.tmp 36) 47 rfl wg.heap.size 5 j0 (.int .u8 0) 1 Tryz.underlying47 hj hy0 hy1 hy2 rfl (.slice Ab bl cb) bl _ rfl (show wq.ownsRow wg.heap.size 5 1 (.slice Ab bl cb) bl (Lib.byteCells bx) from HOB.out) w.heap.size D bn d _ rfl (HDY.out wq HBQ.out) (fun j _ => rfl) (by unfold maxLen; omega) (by omega) HBQ.out.size ?_); intro v3 w3 hown3 hg3 _; obtain ⟨Aa, ca, hv3, hca, _⟩ := own_slice hown3; subst hv3; have HBA := Lib.hid (HBQ.out.grown hg3 HBQ.out.size (fun g hg => (HOB.out.lt g hg).1)); have HBY3 := Lib.hid (bytes_joined hown3 HBL.out HBN.out rfl); have HCA := Lib.hid hca; have szw3 : wg.heap.size ≤ w3.heap.size := HBA.out.size; have KK := Lib.hid (KE.out w3 HBA.out); have hbk := HZ.out.grown hg3 (own_blk_ne (show wq.ownsRow wg.heap.size 5 1 (.slice Ab bl cb) bl (Lib.byteCells bx) from HOB.out) HZ.out (by decide)); have HZ := Lib.hid hbk; clear hbk; clear hown3 hg3 hca)
        | ((with_reducible refine step_append_cells rfl (.tmp 35) (.tmp 36) 47 rfl wg.heap.size 5 j0 (.int .u8 0) 1 Tryz.underlying47 hj hy0 hy1 hy2 rfl (.slice Ab bl cb) bl _ rfl (show wq.ownsRow wg.heap.size 5 1 (.slice Ab bl cb) bl (Lib.byteCells bx) from HOB.out) w.heap.size D bn d _ rfl (HDY.out wq HBQ.out) (fun j _ => rfl) (by unfold maxLen; omega) (by omega) HBQ.out.size ?_); intro v3 w3 hown3 hg3 _; obtain ⟨Aa, ca, hv3, hca, _⟩ := own_slice hown3; subst hv3; have HBA := Lib.hid (HBQ.out.grown hg3 HBQ.out.size (fun g hg => (HOB.out.lt g hg).1)); have HBY3 := Lib.hid (bytes_joined hown3 HBL.out HBN.out rfl); have HCA := Lib.hid hca; have szw3 : wg.heap.size ≤ w3.heap.size := HBA.out.size; have KK := Lib.hid (KE.out w3 HBA.out); clear hown3 hg3 hca)
        | (go_at_call 19; have hby4 : Bytes w3.drew w3.drew.heap.size Aa (bx ++ bs) := (Cells.below HBY3.out (show Below w3.heap.size w3 w3.drew from (Below.refl _ _).drew)).more (show Below w3.heap.size w3 w3.drew from (Below.refl _ _).drew).size; (with_reducible refine (HCB.out _ Aa ca HBA.out.drew hby4 HCA.out).mono ?_); clear hby4; rintro e4 w4 ⟨hb4, hte4⟩; obtain ⟨rr, en, bd, er, he4, hte⟩ := hte4; subst he4; have HB4 := Lib.hid (HBA.out.drew.trans (hb4.mono HBA.out.drew.size)); have HTL := Lib.hid hte; have szw4 : wg.heap.size ≤ w4.heap.size := HB4.out.size; have KK := Lib.hid (KE.out w4 HB4.out); clear hb4 hte)
        | (go_at_call 19; have hby4 : Bytes (w3.drew.alloc (.cells rep0 40)) (w3.drew.alloc (.cells rep0 40)).heap.size Aa (bx ++ bs) := (Cells.below HBY3.out (show Below w3.heap.size w3 (w3.drew.alloc (.cells rep0 40)) from (Below.refl _ _).later_a _)).more (show Below w3.heap.size w3 (w3.drew.alloc (.cells rep0 40)) from (Below.refl _ _).later_a _).size; (with_reducible refine (HCB.out _ Aa ca (HBA.out.later_a (.cells rep0 40)) hby4 HCA.out).mono ?_); clear hby4; rintro e4 w4 ⟨hb4, hte4⟩; obtain ⟨rr, en, bd, er, he4, hte⟩ := hte4; subst he4; have HB4 := Lib.hid ((HBA.out.later_a (.cells rep0 40)).trans (hb4.mono (HBA.out.later_a (.cells rep0 40)).size)); have HTL := Lib.hid hte; have szw4 : wg.heap.size ≤ w4.heap.size := HB4.out.size; have KK := Lib.hid (KE.out w4 HB4.out); have hbk := (Blk.new w3.drew 40 rep0).below hb4 (Blk.new w3.drew 40 rep0).lt; have HZ := Lib.hid hbk; have z0 := hbk.cell 0; have z1 := hbk.cell 1; have z2 := hbk.cell 2; have y0 := hbk.frozen 0; have y1 := hbk.frozen 1; have y2 := hbk.frozen 2; simp at z0 z1 z2 y0 y1 y2; clear hbk; clear hb4 hte)
        | (go_at_call 19; have hby4 : Bytes (w3.alloc (.cells rep0 40)) (w3.alloc (.cells rep0 40)).heap.size Aa (bx ++ bs) := (Cells.below HBY3.out (show Below w3.heap.size w3 (w3.alloc (.cells rep0 40)) from (Below.refl _ _).alloc (Nat.le_refl _) _)).more (show Below w3.heap.size w3 (w3.alloc (.cells rep0 40)) from (Below.refl _ _).alloc (Nat.le_refl _) _).size; (with_reducible refine (HCB.out _ Aa ca (HBA.out.alloc HBA.out.size (.cells rep0 40)) hby4 HCA.out).mono ?_); clear hby4; rintro e4 w4 ⟨hb4, hte4⟩; obtain ⟨rr, en, bd, er, he4, hte⟩ := hte4; subst he4; have HB4 := Lib.hid ((HBA.out.alloc HBA.out.size (.cells rep0 40)).trans (hb4.mono (HBA.out.alloc HBA.out.size (.cells rep0 40)).size)); have HTL := Lib.hid hte; have szw4 : wg.heap.size ≤ w4.heap.size := HB4.out.size; have KK := Lib.hid (KE.out w4 HB4.out); have hbk := (Blk.new w3 40 rep0).below hb4 (Blk.new w3 40 rep0).lt; have HZ := Lib.hid hbk; have z0 := hbk.cell 0; have z1 := hbk.cell 1; have z2 := hbk.cell 2; have y0 := hbk.frozen 0; have y1 := hbk.frozen 1; have y2 := hbk.frozen 2; simp at z0 z1 z2 y0 y1 y2; clear hbk; clear hb4 hte)
        | (go_at_call 19; have hby4 : Bytes (w3.alloc (.cells rep0 40)).drew (w3.alloc (.cells rep0 40)).drew.heap.size Aa (bx ++ bs) := (Cells.below HBY3.out (show Below w3.heap.size w3 (w3.alloc (.cells rep0 40)).drew from ((Below.refl _ _).alloc (Nat.le_refl _) _).drew)).more (show Below w3.heap.size w3 (w3.alloc (.cells rep0 40)).drew from ((Below.refl _ _).alloc (Nat.le_refl _) _).drew).size; (with_reducible refine (HCB.out _ Aa ca (HBA.out.alloc HBA.out.size (.cells rep0 40)).drew hby4 HCA.out).mono ?_); clear hby4; rintro e4 w4 ⟨hb4, hte4⟩; obtain ⟨rr, en, bd, er, he4, hte⟩ := hte4; subst he4; have HB4 := Lib.hid ((HBA.out.alloc HBA.out.size (.cells rep0 40)).drew.trans (hb4.mono (HBA.out.alloc HBA.out.size (.cells rep0 40)).drew.size)); have HTL := Lib.hid hte; have szw4 : wg.heap.size ≤ w4.heap.size := HB4.out.size; have KK := Lib.hid (KE.out w4 HB4.out); have hbk := (show Blk (w3.alloc (.cells rep0 40)).drew w3.heap.size 40 rep0 from Blk.new w3 40 rep0).below hb4 (show Blk (w3.alloc (.cells rep0 40)).drew w3.heap.size 40 rep0 from Blk.new w3 40 rep0).lt; have HZ := Lib.hid hbk; have z0 := hbk.cell 0; have z1 := hbk.cell 1; have z2 := hbk.cell 2; have y0 := hbk.frozen 0; have y1 := hbk.frozen 1; have y2 := hbk.frozen 2; simp at z0 z1 z2 y0 y1 y2; clear hbk; clear hb4 hte)
        | (go_at_call 19; have hby4 : Bytes w3 w3.heap.size Aa (bx ++ bs) := (Cells.below HBY3.out (show Below w3.heap.size w3 w3 from Below.refl _ _)).more (show Below w3.heap.size w3 w3 from Below.refl _ _).size; (with_reducible refine (HCB.out _ Aa ca HBA.out hby4 HCA.out).mono ?_); clear hby4; rintro e4 w4 ⟨hb4, hte4⟩; obtain ⟨rr, en, bd, er, he4, hte⟩ := hte4; subst he4; have HB4 := Lib.hid (HBA.out.trans (hb4.mono HBA.out.size)); have HTL := Lib.hid hte; have szw4 : wg.heap.size ≤ w4.heap.size := HB4.out.size; have KK := Lib.hid (KE.out w4 HB4.out); have hbk := HZ.out.below hb4 HZ.out.lt; have HZ := Lib.hid hbk; have z0 := hbk.cell 0; have z1 := hbk.cell 1; have z2 := hbk.cell 2; have y0 := hbk.frozen 0; have y1 := hbk.frozen 1; have y2 := hbk.frozen 2; simp at z0 z1 z2 y0 y1 y2; clear hbk; clear hb4 hte)
        | (go_at_call 19; have hby4 : Bytes w3 w3.heap.size Aa (bx ++ bs) := (Cells.below HBY3.out (show Below w3.heap.size w3 w3 from Below.refl _ _)).more (show Below w3.heap.size w3 w3 from Below.refl _ _).size; (with_reducible refine (HCB.out _ Aa ca HBA.out hby4 HCA.out).mono ?_); clear hby4; rintro e4 w4 ⟨hb4, hte4⟩; obtain ⟨rr, en, bd, er, he4, hte⟩ := hte4; subst he4; have HB4 := Lib.hid (HBA.out.trans (hb4.mono HBA.out.size)); have HTL := Lib.hid hte; have szw4 : wg.heap.size ≤ w4.heap.size := HB4.out.size; have KK := Lib.hid (KE.out w4 HB4.out); clear hb4 hte))
    all_goals (go_wp2_with fail; go_meet)
    all_goals first
      | exact ⟨_, rr, en, bd, er, rfl, rfl, Blk.new w4 _ _, HB4.out.alloc HB4.out.size _, HTL.out⟩
      | exact ⟨_, rr, en, bd, er, rfl, rfl, by simpa using ((HZ.out.set_ 0 (.bool rr)).set_ 1 (.int .i64 en)).set_ 2 (.int .i64 bd), ((HB4.out.setCell (p := ⟨_, 0, none⟩) (by first | exact Nat.le_refl _ | (simp; omega)) _).setCell (p := ⟨_, 1, none⟩) (by first | exact Nat.le_refl _ | (simp; omega)) _).setCell (p := ⟨_, 2, none⟩) (by first | exact Nat.le_refl _ | (simp; omega)) _, HTL.out⟩
  case rest =>
    obtain ⟨g6, r6, en6, bd6, er6, rfl, rfl, hz6, hb6, ht6⟩ := hcut
    have HZ6 := Lib.hid hz6
    have HB6 := Lib.hid hb6
    have HT6 := Lib.hid ht6
    have f0 := (KE.out wc hb6).1
    have f1 := (KE.out wc hb6).2
    have hcv := HCV.out wc (HBg.out.trans (hb6.mono HBg.out.size))
    have HTX : Hid (Calls Tryz.prog 17 #[.agg #[.int .i64 F, .slice A4 CN c4], .string ⟨bs.toArray⟩] wc fun e w' => Below wc.heap.size wc w' ∧ Tells8 F cs e) := Lib.hid (by
      have hck := HCK.out wc hb6
      have hte := HTE.out wc (HBg.out.trans (hb6.mono HBg.out.size))
      have h1 := text8_any F cs vs _ _ A4 c4 bs m wc (by omega) (by rw [← HCN.out]; omega) HFM.out.big hck.1 hck.2.1 (by rw [← HBN.out]; omega) hte.1 hte.2
      rw [← HCN.out] at h1
      refine h1.mono ?_
      rintro e w' ⟨r, k, _, ha⟩
      exact tells_of (by omega) (fun d hd => (HCE.out d hd).2) ha)
    clear hz6 hb6 ht6 HPR HBIN HCB HDY
    go_wp2_with fail
    with_reducible refine HTX.out.mono ?_
    rintro e w7 ⟨hb7, hte7⟩
    obtain ⟨r7, en7, bd7, er7, rfl, ht7⟩ := hte7
    obtain ⟨w8, hw8⟩ : ∃ w8, w8 = w7.alloc (.cells #[.bool r7, .int .i64 en7, .int .i64 bd7] 40) := ⟨_, rfl⟩
    have hb78 : Below wg.heap.size wg w8 := by rw [hw8]; exact (HB6.out.trans (hb7.mono HB6.out.size)).alloc (HB6.out.trans (hb7.mono HB6.out.size)).size _
    have HZ7 := Lib.hid (show Blk w8 w7.heap.size 40 #[.bool r7, .int .i64 en7, .int .i64 bd7] by rw [hw8]; exact Blk.new w7 _ _)
    have HZ68 := Lib.hid (show Blk w8 g6 40 #[.bool r6, .int .i64 en6, .int .i64 bd6] by rw [hw8]; exact (HZ6.out.below hb7 HZ6.out.lt).alloc _)
    have HB8 := Lib.hid hb78
    have HT7 := Lib.hid ht7
    have HW8 := Lib.hid hw8
    have f0 := (KE.out w8 hb78).1
    have f1 := (KE.out w8 hb78).2
    have HTR : Hid (Calls Tryz.prog 21 #[.agg #[.int .i64 F, .slice A4 CN c4]] w8 fun e w' => ∃ b : Bool, e = .returned (.bool b) ∧ (b = true ↔ SatP F cs) ∧ Below w8.heap.size w8 w') := Lib.hid (by
      have h1 := truth_any F cs wf.heap.size c4 A4 w8 (by omega) (by rw [← HCN.out]; omega) (fun j => HFM.out.short8 j) (fun j k => HFM.out.bd8 j k) (HRW.out w8 hb78) (by have := hb78.size; have := HFBg.out.lt; omega)
      rw [← HCN.out] at h1
      exact h1)
    clear hw8 hb7 hb78 ht7 hcv
    rw [HW8.out] at f0 f1
    go_wp2_with fail
    rw [← HW8.out]
    with_reducible refine HTR.out.mono ?_
    rintro e w9 ⟨sb, rfl, hsb, hb9⟩
    have HB9 := Lib.hid (HBg.out.trans ((HB8.out.trans (hb9.mono HB8.out.size)).mono HBg.out.size))
    have HSB := Lib.hid hsb
    have z0 := (HZ68.out.below hb9 HZ68.out.lt).cell 0
    have y0 := (HZ7.out.below hb9 HZ7.out.lt).cell 0
    simp at z0 y0
    have HEND : Hid (¬ (er6 = 0 ∧ r6 = true ∧ sb = true) ∧ ¬ (er7 = 0 ∧ r7 = true ∧ sb = true)) := Lib.hid ⟨fun ⟨a, b, c⟩ => HT6.out a b (HSB.out.1 c), fun ⟨a, b, c⟩ => HT7.out a b (HSB.out.1 c)⟩
    clear hsb hb9 f0 f1
    go_wp2
    all_goals
      have hend := HEND.out
      first
        | (go_ret; exact ⟨rfl, HB9.out⟩)
        | (exfalso; refine hend.1 ⟨?_, ?_, ?_⟩ <;> first | rfl | assumption)
        | (exfalso; refine hend.2 ⟨?_, ?_, ?_⟩ <;> first | rfl | assumption)
        | (go_ret; refine ⟨?_, HB9.out⟩; cases sb <;> first | rfl | (exfalso; refine hend.2 ⟨?_, ?_, ?_⟩ <;> first | rfl | assumption))

theorem sound_raw (u : Int) (nss : List (List Int)) (A : Option Addr) (c : Nat) (xs : List RStp) (xsA : Option Addr) (xsc : Nat) (ns : List Int) (D : Option Addr) (d : Nat) (m : Int) (w : World) (hu : (Lit.int .u8 u).wf = true) (hx : nss.length ≤ 5864062014805) (hm : ∀ j, (nss.getD j []).length * 2 ≤ 140737488351232) (hn : ∀ j i, (Lit.int .i16 ((nss.getD j []).getD i 0)).wf = true) (h : KRows .i16 w w.heap.size A nss)
    (h1 : xs.length ≤ 4000000000000) (h2 : ∀ j, (xs.getD j rst0).2.1.length ≤ 70368744175616) (h3 : ∀ j i, (Lit.int .i16 ((xs.getD j rst0).2.1.getD i 0)).wf = true) (h4 : ∀ j, (xs.getD j rst0).2.2 ≤ 255) (h5 : RSteps w w.heap.size xsA xs)
    (hD : KInts .u8 w w.heap.size D ns) (hDb : ∀ k, (Lit.int .u8 (ns.getD k 0)).wf = true) (hDc : ns.length ≤ d) (hDl : ns.length ≤ 9223372036854775807) (hT : Tab7 w) (hE : EnvN m w) :
    Calls Tryz.prog 4 #[.agg #[.int .u8 u, .slice A nss.length c], .slice xsA xs.length xsc, .slice D ns.length d] w fun e w' => e = .returned (.bool true) ∧ Below w.heap.size w w' := by
  obtain ⟨v, rfl, hv⟩ := raw_nat7 hu
  obtain ⟨bs, e1, e2⟩ := bytes_of_kints hD (fun k => bounds_u8 (hDb k))
  rw [← e1] at hDc hDl ⊢
  exact sound_law v nss A c xs xsA xsc bs D d m w hv (by omega) (raw_rows7 hm hn).1 (raw_rows7 hm hn).2 h h5 h1 h2 (fun j i => bounds_i16 (h3 j i)) h4 e2 hDc hDl hT hE
end Go.Proofs.YthcpfaahcncfjaaGreatDoor

namespace Go.Proofs.YthcpfaahcncfjaaGreatDoor
open Go.ChangeShapes Go.WideShapes Go.ChangeAt Go.RowKit
open Go.Joins
set_option linter.unusedVariables false

noncomputable def checkSound_world (os : Os) : World := World.laidAll Tryz.prog os Rows.checkSoundRow.laid

set_option maxRecDepth 100000 in
theorem checkSound_row (os : Os) (started : os.Started) (H : Type) (enc : TypeId × Value → H) (F : Stop.Interp) :
    ReturnsInHanded {} Tryz.checked os 4 .any ((OpenSpec.ofChange Rows.checkSoundSpec).preRow enc Tryz.prog Tryz.f4 Rows.checkSoundRow.domain false Rows.checkSoundRow.laid) (((OpenSpec.ofChange Rows.checkSoundSpec).at F).post enc Tryz.prog Tryz.f4 false true false false) := by
  obtain ⟨x, hx⟩ := Option.isSome_iff_exists.1 (show (DataW.whole enc Tryz.prog ((checkSound_world os).forCall (fun _ _ => 0) ⟨#[], #[.agg #[.int .u8 0, .slice none 0 0], .slice none 0 0, .slice none 0 0], []⟩).memory Tryz.f4.params.toList Rows.checkSoundSpec.vars false #[.agg #[.int .u8 0, .slice none 0 0], .slice none 0 0, .slice none 0 0].toList 8).isSome = true by kernel_rfl)
  refine returnsInHanded_of_row (C := Tryz.checked) (s := OpenSpec.ofChange Rows.checkSoundSpec) own started (by kernel_rfl) Tryz.func4
    (witness_row_shaped (enc := enc) (C := Tryz.checked) false (checkSound_world os) #[.agg #[.int .u8 0, .slice none 0 0], .slice none 0 0, .slice none 0 0] (World.laidAll_os _ _ _) (World.shaped_of_ZipB (by kernel_rfl) (by kernel_rfl)) (by kernel_rfl)
      (OpenSpec.preRow_of_cond 8 hx rfl (fun k hk => by cases hk) (by kernel_rfl) (by rw [MakeChecks.laidMetH_plain _ _ _ (by kernel_rfl)]; exact laidMet_laidAll _ (by kernel_rfl) (by kernel_rfl)))) ?_
  intro W base args ds gs before hval0 hW _ _ hsz hL hSh _
  refine law_contract (s := Rows.checkSoundSpec) (fn := Tryz.f4) laidOut (by kernel_rfl) (by kernel_rfl) (Tryz.underlying4) rfl ?_ hW ?_
  · intro ds h
    match ds, h with
    | [_, _, _], _ => rfl
  · intro p hA
    rw [MakeChecks.laidMetH_plain _ _ _ (by kernel_rfl)] at hL
    have hP := hL
    have hT := Lib.laidMet.reads hP (n := "internal/strconv.uint64pow10") (d := Lib.tabData .u64 Lib.pow10Tab) (.tail _ (.tail _ (.head _)))
    obtain ⟨m, hE⟩ := env_of hSh hT
    have hX := numErrs_of (Lib.laidMet.reads hP (n := "strconv.ErrSyntax") (d := .iface "*errors.errorString" (.ptr (.agg [.lit (.string [105, 110, 118, 97, 108, 105, 100, 32, 115, 121, 110, 116, 97, 120])]))) (.tail _ (.tail _ (.tail _ (.tail _ (.head _)))))) (Lib.laidMet.reads hP (n := "strconv.ErrRange") (d := .iface "*errors.errorString" (.ptr (.agg [.lit (.string [118, 97, 108, 117, 101, 32, 111, 117, 116, 32, 111, 102, 32, 114, 97, 110, 103, 101])]))) (.tail _ (.tail _ (.tail _ (.head _)))))
    have hval : ∀ (j : Nat) t v, Tryz.f4.params[j]? = some t → args[j]? = some v → Value.okWide Tryz.prog W .any base t v := hval0
    rw [Tryz.params4] at hA hval
    obtain ⟨v0, vs0, d0, ds0, p0, q0, hargs, rfl, rfl, h0, r0⟩ := trodAll_cons hA
    obtain ⟨v1, vs1, d1, ds1, p1, q1, rfl, rfl, rfl, h1, r1⟩ := trodAll_cons r0
    obtain ⟨v2, vs2, d2, ds2, p2, q2, rfl, rfl, rfl, h2, r2⟩ := trodAll_cons r1
    obtain ⟨rfl, rfl, rfl⟩ := trodAll_nil r2
    obtain rfl : args = #[v0, v1, v2] := by cases args; simp_all
    have hs0 : Sz Tryz.prog 24 d0 := sz_arg hsz (j := 0) rfl rfl
    obtain ⟨x0, y0, zx0, zy0, n0, rfl, rfl, _, hx0, hy0⟩ := open_agg2 Tryz.underlying24 (by kernel_rfl) (by kernel_rfl) (hval 0 _ v0 rfl rfl) h0
    obtain ⟨u0, e0, _, wu0⟩ := DataW.trod_int Tryz.underlying5 hx0
    simp at e0
    subst e0
    obtain ⟨A0, c0, nss0, rfl, l0, m0, wn0, w0⟩ := krows_of Tryz.underlying22 Tryz.underlying52 Tryz.underlying70 (by kernel_rfl) (by kernel_rfl) (by kernel_rfl) (by kernel_rfl) hy0 (sz_agg2 hs0 Tryz.underlying24).2
    obtain ⟨A1, c1, xs1, rfl, ls1, lx1, wx1, qx1, rx1⟩ := rsteps_of Tryz.underlying25 Tryz.underlying69 (by kernel_rfl) (by kernel_rfl) (by kernel_rfl) (by kernel_rfl) (by kernel_rfl) (by kernel_rfl) (by kernel_rfl) Tryz.underlying4 Tryz.underlying52 Tryz.underlying70 Tryz.underlying5 (by kernel_rfl) (by kernel_rfl) (by kernel_rfl) (hval 1 _ v1 rfl rfl) h1 (sz_arg hsz (j := 1) rfl rfl)
    obtain ⟨A2, c2, gs2, rfl, lc2, l2, wn2, w2⟩ := kints_cap Tryz.underlying47 Tryz.underlying5 (by kernel_rfl) (hval 2 _ v2 rfl rfl) h2
    exact sound_raw u0 nss0 A0 c0 xs1 A1 c1 gs2 A2 c2 m W wu0 l0 m0 wn0 w0 ls1 lx1 wx1 qx1 rx1 w2 wn2 lc2 l2 (tab7_of hT) ⟨hE, hX⟩

theorem checkSound_said : Rows.CheckSoundSaid :=
  OpenClaim.holds_of_cond 4 Tryz.f4 rfl rfl rfl rfl rfl rfl rfl ⟨rfl, rfl, rfl, rfl, rfl⟩ rfl rfl rfl rfl rfl (by kernel_rfl) Tryz.func4 (by kernel_rfl)
    (of_decide_eq_true (by kernel_rfl)) (by unfold Func.isWrapper; first | (rw [if_pos (by decide +kernel)]; kernel_rfl) | (rw [if_neg (by decide +kernel)]; exact ⟨rfl, rfl⟩))
    (fun os started H enc _ F => by rw [OpenClaim.pre_eq_preRow]; exact checkSound_row os started H enc F)

theorem checkSound_plain_at (f : FuncId) (fn : Func) (hf : Tryz.pinned.checked.prog.funcNamed "bradawl/bradawllaw08.CheckSound" = some f) (hfn : Tryz.pinned.checked.prog.funcs[f]? = some fn) :
    true = Tryz.pinned.checked.prog.looks [] ∧ ∀ (j : Nat) t, fn.params[j]? = some t → Tryz.pinned.checked.prog.wantsStandIn t = false := by
  obtain rfl : f = 4 := Option.some.inj ((show Tryz.prog.funcNamed "bradawl/bradawllaw08.CheckSound" = some 4 by kernel_rfl).symm.trans hf) |>.symm
  obtain rfl : fn = Tryz.f4 := (Option.some.inj (Tryz.func4.symm.trans hfn)).symm
  refine ⟨by kernel_rfl, fun j t ht => ?_⟩
  rw [Tryz.params4] at ht
  have hm : t ∈ [24, 25, 47] := by simpa using Array.mem_of_getElem? ht
  have hall : ([24, 25, 47].all fun u => !Tryz.prog.wantsStandIn u) = true := by kernel_rfl
  exact (show Tryz.prog.wantsStandIn t = false by simpa using List.all_eq_true.1 hall t hm)

theorem checkSound_card : Rows.CheckSoundCardSaid :=
  Claim7.holds_tied_plain_at .later [] _ _ _ _ checkSound_said (fun _ h => by cases h) (by kernel_rfl) (fun _ h => by cases h) checkSound_row_tie rfl ⟨rfl, rfl⟩ (by kernel_rfl) rfl checkSound_plain_at (by kernel_rfl)
end Go.Proofs.YthcpfaahcncfjaaGreatDoor
