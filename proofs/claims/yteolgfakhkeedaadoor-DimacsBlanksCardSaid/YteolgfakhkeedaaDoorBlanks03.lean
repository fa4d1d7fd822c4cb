/- Blanks, tabs, lines without words, remarks, and where lines are broken, play no part. -/
import Derived.Test.YteolgfakhkeedaaDoorGap03
namespace Go.Proofs.YteolgfakhkeedaaDoor
open Go.RowKit
set_option linter.unusedSimpArgs false
set_option linter.unusedVariables false
set_option linter.unnecessarySimpa false

set_option maxRecDepth 100000 in
set_option maxHeartbeats 4000000 in
theorem blanks03_any (v : Nat) (nss : List (List Int)) (A : Option Addr) (c : Nat) (gs : List Int) (Ag : Option Addr) (cg : Nat) (m : Int) (w : World) (hv : v ≤ 255) (hgl : gs.length ≤ 9223372036854775807) (hgb : ∀ j, 0 ≤ gs.getD j 0 ∧ gs.getD j 0 ≤ 255) (hgs : KInts .u8 w w.heap.size Ag gs) (hx : nss.length ≤ 140737488355328)
    (hl : ∀ j, (nss.getD j []).length ≤ 140737488355328) (hn : ∀ j k, -32768 ≤ (nss.getD j []).getD k 0 ∧ (nss.getD j []).getD k 0 ≤ 32767) (h : KRows .i16 w w.heap.size A nss) (hE : Env m w) :
    Calls Tryd.prog 4 #[.agg #[.int .u8 v, .slice A nss.length c], .slice Ag gs.length cg] w fun e w' => e = .returned (.bool true) ∧ Below w.heap.size w w' := by
  have H := Lib.hid h
  have HE := Lib.hid hE
  have HL := Lib.hid hl
  have HN := Lib.hid hn
  have HGB := Lib.hid hgb
  have HGS := Lib.hid hgs
  clear h hE hl hn hgb hgs
  go_enter Tryd.func4, Tryd.ntmps4
  obtain ⟨w1, hw1⟩ : ∃ w1, w1 = (w.alloc (.cells #[.int .u8 v, .slice A nss.length c] 24)).alloc (.cells #[.slice Ag gs.length cg] 38) := ⟨_, rfl⟩
  have hb01 : Below w.heap.size w w1 := by rw [hw1]; exact ((Below.refl _ _).alloc (Nat.le_refl _) _).alloc (by simp) _
  have hbox1 : Blk w1 w.heap.size 24 #[.int .u8 v, .slice A nss.length c] := by rw [hw1]; exact (Blk.new w _ _).alloc _
  have hsa : (w.alloc (.cells #[.int .u8 v, .slice A nss.length c] 24)).heap.size = w.heap.size + 1 := by simp
  have hgap1 : Blk w1 (w.heap.size + 1) 38 #[.slice Ag gs.length cg] := by rw [hw1, ← hsa]; exact Blk.new (w.alloc (.cells #[.int .u8 v, .slice A nss.length c] 24)) _ _
  clear hsa
  have F1 := Lib.hid (fit03_any m w1 (HE.out.same hb01))
  have HW1 := Lib.hid hw1
  rw [hw1] at F1
  clear hw1
  go_wp2_with (go_at_call 6; refine F1.out.mono ?_)
  rw [← HW1.out]
  rintro e w2 ⟨rfl, hb2⟩
  have hbox := hbox1.below hb2 hbox1.lt
  have hgap := hgap1.below hb2 hgap1.lt
  have hB2 := hb01.trans (hb2.mono hb01.size)
  have h2 : KRows .i16 w2 w.heap.size A nss := H.out.below hB2
  have b0 := hbox.cell 0
  have b1 := hbox.cell 1
  have g0 := hgap.cell 0
  simp at b0 b1 g0
  have HBOX := Lib.hid hbox
  have HGAP := Lib.hid hgap
  have HB2 := Lib.hid hB2
  have H2 := Lib.hid h2
  have hz2 := hB2.size
  clear hbox hgap hbox1 hgap1 hb01 hB2 h2 hb2 F1
  have L1 := Lib.hid (light_any v nss w.heap.size A c 40 w2 (by omega) (by omega) (fun j => by have := HL.out j; omega) H2.out hz2)
  rcases hli : light nss 40 with _ | _
  · rw [hli] at L1
    clear hli
    go_wp2_with (go_at_call 7; refine L1.out.mono ?_)
    rintro e w3 ⟨rfl, hb3⟩
    have HB3 := Lib.hid (HB2.out.trans (hb3.mono hz2))
    clear hb3 L1
    go_wp2
    go_ret
    exact ⟨rfl, HB3.out⟩
  · rw [hli] at L1
    have HLI := Lib.hid hli
    clear hli
    go_wp2_with (go_at_call 7; refine L1.out.mono ?_)
    rintro e w3 ⟨rfl, hb3⟩
    have hbox3 := HBOX.out.below hb3 (by have := HBOX.out.lt; omega)
    have hgap3 := HGAP.out.below hb3 (by have := HGAP.out.lt; omega)
    clear b0 b1 g0
    have b0 := hbox3.cell 0
    have b1 := hbox3.cell 1
    have g0 := hgap3.cell 0
    simp at b0 b1 g0
    have hz3 : w.heap.size ≤ w3.heap.size := Nat.le_trans hz2 hb3.size
    have HB3 := Lib.hid (HB2.out.trans (hb3.mono hz2))
    have HGAP3 := Lib.hid hgap3
    have HZG3 := Lib.hid hgap3.lt
    by_cases hl100 : 100 < gs.length
    · clear hbox3 hgap3 hb3 L1
      go_wp2
      go_ret
      exact ⟨rfl, HB3.out⟩
    · have FO := Lib.hid (formula_any v nss w.heap.size A c 50 9 w3 hv (by omega) (by omega) (by have := (light_iff.1 HLI.out).2; omega) (fun j => by have := light_rows HLI.out j; omega) HN.out (H2.out.below (hb3.mono hz2)) hz3)
      clear hbox3 hgap3 hb3 L1
      have hF : v % (50 + 1) ≤ 50 := by omega
      have hok := rawOk (F := v % (50 + 1)) (width := 9) (nss := nss) (k := 40) (by omega) HLI.out
      generalize v % (50 + 1) = F at FO hF hok
      generalize rawForm F 9 nss = cls at FO hok
      have HOK := Lib.hid hok
      have hfew := hok.few
      clear hok
      go_wp2_with (go_at_call 8; refine FO.out.mono ?_)
      rintro e w4 ⟨A4, c4, vs, rfl, ho4, hl4, hb4⟩
      have HR4 := Lib.hid (hl4.rows ho4)
      have HB4 := Lib.hid (HB3.out.trans (hb4.mono hz3))
      have HGAP4 := Lib.hid (HGAP3.out.below hb4 HGAP3.out.lt)
      have hz34 := hb4.size
      clear ho4 hl4 hb4 FO b0 b1 g0
      obtain ⟨w5, hw5⟩ : ∃ w5, w5 = w4.alloc (.cells #[.int .i64 F, .slice A4 cls.length c4] 29) := ⟨_, rfl⟩
      have hb45 : Below w4.heap.size w4 w5 := by rw [hw5]; exact (Below.refl _ _).alloc (Nat.le_refl _) _
      have hr5 := HR4.out.below hb45
      have hE5 := HE.out.same (HB4.out.trans (hb45.mono HB4.out.size))
      have hbf : Blk w5 w4.heap.size 29 #[.int .i64 F, .slice A4 cls.length c4] := by rw [hw5]; exact Blk.new w4 _ _
      have HB5 := Lib.hid (HB4.out.trans (hb45.mono HB4.out.size))
      have HBF := Lib.hid hbf
      have HE5 := Lib.hid hE5
      have HR5 := Lib.hid hr5
      have HLT5 := Lib.hid hbf.lt
      have HGAP5 := Lib.hid (HGAP4.out.below hb45 HGAP4.out.lt)
      have HZG := Lib.hid (show w.heap.size + 1 < w4.heap.size from by have := HZG3.out; omega)
      have hsz5 : w5.heap.size = w4.heap.size + 1 := by rw [hw5]; simp
      have HSZ5 := Lib.hid hsz5
      clear hb45 hr5 hE5 hbf hsz5
      go_wp2_with fail
      rw [← hw5]
      clear hw5
      have KE := Lib.hid (show ∀ w2, Below w5.heap.size w5 w2 → w2.cell? ⟨w4.heap.size, 0, none⟩ = some (.int .i64 F) ∧ w2.cell? ⟨w4.heap.size, 1, none⟩ = some (.slice A4 cls.length c4) from
        fun w2 hb2 => ⟨(HBF.out.below hb2 HLT5.out).cell 0, (HBF.out.below hb2 HLT5.out).cell 1⟩)
      have TE := Lib.hid (show ∀ w2, Below w5.heap.size w5 w2 → Tab w2 from fun w2 hb2 => (HE5.out.same hb2).tab)
      have hv21 := Lib.itoa_length_le F (by omega) (by omega)
      have hc21 := Lib.itoa_length_le cls.length (by omega) (by omega)
      have hht : blankHead F cls.length = [99, 32, 102, 105, 114, 115, 116, 10, 10, 32, 32, 112, 32, 99, 110, 102, 32] ++ Lib.itoa F ++ [9] ++ Lib.itoa cls.length ++ [32, 10] := rfl
      have IV := fun w' hT => itoa_any F w' (by omega) (by omega) hT
      have IC := fun w' hT => itoa_any cls.length w' (by omega) (by omega) hT
      generalize Lib.itoa F = iv at hht hv21 IV
      generalize Lib.itoa cls.length = ic at hht hc21 IC
      obtain ⟨t1, ht1⟩ : ∃ t, t = [99, 32, 102, 105, 114, 115, 116, 10, 10, 32, 32, 112, 32, 99, 110, 102, 32] ++ iv := ⟨_, rfl⟩
      rw [← ht1] at hht
      obtain ⟨t2, ht2⟩ : ∃ t, t = t1 ++ [9] := ⟨_, rfl⟩
      rw [← ht2] at hht
      obtain ⟨t3, ht3⟩ : ∃ t, t = t2 ++ ic := ⟨_, rfl⟩
      rw [← ht3] at hht
      obtain ⟨t4, ht4⟩ : ∃ t, t = t3 ++ [32, 10] := ⟨_, rfl⟩
      rw [← ht4] at hht
      have l1 : t1.length = iv.length + 17 := by rw [ht1, List.length_append]; show 17 + _ = _; omega
      have l2 : t2.length = t1.length + 1 := by rw [ht2]; simp
      have l3 : t3.length = t2.length + ic.length := by rw [ht3]; simp
      have l4 : t4.length = t3.length + 2 := by rw [ht4]; simp
      have q1 := str_add (P := Tryd.prog) [99, 32, 102, 105, 114, 115, 116, 10, 10, 32, 32, 112, 32, 99, 110, 102, 32] iv t1 ht1 (by decide) (by omega)
      have q2 := str_add (P := Tryd.prog) t1 [9] t2 ht2 (by omega) (by decide)
      have q3 := str_add (P := Tryd.prog) t2 ic t3 ht3 (by omega) (by omega)
      have q4 := str_add (P := Tryd.prog) t3 [32, 10] t4 ht4 (by omega) (by decide)
      have HHT := Lib.hid hht
      have HHL := Lib.hid (show (blankHead F cls.length).length ≤ 100 from by rw [hht]; omega)
      have HIV := Lib.hid IV
      have HIC := Lib.hid IC
      clear ht1 ht2 ht3 ht4 l1 l2 l3 l4 hht IV IC hv21 hc21
      obtain ⟨hc0, hc1⟩ := KE.out w5 (Below.refl _ _)
      go_cut [6] (fun s3 w' => s3 = .string ⟨(blankHead F cls.length).toArray⟩ ∧ Below w5.heap.size w5 w')
      case first =>
        go_region_held3 (fun w' => w'.cell? ⟨w4.heap.size, 0, none⟩ = some (.int .i64 F) ∧ w'.cell? ⟨w4.heap.size, 1, none⟩ = some (.slice A4 cls.length c4))
          (first | exact KK3.out | exact KK2.out | exact ⟨hc0, hc1⟩ | go_keep)
          (first
            | (go_at_call 13; refine (HIV.out w5.drew (TE.out w5.drew (Below.refl _ _).drew)).mono ?_; rintro e w2 ⟨rfl, hb2'⟩; have HB2 := Lib.hid (below_undrew hb2'); have KK2 := Lib.hid (KE.out w2 HB2.out); clear hb2')
            | (go_at_call 13; refine (HIC.out w2 (TE.out w2 HB2.out)).mono ?_; rintro e w3 ⟨rfl, hb3'⟩; have HB3 := Lib.hid (HB2.out.trans (hb3'.mono HB2.out.size)); have KK3 := Lib.hid (KE.out w3 HB3.out); clear hb3'))
        go_wp2_with fail
        go_meet
        exact ⟨by rw [HHT.out], HB3.out⟩
      case rest =>
        obtain ⟨hs3, hbb⟩ := hcut
        subst hs3
        obtain ⟨w7, hw7⟩ : ∃ w7, w7 = wc.alloc (.cells #[.int .i64 0] 3) := ⟨_, rfl⟩
        have hb57 : Below w5.heap.size w5 w7 := by rw [hw7]; exact hbb.alloc hbb.size _
        have hbk : Blk w7 wc.heap.size 3 #[.int .i64 ((0 : Nat) : Int)] := by rw [hw7]; exact Blk.new wc _ _
        have HZ7 := Lib.hid (show w7.heap.size = wc.heap.size + 1 from by rw [hw7]; simp)
        obtain ⟨k0, k1⟩ := KE.out w7 hb57
        have hzc := hbb.size
        have hgap7 := (HGAP5.out.below hb57 HGAP5.out.lt)
        have hr7 := HR5.out.below (hb57.mono (Nat.le_of_lt HLT5.out))
        have hgs7 : KInts .u8 w7 w.heap.size Ag gs := HGS.out.below ((HB5.out.trans (hb57.mono HB5.out.size)))
        have hlt5 := HLT5.out
        have hzg := HZG.out
        have GA := Lib.hid (fun (cnt : Nat) (w' : World) (hk' : Blk w' wc.heap.size 3 #[.int .i64 cnt]) (hb' : Below wc.heap.size w7 w') (hc : cnt ≤ 1000000) =>
          gap_any wc.heap.size (w.heap.size + 1) w.heap.size gs Ag cg cnt w' hk' (hgap7.below hb' (by omega)) (by omega) (hgs7.below (hb'.mono (by omega))) (by omega) HGB.out hc (by omega))
        have TE7 := Lib.hid (show ∀ w2, Below wc.heap.size w7 w2 → Tab w2 from fun w2 hb2 => (HE5.out.same (hb57.trans (hb2.mono (by omega)))).tab)
        have HB7 := Lib.hid hb57
        have HBK := Lib.hid hbk
        have HR7 := Lib.hid hr7
        have HLC := Lib.hid hzc
        rw [hw7] at k0 k1
        have HW7 := Lib.hid hw7
        clear hbb q1 q2 q3 q4 hc0 hc1 HHT HIV HIC hb57 hbk hzc hgap7 hr7 hgs7 hlt5 hzg hw7
        go_wp2
        rw [← HW7.out]
        clear k0 k1
        go_loopg [6, 42] (cls.length + 1) (fun gk s i wr => ∃ k : Nat, k ≤ cls.length ∧ gk = cls.length - k + 1 ∧ i = .int .i64 k ∧ s = .string ⟨(blankHead F cls.length ++ blankClauses (gapNo gs) 0 (cls.take k)).toArray⟩ ∧ Blk wr wc.heap.size 3 #[.int .i64 ((litCount (cls.take k) + k : Nat) : Int)] ∧ Below wc.heap.size w7 wr)
        case atStart => exact ⟨0, by omega, by omega, rfl, by simp [blankClauses], by simpa [litCount] using HBK.out, Below.refl _ _⟩
        case round =>
          obtain ⟨k, hk, rfl, rfl, rfl, hkk, hbb⟩ := hrel
          obtain ⟨wo, rfl⟩ : ∃ wo : World, wo = wr := ⟨_, rfl⟩
          have HKK := Lib.hid hkk
          have HBBk := Lib.hid hbb
          have hso := hbb.size
          have hltk := hkk.lt
          have hlits := HOK.out.lits
          have htk1 := litCount_take_le cls k
          have hbcl := blankClauses_len (gapNo gs) (cls.take k) 0 (fun c hc l hl => HOK.out.bd c (List.mem_of_mem_take hc) l hl)
          have hhl := HHL.out
          have HTL := Lib.hid (show (blankHead F cls.length ++ blankClauses (gapNo gs) 0 (cls.take k)).length ≤ 20000 from by rw [List.length_append]; simp only [List.length_take] at hbcl; omega)
          clear hbb hkk hbcl hhl
          by_cases hlt : k < cls.length
          · obtain ⟨b, off, Ak, ck, rfl, hbB, hck1, hik⟩ := HR7.out.at_ hlt
            have hck := (HBBk.out.cell (p := ⟨b, off + k, none⟩) (by have h1 := HLC.out; have h2 := HLT5.out; simp; omega)).trans hck1
            clear hck1
            have hxk := HOK.out.len k
            have hbk := HOK.out.at_ k
            have hct := blankClauses_take (gapNo gs) cls 0 k hlt
            have hmem : cls.getD k [] ∈ cls := by rw [List.getD, List.getElem?_eq_getElem hlt]; exact List.getElem_mem hlt
            have hbd := HOK.out.bd _ hmem
            have hlct := litCount_take hlt
            rw [Nat.zero_add] at hct
            obtain ⟨cs, hcs⟩ : ∃ cs, cs = cls.getD k [] := ⟨_, rfl⟩
            rw [← hcs] at hck hik hxk hbk hct hbd hlct
            clear hcs hmem
            have HCT := Lib.hid hct
            have HLCT := Lib.hid hlct
            have HIK := Lib.hid hik
            have HBD := Lib.hid hbd
            have HATK := Lib.hid hbk
            obtain ⟨cnt, hcnt⟩ : ∃ cnt, cnt = litCount (cls.take k) + k := ⟨_, rfl⟩
            rw [← hcnt] at HKK hct
            have hcb : cnt ≤ 400 := by omega
            have HCNT := Lib.hid hcnt
            clear hct hik hbd hbk hlct hcnt
            generalize hta : blankHead F cls.length ++ blankClauses (gapNo gs) 0 (cls.take k) = ta at HTL
            have HTA := Lib.hid hta
            clear hta
            go_wp2
            clear hck
            go_loopg [6, 48] (cs.length + 1) (fun gk s i wr => ∃ j : Nat, j ≤ cs.length ∧ gk = cs.length - j + 1 ∧ i = .int .i64 j ∧ s = .string ⟨(ta ++ blankLits (gapNo gs) cnt (cs.take j)).toArray⟩ ∧ Blk wr wc.heap.size 3 #[.int .i64 ((cnt + j : Nat) : Int)] ∧ Below wc.heap.size w7 wr)
            case atStart => exact ⟨0, by omega, by omega, rfl, by simp [blankLits], HKK.out, HBBk.out⟩
            case round =>
              obtain ⟨j, hj, rfl, rfl, rfl, hkj, hbb⟩ := hrel
              obtain ⟨wi, rfl⟩ : ∃ wi : World, wi = wr := ⟨_, rfl⟩
              have HBBj := Lib.hid hbb
              have HKJ := Lib.hid hkj
              have hsi := hbb.size
              have hlk := hkj.lt
              have htl := HTL.out
              have hjl := blankLits_len (gapNo gs) (cs.take j) cnt (fun l hl => HBD.out l (List.mem_of_mem_take hl))
              have hjt : (cs.take j).length ≤ 400 := by simp only [List.length_take]; omega
              clear hbb hkj
              by_cases hlj : j < cs.length
              · obtain ⟨b2, off2, rfl, hb2, hcj1⟩ := HIK.out.at_ hlj
                have hcj := (HBBj.out.cell (p := ⟨b2, off2 + j, none⟩) (by have h1 := HLC.out; have h2 := HLT5.out; simp; omega)).trans hcj1
                obtain ⟨hb1, hb3⟩ := HATK.out j
                have hlt1 := blankLits_take (gapNo gs) cs cnt j hlj
                have hg10 := gapText_length (gapNo gs (cnt + j))
                obtain ⟨l, hl⟩ : ∃ l, l = cs.getD j 0 := ⟨_, rfl⟩
                rw [← hl] at hcj hb1 hb3 hlt1
                have hil := Lib.itoa_length_le l hb1 hb3
                have IT := Lib.hid (itoa_any l wi hb1 hb3 (TE7.out wi HBBj.out))
                have GAj := Lib.hid (fun w2 hk2 hb2 => GA.out (cnt + j) w2 hk2 hb2 (by omega))
                generalize Lib.itoa l = il at hlt1 IT hil
                generalize gapText (gapNo gs (cnt + j)) = gt at hlt1 hg10 GAj
                have q1 := str_add (P := Tryd.prog) il gt (il ++ gt) rfl (by omega) (by omega)
                have q2 := str_add (P := Tryd.prog) (ta ++ blankLits (gapNo gs) cnt (cs.take j)) (il ++ gt) (ta ++ blankLits (gapNo gs) cnt (cs.take (j + 1))) (by rw [hlt1]; simp) (by rw [List.length_append]; omega) (by rw [List.length_append]; omega)
                clear hl hlt1 hcj1 hb1 hb3 htl hjl hjt hil hg10
                generalize ta ++ blankLits (gapNo gs) cnt (cs.take j) = tb at q2
                generalize il ++ gt = il2 at q1 q2
                go_wp2_with (first
                  | (go_at_call 13; refine IT.out.mono ?_; rintro e w2 ⟨rfl, hb2'⟩; have HB2 := Lib.hid (HBBj.out.trans (hb2'.mono (Nat.le_of_lt hlk))); have HK2 := Lib.hid (HKJ.out.below hb2' hlk); clear hb2')
                  | (go_at_call 14; refine (GAj.out w2 HK2.out HB2.out).mono ?_; rintro e w3 ⟨rfl, hk3, hb3'⟩; have HK3 := Lib.hid hk3; have HB3 := Lib.hid (HB2.out.trans hb3'); clear hk3 hb3'))
                go_roundg (cs.length - j)
                case measure => omega
                case rel => exact ⟨j + 1, by omega, by omega, by go_num, rfl, HK3.out, HB3.out⟩
              · have htk : cs.take j = cs := List.take_of_length_le (by omega)
                obtain rfl : j = cs.length := by omega
                rw [htk] at hjl hjt ⊢
                have hg10 := gapText_length (gapNo gs (cnt + cs.length))
                have GAj := Lib.hid (fun w2 hk2 hb2 => GA.out (cnt + cs.length) w2 hk2 hb2 (by omega))
                have hct := HCT.out
                unfold blankClause at hct
                rw [← HCNT.out] at hct
                generalize gapText (gapNo gs (cnt + cs.length)) = gt at hct hg10 GAj
                have q1 := str_add (P := Tryd.prog) [48] gt ([48] ++ gt) rfl (by decide) (by omega)
                have q2 := str_add (P := Tryd.prog) (ta ++ blankLits (gapNo gs) cnt cs) ([48] ++ gt) (blankHead F cls.length ++ blankClauses (gapNo gs) 0 (cls.take (k + 1))) (by rw [hct, ← HTA.out]; simp) (by rw [List.length_append]; omega) (by rw [List.length_append]; show 1 + _ ≤ _; omega)
                have hnew : cnt + cs.length + 1 = litCount (cls.take (k + 1)) + (k + 1) := by rw [HLCT.out, HCNT.out]; omega
                have HNEW := Lib.hid hnew
                clear htk hct htl hjl hjt hg10 hnew
                generalize htc : blankHead F cls.length ++ blankClauses (gapNo gs) 0 (cls.take (k + 1)) = tc at q2
                have HTC := Lib.hid htc
                clear htc
                generalize ta ++ blankLits (gapNo gs) cnt cs = tb at q2
                generalize [48] ++ gt = il2 at q1 q2
                go_wp2_with (go_at_call 14; refine (GAj.out wi HKJ.out HBBj.out).mono ?_; rintro e w3 ⟨rfl, hk3, hb3'⟩; have HK3 := Lib.hid hk3; have HB3 := Lib.hid (HBBj.out.trans hb3'); clear hk3 hb3')
                go_roundg (cls.length - k)
                case measure => omega
                case rel => exact ⟨k + 1, by omega, by omega, by go_num, by rw [HTC.out], by rw [← HNEW.out]; exact HK3.out, HB3.out⟩
          · have htk : cls.take k = cls := List.take_of_length_le (by omega)
            obtain rfl : k = cls.length := by omega
            rw [htk] at HTL ⊢
            have hpb := parse_blanks (gapNo gs) (V := F) (cls := cls) (by omega) (by omega) (by omega) HOK.out.ok (by omega)
            have htl := HTL.out
            have hlc := HLC.out
            have hb5o := HB7.out.trans (HBBk.out.mono hlc)
            have PA := Lib.hid (parse_any (blankHead F cls.length ++ blankClauses (gapNo gs) 0 cls) m wo (by omega) (HE5.out.same hb5o).max)
            rw [hpb] at PA
            have HB5o := Lib.hid hb5o
            generalize blankHead F cls.length ++ blankClauses (gapNo gs) 0 cls = tt at PA
            clear htk hpb htl hlc hb5o HTL HKK
            go_wp2_with (go_at_call 10; refine PA.out.mono ?_)
            rintro e wp ⟨A7, c7, rfl, hr7, hb7⟩
            have hb5p := HB5o.out.trans (hb7.mono HB5o.out.size)
            obtain ⟨w8, hw8⟩ : ∃ w8, w8 = wp.alloc (.cells #[.int .i64 F, .slice A7 cls.length c7] 29) := ⟨_, rfl⟩
            have hb78 : Below wp.heap.size wp w8 := by rw [hw8]; exact (Below.refl _ _).alloc (Nat.le_refl _) _
            have hb58 := hb5p.trans (hb78.mono hb5p.size)
            have hbf8 := HBF.out.below hb58 HLT5.out
            have hbg8 : Blk w8 wp.heap.size 29 #[.int .i64 F, .slice A7 cls.length c7] := by rw [hw8]; exact Blk.new wp _ _
            have hr8 := HR5.out.below (hb58.mono (Nat.le_of_lt HLT5.out))
            have hs8 := hr7.below hb78
            have hz8 := hb58.size
            have hz45 := HLT5.out
            have SA := Lib.hid (same_any F F cls cls w8.heap.size A4 A7 c4 c7 w8 (by omega) (fun j => by have := HOK.out.len j; omega) (fun j => by have := HOK.out.len j; omega) (hr8.more (by omega)) (hs8.more hb78.size) (Nat.le_refl _))
            rw [show sameForm F F cls cls = true by unfold sameForm; simp] at SA
            have f0 := hbf8.cell 0
            have f1 := hbf8.cell 1
            have g0 := hbg8.cell 0
            have g1 := hbg8.cell 1
            simp at f0 f1 g0 g1
            rw [hw8] at f0 f1 g0 g1 SA
            have HB8 := Lib.hid (HB5.out.trans (hb58.mono HB5.out.size))
            have HW8 := Lib.hid hw8
            clear hr7 hb7 hb5p hw8 hb78 hb58 hbf8 hbg8 hr8 hs8 hz8 hz45 PA
            go_wp2_with (go_at_call 12; refine SA.out.mono ?_; rw [← HW8.out]; rintro e w' ⟨rfl, hb⟩; have HBT := Lib.hid hb; clear hb)
            go_ret
            exact ⟨rfl, HB8.out.trans (HBT.out.mono HB8.out.size)⟩

theorem blanks_raw (u : Int) (nss : List (List Int)) (A : Option Addr) (c : Nat) (gs : List Int) (Ag : Option Addr) (cg : Nat) (m : Int) (w : World) (hu : (Lit.int .u8 u).wf = true)
    (hx : nss.length ≤ 5864062014805) (hm : ∀ j, (nss.getD j []).length * 2 ≤ 140737488351232) (hn : ∀ j i, (Lit.int .i16 ((nss.getD j []).getD i 0)).wf = true) (h : KRows .i16 w w.heap.size A nss)
    (hgl : gs.length ≤ 9223372036854775807) (hgb : ∀ j, (Lit.int .u8 (gs.getD j 0)).wf = true) (hgs : KInts .u8 w w.heap.size Ag gs) (hE : Env m w) :
    Calls Tryd.prog 4 #[.agg #[.int .u8 u, .slice A nss.length c], .slice Ag gs.length cg] w fun e w' => e = .returned (.bool true) ∧ Below w.heap.size w w' := by
  obtain ⟨v, rfl, hv⟩ := raw_nat03 hu
  exact blanks03_any v nss A c gs Ag cg m w hv hgl (fun j => bounds_u8 (hgb j)) hgs (by omega) (raw_rows03 hm hn).1 (raw_rows03 hm hn).2 h hE
end Go.Proofs.YteolgfakhkeedaaDoor
