/- The statement that variables turned in another order leave the same: the walk. -/
import Derived.Test.YtbejjddkndcldaaSt14
import Derived.Test.YtbejjddkndcldaaOpenPair
import Derived.Test.YtbejjddkndcldaaTrnMath14
namespace Go.Proofs.Ytbejjddkndcldaa
open Go.RowKit
set_option linter.unusedVariables false
set_option linter.unusedSimpArgs false

set_option maxRecDepth 100000 in
set_option maxHeartbeats 8000000 in
theorem orders14_any (v : Nat) (nss : List (List Int)) (A : Option Addr) (c : Nat) (bits : Int) (fs : List Int) (Af : Option Addr) (cf : Nat) (w : World) (hv : v ≤ 255)
    (hx : nss.length ≤ 140737488355328) (hl : ∀ j, (nss.getD j []).length ≤ 140737488355328) (hn : ∀ j k, -32768 ≤ (nss.getD j []).getD k 0 ∧ (nss.getD j []).getD k 0 ≤ 32767) (h : KRows .i16 w w.heap.size A nss)
    (hbits : 0 ≤ bits ∧ bits < 4294967296) (hi : KInts .u8 w w.heap.size Af fs) (hfs : ∀ y ∈ fs, 0 ≤ y ∧ y ≤ 255) :
    Calls Try.prog 8 #[.agg #[.int .u8 v, .slice A nss.length c], .int .u32 bits, .slice Af fs.length cf] w fun e w' => e = .returned (.bool true) ∧ Below w.heap.size w w' := by
  have H := Lib.hid h
  have HL := Lib.hid hl
  have HN := Lib.hid hn
  clear h hl hn
  go_enter Try.func8, Try.ntmps8
  go_wp2_with fail
  obtain ⟨w1, hw1⟩ : ∃ w1, w1 = w.alloc (Obj.cells #[Value.int IntKind.u8 v, Value.slice A nss.length c] 24) := ⟨_, rfl⟩
  have HR1 := Lib.hid (show KRows .i16 w1 w.heap.size A nss by rw [hw1]; exact H.out.alloc (Nat.le_refl _) _)
  have HB1 := Lib.hid (show Below w.heap.size w w1 by rw [hw1]; exact (Below.refl _ _).alloc (Nat.le_refl _) _)
  have HK1 := Lib.hid (show Blk w1 w.heap.size 24 #[Value.int IntKind.u8 v, Value.slice A nss.length c] by rw [hw1]; exact Blk.new w _ _)
  rw [← hw1]
  clear hw1
  refine (fit_any14 w1).mono ?_
  rintro e w2 ⟨rfl, hb2⟩
  have HR2 := Lib.hid (HR1.out.below (hb2.mono HB1.out.size))
  have HB2 := Lib.hid (HB1.out.trans (hb2.mono HB1.out.size))
  have HK2 := Lib.hid (HK1.out.below hb2 HK1.out.lt)
  clear hb2 HR1 HB1 HK1
  have k0 := HK2.out.cell 0
  have k1 := HK2.out.cell 1
  simp at k0 k1
  go_wp2_with fail
  refine (light_any v nss _ A c 40 w2 (by omega) hx HL.out HR2.out HB2.out.size).mono ?_
  rintro e w3 ⟨rfl, hb3⟩
  have HR3 := Lib.hid (HR2.out.below (hb3.mono HB2.out.size))
  have HB3 := Lib.hid (HB2.out.trans (hb3.mono HB2.out.size))
  have HK3 := Lib.hid (HK2.out.below hb3 HK2.out.lt)
  clear hb3 HR2 HB2 HK2 k0 k1
  have k0 := HK3.out.cell 0
  have k1 := HK3.out.cell 1
  simp at k0 k1
  rcases hlt : light nss 40 with _ | _
  · go_wp2
    go_ret
    exact ⟨rfl, HB3.out⟩
  · have hls := light_rows hlt
    have hF : v % (12 + 1) ≤ 12 := by omega
    have hFM := lightForm_rawW14 (F := v % (12 + 1)) (W := 6) (by omega) hlt
    clear hlt
    by_cases hlen : 30 < fs.length
    · have hlI : (30 : Int) < (fs.length : Int) := by omega
      go_wp2
      go_ret
      exact ⟨rfl, HB3.out⟩
    go_wp2_with fail
    refine (formula_any v nss _ A c 12 6 w3 hv (by omega) (by omega) hls.1 hls.2 HN.out HR3.out HB3.out.size).mono ?_
    obtain ⟨F, hFF⟩ : ∃ F, F = v % (12 + 1) := ⟨_, rfl⟩
    rw [← hFF] at hF hFM ⊢
    clear hFF
    obtain ⟨xss, hxs⟩ : ∃ xss, xss = rawForm F 6 nss := ⟨_, rfl⟩
    rw [← hxs] at hFM ⊢
    have HFM := Lib.hid hFM
    have hx1 := hFM.few
    rintro e w4 ⟨A4, c4, vs4, rfl, hown4, hlist4, hb4⟩
    have HB4 := Lib.hid (HB3.out.trans (hb4.mono HB3.out.size))
    have HRO4 := Lib.hid (hlist4.rows hown4)
    have HI := Lib.hid hi
    have HFS := Lib.hid hfs
    clear hFM hown4 hlist4 hb4 k0 k1 hxs HR3 HB3 HK3 hls hi hfs
    go_wp2_with fail
    obtain ⟨w5, hw5⟩ : ∃ w5, w5 = w4.alloc (Obj.cells #[Value.int IntKind.i64 F, Value.slice A4 xss.length c4] 30) := ⟨_, rfl⟩
    have HFB5 := Lib.hid (show Blk w5 w4.heap.size 30 #[Value.int IntKind.i64 F, Value.slice A4 xss.length c4] by rw [hw5]; exact Blk.new w4 _ _)
    have HRO5 := Lib.hid (show Rows w5 w4.heap.size A4 xss by rw [hw5]; exact HRO4.out.alloc (Nat.le_refl _) _)
    have HB5 := Lib.hid (show Below w.heap.size w w5 by rw [hw5]; exact HB4.out.alloc HB4.out.size _)
    have hs5 : w4.heap.size + 1 ≤ w5.heap.size := by rw [hw5]; simp
    have hs4 := HB4.out.size
    rw [← hw5]
    clear hw5 HRO4 HB4
    have HI5 := Lib.hid (show KInts .u8 w5 w.heap.size Af fs from Cells.below HI.out HB5.out)
    have f0 := HFB5.out.cell 0
    simp at f0
    go_wp2_with fail
    refine (start_any F bits w5 (by omega) hbits).mono ?_
    rintro e w7 ⟨rfl, hk7, hb7⟩
    have HKA7 := Lib.hid hk7
    have HB57 := Lib.hid hb7
    have HFB7 := Lib.hid (HFB5.out.below hb7 HFB5.out.lt)
    have HRO7 := Lib.hid (HRO5.out.below (hb7.mono (by omega)))
    have hka := hk7.lt
    have hs7 := hb7.size
    clear hk7 hb7 f0
    have f0 := HFB7.out.cell 0
    have f1 := HFB7.out.cell 1
    simp at f0 f1
    have hzl := startZ_len F bits
    have hnew := st_new F xss (startZ F bits) w7.heap.size A4 (some ⟨w5.heap.size, 0, none⟩) c4 F w7 (by omega) HFM.out (Rows.more HRO7.out (by omega)) (by have := HKA7.out.bools; exact this) (Nat.le_refl _) hzl
    rw [hzl] at hnew
    go_wp2_with fail
    refine hnew.mono ?_
    rintro e w8 ⟨ρ8, g, s8, rfl, hst, hb8⟩
    have HST8 := Lib.hid hst
    have HB58 := Lib.hid (HB57.out.trans (hb8.mono HB57.out.size))
    have HKA8 := Lib.hid (Blk.below HKA7.out hb8 hka)
    have HFB8 := Lib.hid (HFB7.out.below hb8 HFB7.out.lt)
    clear hst hb8 hnew HKA7 HB57 HFB7 HRO7 f0 f1
    have f0 := HFB8.out.cell 0
    simp at f0
    have hgt : ¬ (fs.length : Int) > 30 := by omega
    have f1 := HFB8.out.cell 1
    simp at f1
    have hs8 := HST8.out.hB
    have HRO8 := Lib.hid (show Rows w8 w5.heap.size A4 xss from Rows.below (Rows.more HRO5.out (by omega)) HB58.out)
    have hnew := st_new F xss (startZ F bits) w8.heap.size A4 (some ⟨w5.heap.size, 0, none⟩) c4 F w8 (by omega) HFM.out (Rows.more HRO8.out (by omega)) (by have := BlkB.bools (z := startZ F bits) HKA8.out; exact this) (Nat.le_refl _) hzl
    rw [hzl] at hnew
    have HNW := Lib.hid hnew
    clear hnew
    go_wp2_with fail
    with_reducible refine HNW.out.mono ?_
    rintro e w9 ⟨ρt, gt, t9, rfl, hst, hb9⟩
    have HT9 := Lib.hid hst
    have HS9 := Lib.hid (HST8.out.below hb9)
    have HB59 := Lib.hid (HB58.out.trans (hb9.mono HB58.out.size))
    have HKA9 := Lib.hid (show BlkB w9 w5.heap.size 4 (startZ F bits) from Blk.below HKA8.out hb9 HKA8.out.lt)
    have HDJ : Hid (∀ q, ρ8 q ≠ 0 → ρt q = 0) := Lib.hid fun q hq => Decidable.not_not.1 fun hne => by
      have h1 := HST8.out.fresh q hq
      have h2 := hst.lo q hne
      omega
    have HZL := Lib.hid hzl
    clear hst hb9 HNW HST8 HB58 HKA8 HFB8 HRO8 f0 f1
    go_wp2_with fail
    go_loopg [62] (fs.length + 1) (fun gk ti wr => ∃ (i : Nat) (ρ : Nat → Nat) (s : LS) (b : BS) (ρ' : Nat → Nat) (t : LS) (d : BS), i ≤ fs.length ∧ gk = fs.length - i + 1 ∧ ti = .int .i64 (i : Nat) ∧ Hid (b.flips ≤ i ∧ d.flips ≤ i) ∧ Hid (St14 wr w7.heap.size ρ g (turns (startZ F bits) (fs.take i)) (normForm xss) s b) ∧ Hid (St14 wr w8.heap.size ρ' gt (turns (startZ F bits) (fs.reverse.take i)) (normForm xss) t d) ∧ Hid (∀ q, ρ q ≠ 0 → ρ' q = 0) ∧ Hid (BlkB wr w5.heap.size 4 (startZ F bits)) ∧ Hid (Below w5.heap.size w5 wr))
    case atStart => exact ⟨0, ρ8, s8, _, ρt, t9, _, by omega, by omega, rfl, Lib.hid ⟨Nat.le_refl _, Nat.le_refl _⟩, HS9, HT9, HDJ, HKA9, HB59⟩
    case round =>
      obtain ⟨i, ρ, s, b, ρ', t, d, hi, rfl, rfl, HFC, HS, HT, HD, HKA, HBR⟩ := hrel
      clear HS9 HT9 HDJ HKA9 HB59
      by_cases hlt : i < fs.length
      · have hfi := HFS.out (fs.getD i 0) (by simp only [List.getD, List.getElem?_eq_getElem hlt, Option.getD_some]; exact List.getElem_mem hlt)
        have hfj := HFS.out (fs.getD (fs.length - 1 - i) 0) (by simp only [List.getD, List.getElem?_eq_getElem (show fs.length - 1 - i < fs.length by omega), Option.getD_some]; exact List.getElem_mem _)
        obtain ⟨bq, oq, eAf, _, cv⟩ := Cells.at_ (Cells.below HI5.out (HBR.out.mono HB5.out.size)) hlt
        obtain ⟨br, or, eAr, bqb, cv2⟩ := Cells.at_ (Cells.below HI5.out (HBR.out.mono HB5.out.size)) (show fs.length - 1 - i < fs.length by omega)
        rw [eAf] at eAr
        injection eAr with eAr
        injection eAr with eAr1 eAr2
        subst eAr1 eAr2
        have enx : fs.take (i + 1) = fs.take i ++ [fs.getD i 0] := by rw [List.take_succ_eq_append_getElem hlt]; simp [List.getD, hlt]
        have enr : fs.reverse.take (i + 1) = fs.reverse.take i ++ [fs.getD (fs.length - 1 - i) 0] := by
          rw [List.take_succ_eq_append_getElem (by simpa using hlt)]
          simp [List.getD, show fs.length - 1 - i < fs.length by omega]
        obtain ⟨x, hxx⟩ : ∃ x, fs.getD i 0 = x := ⟨_, rfl⟩
        obtain ⟨y, hyy⟩ : ∃ y, fs.getD (fs.length - 1 - i) 0 = y := ⟨_, rfl⟩
        obtain ⟨r, hr⟩ : ∃ r, fs.length - 1 - i = r := ⟨_, rfl⟩
        rw [hxx] at hfi cv enx
        rw [hyy] at hfj cv2 enr
        rw [hr] at cv2
        have hrI : (fs.length : Int) - 1 - (i : Int) = (r : Int) := by omega
        have hrl : (r : Int) < (fs.length : Int) := by omega
        have hfl := st_flip HS.out (by have := HFC.out.1; omega) x (by omega)
        rw [← turns_snoc, ← enx] at hfl
        have HFL := Lib.hid hfl
        have HEN := Lib.hid enr
        have hiI : (i : Int) < (fs.length : Int) := by omega
        have hflb : fs.length ≤ 30 := by omega
        subst eAf
        clear hxx hyy hr hfl enx enr
        go_wp2_with fail
        with_reducible refine HFL.out.mono ?_
        rintro e w10 ⟨rfl, ρ1, s1, b1, hst1, hs1, hy1, hn1⟩
        have HS1 := Lib.hid hst1
        have hfr := HS.out.frame hs1
        have HT1 := Lib.hid (HT.out.beside hs1 (dj_symm HD.out))
        have HD1 := Lib.hid (dj_step hs1 HD.out HT.out.fresh)
        have HKA1 := Lib.hid (show BlkB w10 w5.heap.size 4 (startZ F bits) from Blk.below HKA.out hfr hka)
        have HBR1 := Lib.hid (HBR.out.trans (hfr.mono (by omega)))
        have HF1 : Hid (b1.flips ≤ i + 1) := Lib.hid (by
          have h0 := HFC.out.1
          rcases hc : isVar (turns (startZ F bits) (fs.take i)).length x with _ | _
          · rw [(hn1 hc).1]; omega
          · rw [(hy1 hc).1]; omega)
        have cv3 : w10.cell? ⟨bq, oq + r, none⟩ = some (.int .u8 y) := (hfr.cell (p := ⟨bq, oq + r, none⟩) (by
          have h1 := HB5.out.size
          show bq < w7.heap.size
          omega)).trans cv2
        have hfl2 := st_flip HT1.out (by have := HFC.out.2; omega) y (by omega)
        rw [← turns_snoc, ← HEN.out] at hfl2
        have HFL2 := Lib.hid hfl2
        clear hst1 hs1 hy1 hn1 hfr HFL cv cv2 hfl2
        go_wp2_with fail
        with_reducible refine HFL2.out.mono ?_
        rintro e w11 ⟨rfl, ρ2, t2, d2, hst2, hs2, hy2, hn2⟩
        have HT2 := Lib.hid hst2
        have hfr := HT1.out.frame hs2
        have HS2 := Lib.hid (HS1.out.beside hs2 HD1.out)
        have HD2 := Lib.hid (dj_symm (dj_step hs2 (dj_symm HD1.out) HS1.out.fresh))
        have HKA2 := Lib.hid (show BlkB w11 w5.heap.size 4 (startZ F bits) from Blk.below HKA1.out hfr (by omega))
        have HBR2 := Lib.hid (HBR1.out.trans (hfr.mono (by omega)))
        have HF2 : Hid (d2.flips ≤ i + 1) := Lib.hid (by
          have h0 := HFC.out.2
          rcases hc : isVar (turns (startZ F bits) (fs.reverse.take i)).length y with _ | _
          · rw [(hn2 hc).1]; omega
          · rw [(hy2 hc).1]; omega)
        clear hst2 hs2 hy2 hn2 hfr HFL2 cv3
        go_wp2
        go_roundg (fs.length - i)
        case measure => omega
        case rel => exact ⟨i + 1, ρ1, s1, b1, ρ2, t2, d2, by omega, by omega, by go_num, Lib.hid ⟨HF1.out, HF2.out⟩, HS2, HT2, HD2, HKA2, HBR2⟩
      · have hie : fs.length = i := by omega
        subst hie
        have hte : turns (startZ F bits) (fs.reverse.take fs.length) = turns (startZ F bits) fs := by
          rw [List.take_of_length_le (by simp)]
          exact turns_perm (List.reverse_perm fs) _
        have hse : turns (startZ F bits) (fs.take fs.length) = turns (startZ F bits) fs := by rw [List.take_length]
        rw [hte] at HT
        rw [hse] at HS
        have fr := HFB5.out.below HBR.out HFB5.out.lt
        have f0 := fr.cell 0
        have f1 := fr.cell 1
        simp at f0 f1
        have hfm := formula_norm_any F xss w5.heap.size A4 c4 wr (by omega) (HFM.out.lit (by omega)) ((Rows.more HRO5.out (by omega) : Rows w5 w5.heap.size A4 xss).below HBR.out) HBR.out.size
        have HFN := Lib.hid hfm
        obtain ⟨eb, heb⟩ : ∃ eb, ((normForm xss).any fun y => y.isEmpty) = eb := ⟨_, rfl⟩
        have HEB := Lib.hid heb
        have hrs : t.row.length = s.row.length := row_same HS.out.good HS.out.at_ HT.out.good HT.out.at_ (HT.out.cls.trans HS.out.cls.symm)
        have HRS := Lib.hid hrs
        clear fr hfm heb hrs hte hse
        go_wp2_with fail
        with_reducible refine HFN.out.mono ?_
        rintro e w13 ⟨Al, cl, vl, rfl, hown, hlist, hb13⟩
        rw [HEB.out]
        have HS3 := Lib.hid (HS.out.below hb13)
        have HT3 := Lib.hid (HT.out.below hb13)
        have HRL := Lib.hid (hlist.rows hown)
        obtain ⟨nb, hnb⟩ : ∃ nb, wr.heap.size = nb := ⟨_, rfl⟩
        have HLT := Lib.hid HS.out.fresh
        rw [hnb] at hown hlist HLT
        have HOW := Lib.hid hown
        have HOL := Lib.hid hlist
        have HKA3 := Lib.hid (show BlkB w13 w5.heap.size 4 (startZ F bits) from Blk.below HKA.out hb13 HKA.out.lt)
        have HBR3 := Lib.hid (HBR.out.trans (hb13.mono HBR.out.size))
        clear hown hlist hb13 HFN f0 f1 HS HT HKA HBR hnb
        have hun1 := st_unsat HS3.out
        have hun2 := st_unsat HT3.out
        rw [HRS.out] at hun2
        obtain ⟨R, hR⟩ : ∃ R, s.row.length = R := ⟨_, rfl⟩
        rw [hR] at hun1 hun2
        have has := st_assign HT3.out
        rw [turns_len, HZL.out] at has
        have HU1 := Lib.hid hun1
        have HU2 := Lib.hid hun2
        have HAS := Lib.hid has
        obtain ⟨yl, hyl⟩ : ∃ yl, (normForm xss).length = yl := ⟨_, rfl⟩
        have HYL := Lib.hid hyl
        rw [hyl]
        clear hun1 hun2 has hR hyl
        go_wp2_with fail
        with_reducible refine HU1.out.mono ?_
        rintro e w14 ⟨rfl, rfl⟩
        go_wp2_with fail
        with_reducible refine HU2.out.mono ?_
        rintro e w14 ⟨rfl, rfl⟩
        go_wp2_with fail
        with_reducible refine HAS.out.mono ?_
        rintro e w14 ⟨Ab, cb, rfl, hown, hb14⟩
        have HS4 := Lib.hid (HS3.out.below hb14)
        have HB1314 := Lib.hid hb14
        have HKA4 := Lib.hid (show BlkB w14 w5.heap.size 4 (startZ F bits) from Blk.below HKA3.out hb14 HKA3.out.lt)
        have HBR4 := Lib.hid (HBR3.out.trans (hb14.mono HBR3.out.size))
        have hbl : Bools w14 w14.heap.size Ab (turns (startZ F bits) fs) := by
          have hl : (turns (startZ F bits) fs).length = F := by rw [turns_len, HZL.out]
          refine bools_cells (c := cb) (t := 4) (base := w13.heap.size) ?_
          rw [hl]
          exact hown
        have hrg := st_right HS4.out w13.heap.size w14.heap.size Al Ab cl cb (HRL.out.below hb14) hbl hb14.size (Nat.le_refl _)
        rw [turns_len, HZL.out, HYL.out] at hrg
        have HRG := Lib.hid hrg
        clear hown hb14 hbl hrg HU1 HU2 HAS
        go_wp2_with fail
        with_reducible refine HRG.out.mono ?_
        rintro e w15 ⟨rfl, hb15⟩
        have HS5 := Lib.hid (HS4.out.below hb15)
        have HB1315 := Lib.hid (HB1314.out.trans (hb15.mono HB1314.out.size))
        have HKA5 := Lib.hid (show BlkB w15 w5.heap.size 4 (startZ F bits) from Blk.below HKA4.out hb15 HKA4.out.lt)
        have HBR5 := Lib.hid (HBR4.out.trans (hb15.mono HBR4.out.size))
        have hs13 : w7.heap.size ≤ w13.heap.size := HS3.out.hB
        clear hb15 HRG HT3
        go_wp2_with fail
        have HK5 : Hid ((∀ q, nb ≤ q → q < w13.heap.size → w15.heap[q]? = w13.heap[q]?) ∧ w13.heap.size ≤ w15.heap.size ∧ ∀ q, ρ q ≠ 0 → q < nb ∨ w13.heap.size ≤ q) := Lib.hid ⟨fun q _ hq => HB1315.out.block q hq, HB1315.out.size, fun q hq => .inl (HLT.out q hq)⟩
        have HF5 : Hid (b.flips ≤ fs.length + 0) := Lib.hid (by have := HFC.out.1; omega)
        clear HB1315 HLT HFC HB1314 HS3 HS4 HKA3 HKA4 HBR3 HBR4 HRL HEB HRS
        go_loopg [104] (fs.length + 1) (fun gk ti wr => ∃ (i : Nat) (ρ : Nat → Nat) (s : LS) (b : BS), i ≤ fs.length ∧ gk = fs.length - i + 1 ∧ ti = .int .i64 (i : Nat) ∧ Hid (b.flips ≤ fs.length + i) ∧ Hid (St14 wr w7.heap.size ρ g (turns (turns (startZ F bits) fs) (fs.take i)) (normForm xss) s b) ∧ Hid (BlkB wr w5.heap.size 4 (startZ F bits)) ∧ Hid (Below w5.heap.size w5 wr) ∧ Hid ((∀ q, nb ≤ q → q < w13.heap.size → wr.heap[q]? = w13.heap[q]?) ∧ w13.heap.size ≤ wr.heap.size ∧ ∀ q, ρ q ≠ 0 → q < nb ∨ w13.heap.size ≤ q))
        case atStart => exact ⟨0, ρ, s, b, by omega, by omega, rfl, HF5, HS5, HKA5, HBR5, HK5⟩
        case round =>
          obtain ⟨i, ρ, s, b, hi, rfl, rfl, HFC, HS, HKA, HBR, HK⟩ := hrel
          clear HF5 HS5 HKA5 HBR5 HK5
          by_cases hlt : i < fs.length
          · have hfi := HFS.out (fs.getD i 0) (by simp only [List.getD, List.getElem?_eq_getElem hlt, Option.getD_some]; exact List.getElem_mem hlt)
            obtain ⟨bq, oq, eAf, bqb, cv⟩ := Cells.at_ (Cells.below HI5.out (HBR.out.mono HB5.out.size)) hlt
            have enx : fs.take (i + 1) = fs.take i ++ [fs.getD i 0] := by rw [List.take_succ_eq_append_getElem hlt]; simp [List.getD, hlt]
            obtain ⟨x, hxx⟩ : ∃ x, fs.getD i 0 = x := ⟨_, rfl⟩
            rw [hxx] at hfi cv enx
            have hfl := st_flip HS.out (by have := HFC.out; omega) x (by omega)
            rw [← turns_snoc, ← enx] at hfl
            have HFL := Lib.hid hfl
            have hiI : (i : Int) < (fs.length : Int) := by omega
            subst eAf
            clear hxx hfl enx bqb
            go_wp2_with fail
            with_reducible refine HFL.out.mono ?_
            rintro e w16 ⟨rfl, ρ1, s1, b1, hst1, hs1, hy1, hn1⟩
            have HS1 := Lib.hid hst1
            have hfr := HS.out.frame hs1
            have HKA1 := Lib.hid (show BlkB w16 w5.heap.size 4 (startZ F bits) from Blk.below HKA.out hfr hka)
            have HBR1 := Lib.hid (HBR.out.trans (hfr.mono (by omega)))
            have HF1 : Hid (b1.flips ≤ fs.length + (i + 1)) := Lib.hid (by
              have h0 := HFC.out
              rcases hc : isVar (turns (turns (startZ F bits) fs) (fs.take i)).length x with _ | _
              · rw [(hn1 hc).1]; omega
              · rw [(hy1 hc).1]; omega)
            have HK1 : Hid ((∀ q, nb ≤ q → q < w13.heap.size → w16.heap[q]? = w13.heap[q]?) ∧ w13.heap.size ≤ w16.heap.size ∧ ∀ q, ρ1 q ≠ 0 → q < nb ∨ w13.heap.size ≤ q) := Lib.hid ⟨fun q h1 h2 => by
                rw [← HK.out.1 q h1 h2]
                refine hs1.ft.block q (by have := HK.out.2.1; omega) fun hne => ?_
                rcases HK.out.2.2 q hne with h3 | h3 <;> omega, Nat.le_trans HK.out.2.1 hs1.ft.size, fun q hq => by
                rcases Nat.lt_or_ge q wr.heap.size with hl | hl
                · rw [hs1.part q hl] at hq
                  exact HK.out.2.2 q hq
                · exact .inr (Nat.le_trans HK.out.2.1 hl)⟩
            clear hst1 hs1 hy1 hn1 hfr HFL cv
            go_wp2
            go_roundg (fs.length - i)
            case measure => omega
            case rel => exact ⟨i + 1, ρ1, s1, b1, by omega, by omega, by go_num, HF1, HS1, HKA1, HBR1, HK1⟩
          · have hie : fs.length = i := by omega
            subst hie
            have hse : turns (turns (startZ F bits) fs) (fs.take fs.length) = startZ F bits := by rw [List.take_length, turns_undo]
            rw [hse] at HS
            have hro := OwnList.rows_agree HOL.out HOW.out HK.out.1
            have hrg := st_right HS.out w13.heap.size wr.heap.size Al (some ⟨w5.heap.size, 0, none⟩) cl F hro (by have := BlkB.bools (z := startZ F bits) HKA.out; exact this) HK.out.2.1 (Nat.le_refl _)
            rw [HZL.out, HYL.out] at hrg
            have HRG := Lib.hid hrg
            clear hse hro hrg
            go_wp2_with fail
            with_reducible refine HRG.out.mono ?_
            rintro e w16 ⟨rfl, hb16⟩
            have HBE := Lib.hid (HB5.out.trans ((HBR.out.trans (hb16.mono HBR.out.size)).mono HB5.out.size))
            clear hb16 HRG
            go_wp2
            go_ret
            exact ⟨rfl, HBE.out⟩

theorem orders14_raw (u : Int) (nss : List (List Int)) (A : Option Addr) (c : Nat) (bits : Int) (w : World) (Al : Option Addr) (len cap : Nat) (z : Nat → Int) (hu : (Lit.int .u8 u).wf = true)
    (hx : nss.length ≤ 5864062014805) (m : ∀ j, (nss.getD j []).length * 2 ≤ 140737488351232) (hn : ∀ j i, (Lit.int .i16 ((nss.getD j []).getD i 0)).wf = true) (h : KRows .i16 w w.heap.size A nss) (hb : (Lit.int .u32 bits).wf = true) (hi : IsInts .u8 w Al len cap z) :
    Calls Try.prog 8 #[.agg #[.int .u8 u, .slice A nss.length c], .int .u32 bits, .slice Al len cap] w fun e w' => e = .returned (.bool true) ∧ Below w.heap.size w w' := by
  obtain ⟨v, rfl, hv⟩ := u8_nat14 hu
  obtain ⟨fs, rfl, _, hk, hw⟩ := list_of hi
  exact orders14_any v nss A c bits fs Al cap w hv (by omega) (fun j => by have := m j; omega) (fun j k => by have := bounds_i16 (hn j k); omega) h (by have := bounds_u32 hb; omega) hk fun y hy => by have := bounds_u8 (hw y hy); omega
end Go.Proofs.Ytbejjddkndcldaa
