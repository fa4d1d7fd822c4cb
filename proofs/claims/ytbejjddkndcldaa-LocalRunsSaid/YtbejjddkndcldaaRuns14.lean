/- The statement that a state is as its assignment makes it, however variables are turned: the walk. -/
import Derived.Test.YtbejjddkndcldaaSt14
import Derived.Test.YtbejjddkndcldaaOpenPair
namespace Go.Proofs.Ytbejjddkndcldaa
open Go.RowKit
set_option linter.unusedVariables false
set_option linter.unusedSimpArgs false

set_option maxRecDepth 100000 in
set_option maxHeartbeats 8000000 in
theorem runs14_any (v : Nat) (nss : List (List Int)) (A : Option Addr) (c : Nat) (bits : Int) (fs : List Int) (Af : Option Addr) (cf : Nat) (w : World) (hv : v ≤ 255)
    (hx : nss.length ≤ 140737488355328) (hl : ∀ j, (nss.getD j []).length ≤ 140737488355328) (hn : ∀ j k, -32768 ≤ (nss.getD j []).getD k 0 ∧ (nss.getD j []).getD k 0 ≤ 32767) (h : KRows .i16 w w.heap.size A nss)
    (hbits : 0 ≤ bits ∧ bits < 4294967296) (hi : KInts .i64 w w.heap.size Af fs) (hfs : ∀ y ∈ fs, -9223372036854775808 ≤ y ∧ y ≤ 9223372036854775807) :
    Calls Try.prog 4 #[.agg #[.int .u8 v, .slice A nss.length c], .int .u32 bits, .slice Af fs.length cf] w fun e w' => e = .returned (.bool true) ∧ Below w.heap.size w w' := by
  have H := Lib.hid h
  have HL := Lib.hid hl
  have HN := Lib.hid hn
  clear h hl hn
  go_enter Try.func4, Try.ntmps4
  go_wp2_with fail
  obtain ⟨w1, hw1⟩ : ∃ w1, w1 = w.alloc (Obj.cells #[Value.int IntKind.u8 v, Value.slice A nss.length c] 24) := ⟨_, rfl⟩
  have HR1 := Lib.hid (show KRows .i16 w1 w.heap.size A nss by rw [hw1]; exact H.out.alloc (Nat.le_refl _) _)
  have HB1 := Lib.hid (show Below w.heap.size w w1 by rw [hw1]; exact (Below.refl _ _).alloc (Nat.le_refl _) _)
  have HK1 := Lib.hid (show Blk w1 w.heap.size 24 #[Value.int IntKind.u8 v, Value.slice A nss.length c] by rw [hw1]; exact Blk.new w _ _)
  rw [← hw1]
  clear hw1
  refine (fit_any14 w1).mono ?_
  rintro e w2 ⟨rfl, hb2⟩
  have HR2 := Lib.hid (HR1.out.below (hb2.mono HB1.out.size))
  have HB2 := Lib.hid (HB1.out.trans (hb2.mono HB1.out.size))
  have HK2 := Lib.hid (HK1.out.below hb2 HK1.out.lt)
  clear hb2 HR1 HB1 HK1
  have k0 := HK2.out.cell 0
  have k1 := HK2.out.cell 1
  simp at k0 k1
  go_wp2_with fail
  refine (light_any v nss _ A c 40 w2 (by omega) hx HL.out HR2.out HB2.out.size).mono ?_
  rintro e w3 ⟨rfl, hb3⟩
  have HR3 := Lib.hid (HR2.out.below (hb3.mono HB2.out.size))
  have HB3 := Lib.hid (HB2.out.trans (hb3.mono HB2.out.size))
  have HK3 := Lib.hid (HK2.out.below hb3 HK2.out.lt)
  clear hb3 HR2 HB2 HK2 k0 k1
  have k0 := HK3.out.cell 0
  have k1 := HK3.out.cell 1
  simp at k0 k1
  rcases hlt : light nss 40 with _ | _
  · go_wp2
    go_ret
    exact ⟨rfl, HB3.out⟩
  · have hls := light_rows hlt
    have hF : v % (12 + 1) ≤ 12 := by omega
    have hFM := lightForm_rawW14 (F := v % (12 + 1)) (W := 6) (by omega) hlt
    clear hlt
    by_cases hlen : 60 < fs.length
    · have hlI : (60 : Int) < (fs.length : Int) := by omega
      go_wp2
      go_ret
      exact ⟨rfl, HB3.out⟩
    go_wp2_with fail
    refine (formula_any v nss _ A c 12 6 w3 hv (by omega) (by omega) hls.1 hls.2 HN.out HR3.out HB3.out.size).mono ?_
    obtain ⟨F, hFF⟩ : ∃ F, F = v % (12 + 1) := ⟨_, rfl⟩
    rw [← hFF] at hF hFM ⊢
    clear hFF
    obtain ⟨xss, hxs⟩ : ∃ xss, xss = rawForm F 6 nss := ⟨_, rfl⟩
    rw [← hxs] at hFM ⊢
    have HFM := Lib.hid hFM
    have hx1 := hFM.few
    rintro e w4 ⟨A4, c4, vs4, rfl, hown4, hlist4, hb4⟩
    have HB4 := Lib.hid (HB3.out.trans (hb4.mono HB3.out.size))
    have HRO4 := Lib.hid (hlist4.rows hown4)
    have HI := Lib.hid hi
    have HFS := Lib.hid hfs
    clear hFM hown4 hlist4 hb4 k0 k1 hxs HR3 HB3 HK3 hls hi hfs
    go_wp2_with fail
    obtain ⟨w5, hw5⟩ : ∃ w5, w5 = w4.alloc (Obj.cells #[Value.int IntKind.i64 F, Value.slice A4 xss.length c4] 30) := ⟨_, rfl⟩
    have HFB5 := Lib.hid (show Blk w5 w4.heap.size 30 #[Value.int IntKind.i64 F, Value.slice A4 xss.length c4] by rw [hw5]; exact Blk.new w4 _ _)
    have HRO5 := Lib.hid (show Rows w5 w4.heap.size A4 xss by rw [hw5]; exact HRO4.out.alloc (Nat.le_refl _) _)
    have HB5 := Lib.hid (show Below w.heap.size w w5 by rw [hw5]; exact HB4.out.alloc HB4.out.size _)
    have hs5 : w4.heap.size + 1 ≤ w5.heap.size := by rw [hw5]; simp
    have hs4 := HB4.out.size
    rw [← hw5]
    clear hw5 HRO4 HB4
    have HU5 := Lib.hid (show KInts .i64 w5 w.heap.size Af fs from Cells.below HI.out HB5.out)
    refine (formula_norm_any F xss _ A4 c4 w5 (by omega) (HFM.out.lit (by omega)) HRO5.out (by omega)).mono ?_
    obtain ⟨yss, hys⟩ : ∃ yss, yss = normForm xss := ⟨_, rfl⟩
    rw [← hys]
    rintro e w6 ⟨Al, cl, vl, rfl, hown6, hlist6, hb6⟩
    obtain ⟨eb, heb⟩ : ∃ eb, (yss.any fun y => y.isEmpty) = eb := ⟨_, rfl⟩
    rw [heb]
    have HYS := Lib.hid hys
    have HRL6 := Lib.hid (hlist6.rows hown6)
    have HFB60 := Lib.hid (HFB5.out.below hb6 HFB5.out.lt)
    have HRO6 := Lib.hid (HRO5.out.below (hb6.mono (by omega)))
    have HFB6 := Lib.hid (HFB5.out.below hb6 HFB5.out.lt)
    have HB6 := Lib.hid (HB5.out.trans (hb6.mono HB5.out.size))
    have HU6 := Lib.hid (show KInts .i64 w6 w.heap.size Af fs from Cells.below HI.out HB6.out)
    have hs6 := hb6.size
    clear heb hown6 hlist6 hb6 HRO5 HFB5 HB5 hys HU5
    have f0 := HFB6.out.cell 0
    simp at f0
    go_wp2_with fail
    refine (start_any F bits w6 (by omega) hbits).mono ?_
    rintro e w7 ⟨rfl, hk7, hb7⟩
    have HKA7 := Lib.hid hk7
    have HB67 := Lib.hid hb7
    have HFB7 := Lib.hid (HFB6.out.below hb7 HFB6.out.lt)
    have HRO7 := Lib.hid (HRO6.out.below (hb7.mono (by omega)))
    have hka := hk7.lt
    clear hk7 hb7 f0
    have f0 := HFB7.out.cell 0
    have f1 := HFB7.out.cell 1
    simp at f0 f1
    have hzl := startZ_len F bits
    have hnew := st_new F xss (startZ F bits) w7.heap.size A4 (some ⟨w6.heap.size, 0, none⟩) c4 F w7 (by omega) HFM.out (Rows.more HRO7.out (by omega)) (by have := HKA7.out.bools; exact this) (Nat.le_refl _) hzl
    rw [hzl, ← HYS.out] at hnew
    go_wp2_with fail
    refine hnew.mono ?_
    rintro e w8 ⟨ρ8, g, s8, rfl, hst, hb8⟩
    have HST8 := Lib.hid hst
    have HB68 := Lib.hid (HB67.out.trans (hb8.mono HB67.out.size))
    have HKA8 := Lib.hid (Blk.below HKA7.out hb8 hka)
    have HFB8 := Lib.hid (HFB7.out.below hb8 HFB7.out.lt)
    clear hst hb8 hnew HKA7 HB67 HFB7 HRO7 HRO6 HFB6 f0 f1
    have hrg := st_right HST8.out w6.heap.size w8.heap.size Al (some ⟨w6.heap.size, 0, none⟩) cl F (HRL6.out.below HB68.out) (BlkB.bools HKA8.out) HB68.out.size (Nat.le_refl _)
    rw [hzl] at hrg
    go_wp2_with fail
    refine hrg.mono ?_
    rintro e w9 ⟨rfl, hb9⟩
    have HST9 := Lib.hid (HST8.out.below hb9)
    have HB69 := Lib.hid (HB68.out.trans (hb9.mono HB68.out.size))
    have HKA9 := Lib.hid (Blk.below HKA8.out hb9 (Nat.lt_of_lt_of_le hka (HST8.out.hB)))
    have hgt : ¬ (fs.length : Int) > 60 := by omega
    have HFB6o := Lib.hid (fun (W : World) (hW : Below w6.heap.size w6 W) => HFB60.out.below hW HFB60.out.lt)
    clear hrg hb9 HST8 HB68 HKA8 HFB8
    go_wp2_with fail
    go_loopg [13, 61] (fs.length + 1) (fun gk tn ti wr => ∃ (i m : Nat) (z : List Bool) (ρ : Nat → Nat) (s : LS) (b : BS), i ≤ fs.length ∧ gk = fs.length - i + 1 ∧ ti = .int .i64 (i : Nat) ∧ tn = .int .i64 (m : Nat) ∧ m ≤ i ∧ Hid (b.flips = m ∧ z.length = F) ∧ Hid (St14 wr w7.heap.size ρ g z yss s b) ∧ Hid (BlkB wr w6.heap.size 4 z) ∧ Hid (Below w6.heap.size w6 wr))
    case atStart => exact ⟨0, 0, startZ F bits, ρ8, s8, _, by omega, by omega, rfl, rfl, Nat.le_refl _, Lib.hid ⟨rfl, hzl⟩, HST9, HKA9, HB69⟩
    case round =>
      obtain ⟨i, m, z, ρ, s, b, hi, rfl, rfl, rfl, hmi, HBZ, HST, HKA, HBR⟩ := hrel
      clear HST9 HKA9 HB69
      by_cases hlt : i < fs.length
      · have hfi := HFS.out (fs.getD i 0) (by simp only [List.getD, List.getElem?_eq_getElem hlt, Option.getD_some]; exact List.getElem_mem hlt)
        obtain ⟨bq, oq, eAf, _, cv⟩ := Cells.at_ (Cells.below HU6.out (HBR.out.mono HB6.out.size)) hlt
        obtain ⟨x, hxx⟩ : ∃ x, fs.getD i 0 = x := ⟨_, rfl⟩
        rw [hxx] at hfi cv
        have fr := HFB6o.out wr HBR.out
        have f0 := fr.cell 0
        simp at f0
        have hfl := st_flip HST.out (by rw [HBZ.out.1]; omega) x hfi
        rw [HBZ.out.2] at hfl
        have hiI : (i : Int) < (fs.length : Int) := by omega
        subst eAf
        clear hxx fr
        by_cases hc1 : 1 ≤ x
        · by_cases hc2 : x ≤ (F : Int)
          · have hiv : isVar F x = true := decide_eq_true ⟨hc1, hc2⟩
            rw [hiv] at hfl
            have HFL := Lib.hid hfl
            have htz : turnI z x = turn z x.toNat := by unfold turnI; rw [if_pos ⟨hc1, by rw [HBZ.out.2]; exact hc2⟩]
            obtain ⟨k, rfl⟩ : ∃ k : Nat, x = (k : Int) + 1 := ⟨(x - 1).toNat, by omega⟩
            rw [show ((k : Int) + 1).toNat = k + 1 by omega] at htz
            have HTZ := Lib.hid htz
            have hkF : (k : Int) < (F : Int) := by omega
            clear hfl hiv htz
            go_wp2_with fail
            refine HFL.out.mono ?_
            rintro e w10 ⟨rfl, ρ', s', b', hst', hs', hyes, _⟩
            have HST1 := Lib.hid hst'
            have hfr := HST.out.frame hs'
            have HKA1 := Lib.hid (show BlkB w10 w6.heap.size 4 z from Blk.below HKA.out hfr hka)
            have HBR1 := Lib.hid (HBR.out.trans (hfr.mono (by omega)))
            have HBF := Lib.hid (hyes (by first | rfl | trivial)).1
            clear hst' hs' hyes hfr HFL f0 cv
            have ck := HKA1.out.cell (i := k) (by rw [HBZ.out.2]; omega)
            have fk := HKA1.out.frozen k
            have hset := HKA1.out.set_ k (!z.getD k false)
            have htm : turn z (k + 1) = z.set k (!z.getD k false) := by simp [turn]
            rw [← htm, ← HTZ.out] at hset
            have HSET := Lib.hid hset
            have HST2 := Lib.hid (HST1.out.ft (F := fun q => q = w6.heap.size) ((Ft.refl (F := fun q => q = w6.heap.size) w10).set (fun _ => rfl) k (.bool (!z.getD k false))) fun q hq e => by have := HST1.out.lo q hq; omega)
            have HBR2 := Lib.hid (HBR1.out.setCell (p := ⟨w6.heap.size, k, none⟩) (Nat.le_refl _) (.bool (!z.getD k false)))
            obtain ⟨zk, hzk⟩ : ∃ zk, z.getD k false = zk := ⟨_, rfl⟩
            rw [hzk] at ck HSET HST2 HBR2
            clear hset htm hzk
            go_wp2_with fail
            obtain ⟨w11, hw11⟩ : ∃ w11, w11 = w10.setCell ⟨w6.heap.size, k, none⟩ (.bool (!zk)) := ⟨_, rfl⟩
            rw [← hw11] at HSET HST2 HBR2 ⊢
            clear hw11 ck fk
            have hrg := st_right HST2.out w6.heap.size w11.heap.size Al (some ⟨w6.heap.size, 0, none⟩) cl F (HRL6.out.below HBR2.out) (BlkB.bools HSET.out) HBR2.out.size (Nat.le_refl _)
            have hzt : (turnI z ((k : Int) + 1)).length = F := by rw [turnI_len]; exact HBZ.out.2
            rw [hzt] at hrg
            refine hrg.mono ?_
            rintro e w12 ⟨rfl, hb12⟩
            have HST3 := Lib.hid (HST2.out.below hb12)
            have HKA3 := Lib.hid (Blk.below HSET.out hb12 HSET.out.lt)
            have HBR3 := Lib.hid (HBR2.out.trans (hb12.mono HBR2.out.size))
            have hff := st_flips HST3.out
            rw [HBF.out, HBZ.out.1] at hff
            have HF2 : Hid (b'.flips = m + 1 ∧ (turnI z ((k : Int) + 1)).length = F) := Lib.hid ⟨by rw [HBF.out, HBZ.out.1], hzt⟩
            clear hrg hb12 hzt
            go_wp2_with fail
            refine hff.mono ?_
            rintro e w13 ⟨rfl, rfl⟩
            clear hff
            go_wp2
            go_roundg (fs.length - i)
            case measure => omega
            case rel => exact ⟨i + 1, m + 1, _, ρ', s', b', by omega, by omega, by go_num, by go_num, by omega, HF2, HST3, HKA3, HBR3⟩
          · have hiv : isVar F x = false := decide_eq_false fun e => hc2 e.2
            have hcd : decide (x ≤ (F : Int)) = false := decide_eq_false hc2
            rw [hiv] at hfl
            have HFL := Lib.hid hfl
            have HTZ := Lib.hid (show turnI z x = z by unfold turnI; rw [if_neg (fun e => hc2 (by rw [HBZ.out.2] at e; exact e.2))])
            clear hfl hiv
            go_wp2_with fail
            refine HFL.out.mono ?_
            rintro e w10 ⟨rfl, ρ', s', b', hst', hs', _, hnot⟩
            obtain ⟨rfl, rfl⟩ := hnot (by first | rfl | trivial)
            rw [HTZ.out] at hst'
            have HST1 := Lib.hid hst'
            have hfr := HST.out.frame hs'
            have HKA1 := Lib.hid (show BlkB w10 w6.heap.size 4 z from Blk.below HKA.out hfr hka)
            have HBR1 := Lib.hid (HBR.out.trans (hfr.mono (by omega)))
            clear hst' hs' hnot hfr HFL f0 cv
            have hrg := st_right HST1.out w6.heap.size w10.heap.size Al (some ⟨w6.heap.size, 0, none⟩) cl F (HRL6.out.below HBR1.out) (BlkB.bools HKA1.out) HBR1.out.size (Nat.le_refl _)
            rw [HBZ.out.2] at hrg
            go_wp2_with fail
            refine hrg.mono ?_
            rintro e w12 ⟨rfl, hb12⟩
            have HST3 := Lib.hid (HST1.out.below hb12)
            have HKA3 := Lib.hid (Blk.below HKA1.out hb12 HKA1.out.lt)
            have HBR3 := Lib.hid (HBR1.out.trans (hb12.mono HBR1.out.size))
            have hff := st_flips HST3.out
            rw [HBZ.out.1] at hff
            clear hrg hb12
            go_wp2_with fail
            refine hff.mono ?_
            rintro e w13 ⟨rfl, rfl⟩
            clear hff
            go_wp2
            go_roundg (fs.length - i)
            case measure => omega
            case rel => exact ⟨i + 1, m, z, ρ', s', b', by omega, by omega, by go_num, rfl, by omega, HBZ, HST3, HKA3, HBR3⟩
        · have hiv : isVar F x = false := decide_eq_false fun e => hc1 e.1
          have HTZ := Lib.hid (show turnI z x = z by unfold turnI; rw [if_neg (fun e => hc1 e.1)])
          rw [hiv] at hfl
          have HFL := Lib.hid hfl
          clear hfl hiv
          go_wp2_with fail
          refine HFL.out.mono ?_
          rintro e w10 ⟨rfl, ρ', s', b', hst', hs', _, hnot⟩
          obtain ⟨rfl, rfl⟩ := hnot (by first | rfl | trivial)
          rw [HTZ.out] at hst'
          have HST1 := Lib.hid hst'
          have hfr := HST.out.frame hs'
          have HKA1 := Lib.hid (show BlkB w10 w6.heap.size 4 z from Blk.below HKA.out hfr hka)
          have HBR1 := Lib.hid (HBR.out.trans (hfr.mono (by omega)))
          clear hst' hs' hnot hfr HFL f0 cv
          have hrg := st_right HST1.out w6.heap.size w10.heap.size Al (some ⟨w6.heap.size, 0, none⟩) cl F (HRL6.out.below HBR1.out) (BlkB.bools HKA1.out) HBR1.out.size (Nat.le_refl _)
          rw [HBZ.out.2] at hrg
          go_wp2_with fail
          refine hrg.mono ?_
          rintro e w12 ⟨rfl, hb12⟩
          have HST3 := Lib.hid (HST1.out.below hb12)
          have HKA3 := Lib.hid (Blk.below HKA1.out hb12 HKA1.out.lt)
          have HBR3 := Lib.hid (HBR1.out.trans (hb12.mono HBR1.out.size))
          have hff := st_flips HST3.out
          rw [HBZ.out.1] at hff
          clear hrg hb12
          go_wp2_with fail
          refine hff.mono ?_
          rintro e w13 ⟨rfl, rfl⟩
          clear hff
          go_wp2
          go_roundg (fs.length - i)
          case measure => omega
          case rel => exact ⟨i + 1, m, z, ρ', s', b', by omega, by omega, by go_num, rfl, by omega, HBZ, HST3, HKA3, HBR3⟩
      · have hie : fs.length = i := by omega
        subst hie
        have has := st_assign HST.out
        rw [HBZ.out.2] at has
        go_wp2_with fail
        refine has.mono ?_
        rintro e w10 ⟨Ab, cb, rfl, hown, hb10⟩
        have HOB := Lib.hid hown
        have HKB := Lib.hid (show BlkB w10 w6.heap.size 4 z from Blk.below HKA.out hb10 HKA.out.lt)
        have HBR1 := Lib.hid (HBR.out.trans (hb10.mono HBR.out.size))
        clear hown hb10 has
        go_wp2_with fail
        go_loopg [107] (F + 1) (fun gk ti wr => ∃ j : Nat, j ≤ F ∧ gk = F - j + 1 ∧ ti = .int .i64 (j : Nat) ∧ Hid (∃ q, wr = w10.drewN q))
        case atStart => exact ⟨0, by omega, by omega, rfl, Lib.hid ⟨0, rfl⟩⟩
        case round =>
          obtain ⟨j, hj, rfl, rfl, HQ⟩ := hrel
          obtain ⟨q, hq⟩ := HQ.out
          by_cases hjl : j < F
          · have c1 : wr.cell? ⟨w6.heap.size, j, none⟩ = some (.bool (z.getD j false)) := by rw [hq]; exact HKB.out.cell (i := j) (by rw [HBZ.out.2]; omega)
            have hob := HOB.out
            obtain ⟨gb, eb, _, _⟩ := own_addr hob (by omega)
            subst eb
            have c2 : wr.cell? ⟨gb, j, none⟩ = some (.bool (z.getD j false)) := by
              rw [hq]
              have := World.ownsRow.cellAt hob j (by omega)
              rw [show (z.map Value.bool)[j]? = some (.bool (z.getD j false)) by simp [List.getD, show j < z.length by rw [HBZ.out.2]; exact hjl]] at this
              exact this
            obtain ⟨y, hy⟩ : ∃ y, z.getD j false = y := ⟨_, rfl⟩
            rw [hy] at c1 c2
            have hjI : (j : Int) < (F : Int) := by omega
            clear hob hy hq
            go_wp2_with fail
            go_quiet (fail)
            go_wp2
            go_roundg (F - j)
            case measure => omega
            case rel => exact ⟨j + 1, by omega, by omega, by go_num, Lib.hid (by obtain ⟨q, hq⟩ := HQ.out; exact ⟨_, by rw [hq]; exact World.drewN_drewN _ _ _⟩)⟩
          · have hje : F = j := by omega
            subst hje
            have HBE := Lib.hid (show Below w.heap.size w wr by rw [hq]; exact below_drewN (HB6.out.trans (HBR1.out.mono HB6.out.size)) q)
            clear hq
            go_wp2
            go_ret
            exact ⟨by simp, HBE.out⟩

theorem runs14_raw (u : Int) (nss : List (List Int)) (A : Option Addr) (c : Nat) (bits : Int) (w : World) (Al : Option Addr) (len cap : Nat) (z : Nat → Int) (hu : (Lit.int .u8 u).wf = true)
    (hx : nss.length ≤ 5864062014805) (m : ∀ j, (nss.getD j []).length * 2 ≤ 140737488351232) (hn : ∀ j i, (Lit.int .i16 ((nss.getD j []).getD i 0)).wf = true) (h : KRows .i16 w w.heap.size A nss) (hb : (Lit.int .u32 bits).wf = true) (hi : IsInts .i64 w Al len cap z) :
    Calls Try.prog 4 #[.agg #[.int .u8 u, .slice A nss.length c], .int .u32 bits, .slice Al len cap] w fun e w' => e = .returned (.bool true) ∧ Below w.heap.size w w' := by
  obtain ⟨v, rfl, hv⟩ := u8_nat14 hu
  obtain ⟨fs, rfl, _, hk, hw⟩ := list_of hi
  exact runs14_any v nss A c bits fs Al cap w hv (by omega) (fun j => by have := m j; omega) (fun j k => by have := bounds_i16 (hn j k); omega) h (by have := bounds_u32 hb; omega) hk fun y hy => by have := bounds_i64 (hw y hy); omega
end Go.Proofs.Ytbejjddkndcldaa
