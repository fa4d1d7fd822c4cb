/- The statement that the best assignment is kept: the walk. -/
import Derived.Test.YtbejjddkndcldaaSt14
import Derived.Test.YtbejjddkndcldaaOpenPair
namespace Go.Proofs.Ytbejjddkndcldaa
open Go.RowKit
set_option linter.unusedVariables false
set_option linter.unusedSimpArgs false

set_option maxRecDepth 100000 in
set_option maxHeartbeats 8000000 in
theorem best14_any (v : Nat) (nss : List (List Int)) (A : Option Addr) (c : Nat) (bits : Int) (fs : List Int) (Af : Option Addr) (cf : Nat) (w : World) (hv : v ≤ 255)
    (hx : nss.length ≤ 140737488355328) (hl : ∀ j, (nss.getD j []).length ≤ 140737488355328) (hn : ∀ j k, -32768 ≤ (nss.getD j []).getD k 0 ∧ (nss.getD j []).getD k 0 ≤ 32767) (h : KRows .i16 w w.heap.size A nss)
    (hbits : 0 ≤ bits ∧ bits < 4294967296) (hi : KInts .i64 w w.heap.size Af fs) (hfs : ∀ y ∈ fs, -9223372036854775808 ≤ y ∧ y ≤ 9223372036854775807) :
    Calls Try.prog 5 #[.agg #[.int .u8 v, .slice A nss.length c], .int .u32 bits, .slice Af fs.length cf] w fun e w' => e = .returned (.bool true) ∧ Below w.heap.size w w' := by
  have H := Lib.hid h
  have HL := Lib.hid hl
  have HN := Lib.hid hn
  clear h hl hn
  go_enter Try.func5, Try.ntmps5
  go_wp2_with fail
  obtain ⟨w1, hw1⟩ : ∃ w1, w1 = w.alloc (Obj.cells #[Value.int IntKind.u8 v, Value.slice A nss.length c] 24) := ⟨_, rfl⟩
  have HR1 := Lib.hid (show KRows .i16 w1 w.heap.size A nss by rw [hw1]; exact H.out.alloc (Nat.le_refl _) _)
  have HB1 := Lib.hid (show Below w.heap.size w w1 by rw [hw1]; exact (Below.refl _ _).alloc (Nat.le_refl _) _)
  have HK1 := Lib.hid (show Blk w1 w.heap.size 24 #[Value.int IntKind.u8 v, Value.slice A nss.length c] by rw [hw1]; exact Blk.new w _ _)
  rw [← hw1]
  clear hw1
  refine (fit_any14 w1).mono ?_
  rintro e w2 ⟨rfl, hb2⟩
  have HR2 := Lib.hid (HR1.out.below (hb2.mono HB1.out.size))
  have HB2 := Lib.hid (HB1.out.trans (hb2.mono HB1.out.size))
  have HK2 := Lib.hid (HK1.out.below hb2 HK1.out.lt)
  clear hb2 HR1 HB1 HK1
  have k0 := HK2.out.cell 0
  have k1 := HK2.out.cell 1
  simp at k0 k1
  go_wp2_with fail
  refine (light_any v nss _ A c 40 w2 (by omega) hx HL.out HR2.out HB2.out.size).mono ?_
  rintro e w3 ⟨rfl, hb3⟩
  have HR3 := Lib.hid (HR2.out.below (hb3.mono HB2.out.size))
  have HB3 := Lib.hid (HB2.out.trans (hb3.mono HB2.out.size))
  have HK3 := Lib.hid (HK2.out.below hb3 HK2.out.lt)
  clear hb3 HR2 HB2 HK2 k0 k1
  have k0 := HK3.out.cell 0
  have k1 := HK3.out.cell 1
  simp at k0 k1
  rcases hlt : light nss 40 with _ | _
  · go_wp2
    go_ret
    exact ⟨rfl, HB3.out⟩
  · have hls := light_rows hlt
    have hF : v % (12 + 1) ≤ 12 := by omega
    have hFM := lightForm_rawW14 (F := v % (12 + 1)) (W := 6) (by omega) hlt
    clear hlt
    by_cases hlen : 60 < fs.length
    · have hlI : (60 : Int) < (fs.length : Int) := by omega
      go_wp2
      go_ret
      exact ⟨rfl, HB3.out⟩
    go_wp2_with fail
    refine (formula_any v nss _ A c 12 6 w3 hv (by omega) (by omega) hls.1 hls.2 HN.out HR3.out HB3.out.size).mono ?_
    obtain ⟨F, hFF⟩ : ∃ F, F = v % (12 + 1) := ⟨_, rfl⟩
    rw [← hFF] at hF hFM ⊢
    clear hFF
    obtain ⟨xss, hxs⟩ : ∃ xss, xss = rawForm F 6 nss := ⟨_, rfl⟩
    rw [← hxs] at hFM ⊢
    have HFM := Lib.hid hFM
    have hx1 := hFM.few
    rintro e w4 ⟨A4, c4, vs4, rfl, hown4, hlist4, hb4⟩
    have HB4 := Lib.hid (HB3.out.trans (hb4.mono HB3.out.size))
    have HRO4 := Lib.hid (hlist4.rows hown4)
    have HI := Lib.hid hi
    have HFS := Lib.hid hfs
    clear hFM hown4 hlist4 hb4 k0 k1 hxs HR3 HB3 HK3 hls hi hfs
    go_wp2_with fail
    obtain ⟨w5, hw5⟩ : ∃ w5, w5 = w4.alloc (Obj.cells #[Value.int IntKind.i64 F, Value.slice A4 xss.length c4] 30) := ⟨_, rfl⟩
    have HFB5 := Lib.hid (show Blk w5 w4.heap.size 30 #[Value.int IntKind.i64 F, Value.slice A4 xss.length c4] by rw [hw5]; exact Blk.new w4 _ _)
    have HRO5 := Lib.hid (show Rows w5 w4.heap.size A4 xss by rw [hw5]; exact HRO4.out.alloc (Nat.le_refl _) _)
    have HB5 := Lib.hid (show Below w.heap.size w w5 by rw [hw5]; exact HB4.out.alloc HB4.out.size _)
    have hs5 : w4.heap.size + 1 ≤ w5.heap.size := by rw [hw5]; simp
    have hs4 := HB4.out.size
    rw [← hw5]
    clear hw5 HRO4 HB4
    have HI5 := Lib.hid (show KInts .i64 w5 w.heap.size Af fs from Cells.below HI.out HB5.out)
    have f0 := HFB5.out.cell 0
    simp at f0
    go_wp2_with fail
    refine (start_any F bits w5 (by omega) hbits).mono ?_
    rintro e w7 ⟨rfl, hk7, hb7⟩
    have HKA7 := Lib.hid hk7
    have HB57 := Lib.hid hb7
    have HFB7 := Lib.hid (HFB5.out.below hb7 HFB5.out.lt)
    have HRO7 := Lib.hid (HRO5.out.below (hb7.mono (by omega)))
    have hka := hk7.lt
    have hs7 := hb7.size
    clear hk7 hb7 f0
    have f0 := HFB7.out.cell 0
    have f1 := HFB7.out.cell 1
    simp at f0 f1
    have hzl := startZ_len F bits
    have hnew := st_new F xss (startZ F bits) w7.heap.size A4 (some ⟨w5.heap.size, 0, none⟩) c4 F w7 (by omega) HFM.out (Rows.more HRO7.out (by omega)) (by have := HKA7.out.bools; exact this) (Nat.le_refl _) hzl
    rw [hzl] at hnew
    go_wp2_with fail
    refine hnew.mono ?_
    rintro e w8 ⟨ρ8, g, s8, rfl, hst, hb8⟩
    have HST8 := Lib.hid hst
    have HB58 := Lib.hid (HB57.out.trans (hb8.mono HB57.out.size))
    have HKA8 := Lib.hid (Blk.below HKA7.out hb8 hka)
    have HFB8 := Lib.hid (HFB7.out.below hb8 HFB7.out.lt)
    clear hst hb8 hnew HKA7 HB57 HFB7 HRO7 f0 f1
    have f0 := HFB8.out.cell 0
    simp at f0
    obtain ⟨i0, hi0, hz0, hz1, hz2⟩ := info_parts infoCB
    have hgt : ¬ (fs.length : Int) > 60 := by omega
    have hac : Cells w8 w8.heap.size (some ⟨w5.heap.size, 0, none⟩) F fun j => .bool ((startZ F bits).getD j false) := by have := BlkB.bools (z := startZ F bits) HKA8.out; unfold Bools at this; rw [hzl] at this; exact this
    have HAC := Lib.hid hac
    have hmap8 : (List.range F).map (fun j => Value.bool ((startZ F bits).getD j false)) = (startZ F bits).map .bool := by have := bools_map (startZ F bits); rw [hzl] at this; exact this
    have HMP := Lib.hid hmap8
    clear f0 hac hmap8
    go_wp2_with (at_builtin; refine wpList_append_cells _ rfl _ _ 51 rfl w8.heap.size 4 i0 (.bool false) 1 Try.underlying51 hi0 hz0 hz1 hz2 rfl _ 0 [] rfl (World.ownsRow_nil _ _ _ _) w8.heap.size _ F _ _ rfl HAC.out (fun j _ => rfl) (by unfold maxLen; omega) (by omega) (Nat.le_refl _) ?_)
    intro v' w9 hown' hg _
    have hown : w9.ownsRow w8.heap.size 4 1 v' F ((startZ F bits).map .bool) := by rw [← HMP.out]; simpa using hown'
    clear hown'
    obtain ⟨Ab, cb, rfl, _⟩ := own_slice hown
    have hb9 : Below w8.heap.size w8 w9 := (Below.refl _ _).grown hg (Nat.le_refl _) (fun q hq => by cases hq)
    have HST9 := Lib.hid (HST8.out.below hb9)
    have HB59 := Lib.hid (HB58.out.trans (hb9.mono HB58.out.size))
    have HKA9 := Lib.hid (show BlkB w9 w5.heap.size 4 (startZ F bits) from Blk.below HKA8.out hb9 (HKA8.out.lt))
    have HBW9 : Hid (w9.ownsRow 0 4 1 (.slice Ab F cb) F ((startZ F bits).map .bool) ∧ ∀ q, (Value.slice Ab F cb).ownBlock = some q → ρ8 q = 0 ∧ q ≠ w5.heap.size) := Lib.hid ⟨own_more hown (Nat.zero_le _), fun q hq => by
      have h1 := (hown.lt q hq).1
      have h2 := HB58.out.size
      have h3 := HKA8.out.lt
      refine ⟨Decidable.not_not.1 fun hne => ?_, by omega⟩
      have := HST8.out.fresh q hne
      omega⟩
    have hun := st_unsat HST9.out
    have HUN := Lib.hid hun
    have HZL := Lib.hid hzl
    clear hown hg hb9 hun HAC HMP HKA8 HB58 HST8 HFB8
    go_wp2_with fail
    with_reducible refine HUN.out.mono ?_
    rintro e w10 ⟨rfl, rfl⟩
    clear HUN
    go_wp2
    go_loopg [11, 12, 52] (fs.length + 1) (fun gk tb tf ti wr => ∃ (i : Nat) (z : List Bool) (ρ : Nat → Nat) (s : LS) (b : BS) (Ab : Option Addr) (cb : Nat), i ≤ fs.length ∧ gk = fs.length - i + 1 ∧ ti = .int .i64 (i : Nat) ∧ tb = .slice Ab F cb ∧ tf = .int .i64 (b.fewest : Nat) ∧ Hid (b.flips ≤ i ∧ z.length = F) ∧ Hid (St14 wr w7.heap.size ρ g z (normForm xss) s b) ∧ Hid (BlkB wr w5.heap.size 4 z) ∧ Hid (Below w5.heap.size w5 wr) ∧ Hid (wr.ownsRow 0 4 1 (.slice Ab F cb) F ((b.of z).map .bool) ∧ ∀ q, (Value.slice Ab F cb).ownBlock = some q → ρ q = 0 ∧ q ≠ w5.heap.size))
    case atStart => exact ⟨0, startZ F bits, ρ8, s8, _, Ab, cb, by omega, by omega, rfl, rfl, rfl, Lib.hid ⟨Nat.le_refl _, HZL.out⟩, HST9, HKA9, HB59, HBW9⟩
    case round =>
      obtain ⟨i, z, ρ, s, b, Ab, cb, hi, rfl, rfl, rfl, rfl, HBZ, HST, HKA, HBR, HBW⟩ := hrel
      clear HST9 HKA9 HB59 HBW9
      by_cases hlt : i < fs.length
      · have hfi := HFS.out (fs.getD i 0) (by simp only [List.getD, List.getElem?_eq_getElem hlt, Option.getD_some]; exact List.getElem_mem hlt)
        obtain ⟨bq, oq, eAf, _, cv⟩ := Cells.at_ (Cells.below HI5.out (HBR.out.mono HB5.out.size)) hlt
        obtain ⟨x, hxx⟩ : ∃ x, fs.getD i 0 = x := ⟨_, rfl⟩
        rw [hxx] at hfi cv
        have hfl := st_flip HST.out (by have := HBZ.out.1; omega) x hfi
        rw [HBZ.out.2] at hfl
        have hiI : (i : Int) < (fs.length : Int) := by omega
        subst eAf
        clear hxx
        by_cases hc : 1 ≤ x ∧ x ≤ (F : Int)
        · have hiv : isVar F x = true := decide_eq_true hc
          rw [hiv] at hfl
          have HFL := Lib.hid hfl
          have htz : turnI z x = turn z x.toNat := by unfold turnI; rw [if_pos (by rw [HBZ.out.2]; exact hc)]
          obtain ⟨k, rfl⟩ : ∃ k : Nat, x = (k : Int) + 1 := ⟨(x - 1).toNat, by omega⟩
          rw [show ((k : Int) + 1).toNat = k + 1 by omega] at htz
          have HTZ := Lib.hid htz
          have hkF : (k : Int) < (F : Int) := by omega
          clear hfl hiv htz
          go_wp2_with fail
          with_reducible refine HFL.out.mono ?_
          rintro e w10 ⟨rfl, ρ', s', b', hst', hs', hyes, _⟩
          have HST1 := Lib.hid hst'
          have hfr := HST.out.frame hs'
          have HKA1 := Lib.hid (show BlkB w10 w5.heap.size 4 z from Blk.below HKA.out hfr hka)
          have HBR1 := Lib.hid (HBR.out.trans (hfr.mono (by omega)))
          have HYS := Lib.hid (hyes (by first | rfl | trivial))
          have HBW1 : Hid (w10.ownsRow 0 4 1 (.slice Ab F cb) F ((b.of z).map .bool) ∧ ∀ q, (Value.slice Ab F cb).ownBlock = some q → ρ' q = 0 ∧ q ≠ w5.heap.size) := Lib.hid ⟨hs'.ft.own HBW.out.1 fun q hq hne => hne (HBW.out.2 q hq).1, fun q hq => ⟨(hs'.part q (HBW.out.1.lt q hq).2).trans (HBW.out.2 q hq).1, (HBW.out.2 q hq).2⟩⟩
          clear hst' hs' hyes hfr HFL cv
          have ck := HKA1.out.cell (i := k) (by rw [HBZ.out.2]; omega)
          have fk := HKA1.out.frozen k
          have hset := HKA1.out.set_ k (!z.getD k false)
          have htm : turn z (k + 1) = z.set k (!z.getD k false) := by simp [turn]
          rw [← htm, ← HTZ.out] at hset
          have HSET := Lib.hid hset
          have HST2 := Lib.hid (HST1.out.ft (F := fun q => q = w5.heap.size) ((Ft.refl (F := fun q => q = w5.heap.size) w10).set (fun _ => rfl) k (.bool (!z.getD k false))) fun q hq e => by have := HST1.out.lo q hq; omega)
          have HBR2 := Lib.hid (HBR1.out.setCell (p := ⟨w5.heap.size, k, none⟩) (Nat.le_refl _) (.bool (!z.getD k false)))
          have HBW2 : Hid ((w10.setCell ⟨w5.heap.size, k, none⟩ (.bool (!z.getD k false))).ownsRow 0 4 1 (.slice Ab F cb) F ((b.of z).map .bool) ∧ ∀ q, (Value.slice Ab F cb).ownBlock = some q → ρ' q = 0 ∧ q ≠ w5.heap.size) := Lib.hid ⟨own_setCell HBW1.out.1 _ (fun e => (HBW1.out.2 _ e.symm).2 rfl), HBW1.out.2⟩
          obtain ⟨zk, hzk⟩ : ∃ zk, z.getD k false = zk := ⟨_, rfl⟩
          rw [hzk] at ck HSET HST2 HBR2 HBW2
          have hun := fun (W : World) (h : St14 W w7.heap.size ρ' g (turnI z ((k : Int) + 1)) (normForm xss) s' b') => st_unsat h
          have HUN := Lib.hid hun
          have hrl := HST2.out.good.rlen
          have hfw := HST2.out.good.few
          have hbf := HST.out.few
          have hzt : (turnI z ((k : Int) + 1)).length = F := by rw [turnI_len]; exact HBZ.out.2
          have HZT := Lib.hid hzt
          obtain ⟨R, hR⟩ : ∃ R, s'.row.length = R := ⟨_, rfl⟩
          rw [hR] at hrl
          have HRR := Lib.hid hR
          clear hset htm hzk hun hzt hR
          go_wp2_with fail
          obtain ⟨w11, hw11⟩ : ∃ w11, w11 = w10.setCell ⟨w5.heap.size, k, none⟩ (.bool (!zk)) := ⟨_, rfl⟩
          rw [← hw11] at HSET HST2 HBR2 HBW2 ⊢
          clear hw11 ck fk
          have hun1 := HUN.out _ HST2.out
          rw [HRR.out] at hun1
          with_reducible refine hun1.mono ?_
          rintro e w12 ⟨rfl, rfl⟩
          obtain ⟨fw, hfw2⟩ : ∃ fw, b.fewest = fw := ⟨_, rfl⟩
          have HFW := Lib.hid hfw2
          have hy := HYS.out
          rw [HRR.out, hfw2] at hy
          rw [hfw2] at hbf ⊢
          clear hun1 hfw2
          by_cases hlf : R < fw
          · have hlfI : (R : Int) < (fw : Int) := by omega
            rw [if_pos hlf, if_pos hlf] at hy
            have HY := Lib.hid hy
            obtain ⟨i0, hi0, hz0, hz1, hz2⟩ := info_parts infoCB
            have hac : Cells w11 w11.heap.size (some ⟨w5.heap.size, 0, none⟩) F fun j => .bool ((turnI z ((k : Int) + 1)).getD j false) := by have := BlkB.bools HSET.out; unfold Bools at this; rw [HZT.out] at this; exact this
            have HAC := Lib.hid hac
            have hmap8 : (List.range F).map (fun j => Value.bool ((turnI z ((k : Int) + 1)).getD j false)) = (turnI z ((k : Int) + 1)).map .bool := by have := bools_map (turnI z ((k : Int) + 1)); rw [HZT.out] at this; exact this
            have HMP := Lib.hid hmap8
            clear hac hmap8 hy
            go_wp2_with (at_builtin; refine wpList_append_cells _ rfl _ _ 51 rfl w11.heap.size 4 i0 (.bool false) 1 Try.underlying51 hi0 hz0 hz1 hz2 rfl _ 0 [] rfl (World.ownsRow_nil _ _ _ _) w11.heap.size _ F _ _ rfl HAC.out (fun j _ => rfl) (by unfold maxLen; omega) (by omega) (Nat.le_refl _) ?_)
            intro v' w13 hown' hg _
            have hown : w13.ownsRow w11.heap.size 4 1 v' F ((turnI z ((k : Int) + 1)).map .bool) := by rw [← HMP.out]; simpa using hown'
            clear hown'
            obtain ⟨Ac, cc, rfl, _⟩ := own_slice hown
            have hb13 : Below w11.heap.size w11 w13 := (Below.refl _ _).grown hg (Nat.le_refl _) (fun q hq => by cases hq)
            have HST3 := Lib.hid (HST2.out.below hb13)
            have HBR3 := Lib.hid (HBR2.out.trans (hb13.mono HBR2.out.size))
            have HKA3 := Lib.hid (show BlkB w13 w5.heap.size 4 (turnI z ((k : Int) + 1)) from Blk.below HSET.out hb13 HSET.out.lt)
            have HBW3 : Hid (w13.ownsRow 0 4 1 (.slice Ac F cc) F ((b'.of (turnI z ((k : Int) + 1))).map .bool) ∧ ∀ q, (Value.slice Ac F cc).ownBlock = some q → ρ' q = 0 ∧ q ≠ w5.heap.size) := Lib.hid ⟨by rw [HY.out.2.2]; exact own_more hown (Nat.zero_le _), fun q hq => by
              have h1 := (hown.lt q hq).1
              have h2 := HBR2.out.size
              have h3 := HSET.out.lt
              refine ⟨Decidable.not_not.1 fun hne => ?_, by omega⟩
              have := HST2.out.fresh q hne
              omega⟩
            have hun3 := HUN.out _ HST3.out
            rw [HRR.out] at hun3
            have HUN3 := Lib.hid hun3
            have HF3 : Hid (b'.flips ≤ i + 1 ∧ (turnI z ((k : Int) + 1)).length = F) := Lib.hid ⟨by have := HY.out.1; have := HBZ.out.1; omega, HZT.out⟩
            have hfe : b'.fewest = R := HY.out.2.1
            have HFE := Lib.hid hfe
            clear hown hg hb13 hun3 HAC HMP hfe
            go_wp2_with fail
            with_reducible refine HUN3.out.mono ?_
            rintro e w14 ⟨rfl, rfl⟩
            clear HUN3
            have hbe := st_best HST3.out
            rw [HF3.out.2, HFE.out] at hbe
            have HBE := Lib.hid hbe
            clear hbe
            go_wp2_with fail
            with_reducible refine HBE.out.mono ?_
            rintro e w15 ⟨Ad, cd, rfl, hown, hb15⟩
            have HOD := Lib.hid hown
            have HST5 := Lib.hid (HST3.out.below hb15)
            have HBR5 := Lib.hid (HBR3.out.trans (hb15.mono HBR3.out.size))
            have HKA5 := Lib.hid (show BlkB w15 w5.heap.size 4 (turnI z ((k : Int) + 1)) from Blk.below HKA3.out hb15 HKA3.out.lt)
            have HBW5 := Lib.hid (own_below HBW3.out.1 hb15 fun q hq => (HBW3.out.1.lt q hq).2)
            have HDQ : Hid (∀ q, (Value.slice Ad F cd).ownBlock = some q → ρ' q = 0 ∧ q ≠ w5.heap.size ∧ w5.heap.size ≤ q ∧ (∀ q', (Value.slice Ac F cc).ownBlock = some q' → q ≠ q')) := Lib.hid fun q hq => by
              have h1 := (hown.lt q hq).1
              have h2 := HBR3.out.size
              have h3 := HKA3.out.lt
              refine ⟨Decidable.not_not.1 fun hne => ?_, by omega, by omega, fun q' hq' e => ?_⟩
              · have := HST3.out.fresh q hne
                omega
              · have := (HBW3.out.1.lt q' hq').2
                omega
            clear hown hb15 HBE
            go_wp2
            go_loopg [94] (F + 1) (fun gk ti wr => ∃ (j : Nat) (ys : List Bool), j ≤ F ∧ gk = F - j + 1 ∧ ti = .int .i64 (j : Nat) ∧ Hid (ys.length = F ∧ ∀ l, j ≤ l → ys.getD l false = (b'.of (turnI z ((k : Int) + 1))).getD l false) ∧ Hid (wr.ownsRow 0 4 1 (.slice Ad F cd) F (ys.map .bool)) ∧ Hid (Ft (fun q => (Value.slice Ad F cd).ownBlock = some q) w15 wr))
            case atStart =>
              have hol : (b'.of (turnI z ((k : Int) + 1))).length = F := by have := HOD.out.1; simpa using this
              exact ⟨0, _, by omega, by omega, rfl, Lib.hid ⟨hol, fun _ _ => rfl⟩, Lib.hid (own_more HOD.out (Nat.zero_le _)), Lib.hid (Ft.refl _)⟩
            case round =>
              obtain ⟨j, ys, hj, rfl, rfl, HYY, HOY, HFT⟩ := hrel
              by_cases hjl : j < F
              · have hoy := HOY.out
                obtain ⟨gd, eAd, _, _⟩ := own_addr hoy (by omega)
                have hbw := HFT.out.own HBW5.out fun q hq hqd => (HDQ.out q hqd).2.2.2 q hq rfl
                obtain ⟨gb, eAb, _, _⟩ := own_addr hbw (by omega)
                have hne : gd ≠ gb := (HDQ.out gd (by rw [eAd]; rfl)).2.2.2 gb (by rw [eAb]; rfl)
                rw [eAd] at hoy
                rw [eAb] at hbw
                have c1 := World.ownsRow.cellAt hoy j (by omega)
                rw [show (ys.map Value.bool)[j]? = some (.bool (ys.getD j false)) by simp [List.getD, show j < ys.length by rw [HYY.out.1]; exact hjl], HYY.out.2 j (Nat.le_refl _)] at c1
                have f1 := World.ownsRow.frozenAt hoy j
                have c2 := World.ownsRow.cellAt hbw j (by omega)
                have hol : (b'.of (turnI z ((k : Int) + 1))).length = F := by have := HBW5.out.1; simpa using this
                rw [show ((b'.of (turnI z ((k : Int) + 1))).map Value.bool)[j]? = some (.bool ((b'.of (turnI z ((k : Int) + 1))).getD j false)) by simp [List.getD, show j < (b'.of (turnI z ((k : Int) + 1))).length by rw [hol]; exact hjl]] at c2
                obtain ⟨y, hy⟩ : ∃ y, (b'.of (turnI z ((k : Int) + 1))).getD j false = y := ⟨_, rfl⟩
                rw [hy] at c1 c2
                have HNO := Lib.hid (hoy.stored j (.bool (!y))).1
                have hjI : (j : Int) < (F : Int) := by omega
                subst eAd eAb
                clear hoy hbw hy hol
                go_wp2_with fail
                go_quiet (fail)
                go_wp2
                go_roundg (F - j)
                case measure => omega
                case rel => exact ⟨j + 1, ys.set j (!y), by omega, by omega, by go_num, Lib.hid ⟨by rw [List.length_set]; exact HYY.out.1, fun l hl => by rw [getD_set, if_neg (by omega)]; exact HYY.out.2 l (by omega)⟩, Lib.hid (by rw [List.map_set]; exact HNO.out), Lib.hid (((HFT.out.drewN _).set (fun _ => rfl) j _).drewE ⟨0, rfl⟩)⟩
              · have hje : F = j := by omega
                have HEND : Hid (St14 wr w7.heap.size ρ' g (turnI z ((k : Int) + 1)) (normForm xss) s' b' ∧ BlkB wr w5.heap.size 4 (turnI z ((k : Int) + 1)) ∧ Below w5.heap.size w5 wr ∧ wr.ownsRow 0 4 1 (.slice Ac F cc) F ((b'.of (turnI z ((k : Int) + 1))).map .bool)) := Lib.hid ⟨HST5.out.ft HFT.out fun q hq hqd => hq (HDQ.out q hqd).1, Ft.blk HFT.out HKA5.out (fun hqd => (HDQ.out _ hqd).2.1 rfl), HBR5.out.trans (HFT.out.below HBR5.out.size fun q hqd => (HDQ.out q hqd).2.2.1), HFT.out.own HBW5.out fun q hq hqd => (HDQ.out q hqd).2.2.2 q hq rfl⟩
                clear HST5 HBR5 HKA5 HBW5 HFT HOY
                subst hje
                go_wp2
                go_roundg (fs.length - i)
                case measure => omega
                case rel => exact ⟨i + 1, turnI z ((k : Int) + 1), ρ', s', b', Ac, cc, by omega, by omega, by go_num, rfl, by rw [HFE.out], HF3, Lib.hid HEND.out.1, Lib.hid HEND.out.2.1, Lib.hid HEND.out.2.2.1, Lib.hid ⟨HEND.out.2.2.2, HBW3.out.2⟩⟩
          · have hlfI : ¬ (R : Int) < (fw : Int) := by omega
            have hlfD : decide ((R : Int) < (fw : Int)) = false := decide_eq_false hlfI
            rw [if_neg hlf, if_neg hlf] at hy
            have HY := Lib.hid hy
            have HST3 := HST2
            have HBR3 := HBR2
            have HKA3 := HSET
            have HBW3 : Hid (w11.ownsRow 0 4 1 (.slice Ab F cb) F ((b'.of (turnI z ((k : Int) + 1))).map .bool) ∧ ∀ q, (Value.slice Ab F cb).ownBlock = some q → ρ' q = 0 ∧ q ≠ w5.heap.size) := Lib.hid (by rw [HY.out.2.2]; exact HBW2.out)
            have HF3 : Hid (b'.flips ≤ i + 1 ∧ (turnI z ((k : Int) + 1)).length = F) := Lib.hid ⟨by have := HY.out.1; have := HBZ.out.1; omega, HZT.out⟩
            have HFE := Lib.hid (show b'.fewest = fw from HY.out.2.1)
            clear hy
            have hbe := st_best HST3.out
            rw [HF3.out.2, HFE.out] at hbe
            have HBE := Lib.hid hbe
            clear hbe
            go_wp2_with fail
            with_reducible refine HBE.out.mono ?_
            rintro e w15 ⟨Ad, cd, rfl, hown, hb15⟩
            have HOD := Lib.hid hown
            have HST5 := Lib.hid (HST3.out.below hb15)
            have HBR5 := Lib.hid (HBR3.out.trans (hb15.mono HBR3.out.size))
            have HKA5 := Lib.hid (show BlkB w15 w5.heap.size 4 (turnI z ((k : Int) + 1)) from Blk.below HKA3.out hb15 HKA3.out.lt)
            have HBW5 := Lib.hid (own_below HBW3.out.1 hb15 fun q hq => (HBW3.out.1.lt q hq).2)
            have HDQ : Hid (∀ q, (Value.slice Ad F cd).ownBlock = some q → ρ' q = 0 ∧ q ≠ w5.heap.size ∧ w5.heap.size ≤ q ∧ (∀ q', (Value.slice Ab F cb).ownBlock = some q' → q ≠ q')) := Lib.hid fun q hq => by
              have h1 := (hown.lt q hq).1
              have h2 := HBR3.out.size
              have h3 := HKA3.out.lt
              refine ⟨Decidable.not_not.1 fun hne => ?_, by omega, by omega, fun q' hq' e => ?_⟩
              · have := HST3.out.fresh q hne
                omega
              · have := (HBW3.out.1.lt q' hq').2
                omega
            clear hown hb15 HBE
            go_wp2
            go_loopg [94] (F + 1) (fun gk ti wr => ∃ (j : Nat) (ys : List Bool), j ≤ F ∧ gk = F - j + 1 ∧ ti = .int .i64 (j : Nat) ∧ Hid (ys.length = F ∧ ∀ l, j ≤ l → ys.getD l false = (b'.of (turnI z ((k : Int) + 1))).getD l false) ∧ Hid (wr.ownsRow 0 4 1 (.slice Ad F cd) F (ys.map .bool)) ∧ Hid (Ft (fun q => (Value.slice Ad F cd).ownBlock = some q) w15 wr))
            case atStart =>
              have hol : (b'.of (turnI z ((k : Int) + 1))).length = F := by have := HOD.out.1; simpa using this
              exact ⟨0, _, by omega, by omega, rfl, Lib.hid ⟨hol, fun _ _ => rfl⟩, Lib.hid (own_more HOD.out (Nat.zero_le _)), Lib.hid (Ft.refl _)⟩
            case round =>
              obtain ⟨j, ys, hj, rfl, rfl, HYY, HOY, HFT⟩ := hrel
              by_cases hjl : j < F
              · have hoy := HOY.out
                obtain ⟨gd, eAd, _, _⟩ := own_addr hoy (by omega)
                have hbw := HFT.out.own HBW5.out fun q hq hqd => (HDQ.out q hqd).2.2.2 q hq rfl
                obtain ⟨gb, eAb, _, _⟩ := own_addr hbw (by omega)
                have hne : gd ≠ gb := (HDQ.out gd (by rw [eAd]; rfl)).2.2.2 gb (by rw [eAb]; rfl)
                rw [eAd] at hoy
                rw [eAb] at hbw
                have c1 := World.ownsRow.cellAt hoy j (by omega)
                rw [show (ys.map Value.bool)[j]? = some (.bool (ys.getD j false)) by simp [List.getD, show j < ys.length by rw [HYY.out.1]; exact hjl], HYY.out.2 j (Nat.le_refl _)] at c1
                have f1 := World.ownsRow.frozenAt hoy j
                have c2 := World.ownsRow.cellAt hbw j (by omega)
                have hol : (b'.of (turnI z ((k : Int) + 1))).length = F := by have := HBW5.out.1; simpa using this
                rw [show ((b'.of (turnI z ((k : Int) + 1))).map Value.bool)[j]? = some (.bool ((b'.of (turnI z ((k : Int) + 1))).getD j false)) by simp [List.getD, show j < (b'.of (turnI z ((k : Int) + 1))).length by rw [hol]; exact hjl]] at c2
                obtain ⟨y, hy⟩ : ∃ y, (b'.of (turnI z ((k : Int) + 1))).getD j false = y := ⟨_, rfl⟩
                rw [hy] at c1 c2
                have HNO := Lib.hid (hoy.stored j (.bool (!y))).1
                have hjI : (j : Int) < (F : Int) := by omega
                subst eAd eAb
                clear hoy hbw hy hol
                go_wp2_with fail
                go_quiet (fail)
                go_wp2
                go_roundg (F - j)
                case measure => omega
                case rel => exact ⟨j + 1, ys.set j (!y), by omega, by omega, by go_num, Lib.hid ⟨by rw [List.length_set]; exact HYY.out.1, fun l hl => by rw [getD_set, if_neg (by omega)]; exact HYY.out.2 l (by omega)⟩, Lib.hid (by rw [List.map_set]; exact HNO.out), Lib.hid (((HFT.out.drewN _).set (fun _ => rfl) j _).drewE ⟨0, rfl⟩)⟩
              · have hje : F = j := by omega
                have HEND : Hid (St14 wr w7.heap.size ρ' g (turnI z ((k : Int) + 1)) (normForm xss) s' b' ∧ BlkB wr w5.heap.size 4 (turnI z ((k : Int) + 1)) ∧ Below w5.heap.size w5 wr ∧ wr.ownsRow 0 4 1 (.slice Ab F cb) F ((b'.of (turnI z ((k : Int) + 1))).map .bool)) := Lib.hid ⟨HST5.out.ft HFT.out fun q hq hqd => hq (HDQ.out q hqd).1, Ft.blk HFT.out HKA5.out (fun hqd => (HDQ.out _ hqd).2.1 rfl), HBR5.out.trans (HFT.out.below HBR5.out.size fun q hqd => (HDQ.out q hqd).2.2.1), HFT.out.own HBW5.out fun q hq hqd => (HDQ.out q hqd).2.2.2 q hq rfl⟩
                clear HST5 HBR5 HKA5 HBW5 HFT HOY
                subst hje
                go_wp2
                go_roundg (fs.length - i)
                case measure => omega
                case rel => exact ⟨i + 1, turnI z ((k : Int) + 1), ρ', s', b', Ab, cb, by omega, by omega, by go_num, rfl, by rw [HFE.out], HF3, Lib.hid HEND.out.1, Lib.hid HEND.out.2.1, Lib.hid HEND.out.2.2.1, Lib.hid ⟨HEND.out.2.2.2, HBW3.out.2⟩⟩
        · have hiv : isVar F x = false := decide_eq_false hc
          have HTZ := Lib.hid (show turnI z x = z by unfold turnI; rw [if_neg (by rw [HBZ.out.2]; exact hc)])
          rw [hiv] at hfl
          have HFL := Lib.hid hfl
          clear hfl hiv
          go_wp2_with fail
          with_reducible refine HFL.out.mono ?_
          rintro e w10 ⟨rfl, ρ', s', b', hst', hs', _, hnot⟩
          obtain ⟨rfl, rfl⟩ := hnot (by first | rfl | trivial)
          rw [HTZ.out] at hst'
          have HST3 := Lib.hid hst'
          have hfr := HST.out.frame hs'
          have HKA3 := Lib.hid (show BlkB w10 w5.heap.size 4 z from Blk.below HKA.out hfr hka)
          have HBR3 := Lib.hid (HBR.out.trans (hfr.mono (by omega)))
          have HBW3 : Hid (w10.ownsRow 0 4 1 (.slice Ab F cb) F ((b'.of z).map .bool) ∧ ∀ q, (Value.slice Ab F cb).ownBlock = some q → ρ' q = 0 ∧ q ≠ w5.heap.size) := Lib.hid ⟨hs'.ft.own HBW.out.1 fun q hq hne => hne (HBW.out.2 q hq).1, fun q hq => ⟨(hs'.part q (HBW.out.1.lt q hq).2).trans (HBW.out.2 q hq).1, (HBW.out.2 q hq).2⟩⟩
          have HF3 : Hid (b'.flips ≤ i + 1 ∧ z.length = F) := Lib.hid ⟨by have := HBZ.out.1; omega, HBZ.out.2⟩
          obtain ⟨fw, hfw2⟩ : ∃ fw, b'.fewest = fw := ⟨_, rfl⟩
          have HFE := Lib.hid hfw2
          rw [hfw2]
          clear hst' hs' hnot hfr HFL cv hfw2
          have hbe := st_best HST3.out
          rw [HF3.out.2, HFE.out] at hbe
          have HBE := Lib.hid hbe
          clear hbe
          go_wp2_with fail
          with_reducible refine HBE.out.mono ?_
          rintro e w15 ⟨Ad, cd, rfl, hown, hb15⟩
          have HOD := Lib.hid hown
          have HST5 := Lib.hid (HST3.out.below hb15)
          have HBR5 := Lib.hid (HBR3.out.trans (hb15.mono HBR3.out.size))
          have HKA5 := Lib.hid (show BlkB w15 w5.heap.size 4 (z) from Blk.below HKA3.out hb15 HKA3.out.lt)
          have HBW5 := Lib.hid (own_below HBW3.out.1 hb15 fun q hq => (HBW3.out.1.lt q hq).2)
          have HDQ : Hid (∀ q, (Value.slice Ad F cd).ownBlock = some q → ρ' q = 0 ∧ q ≠ w5.heap.size ∧ w5.heap.size ≤ q ∧ (∀ q', (Value.slice Ab F cb).ownBlock = some q' → q ≠ q')) := Lib.hid fun q hq => by
            have h1 := (hown.lt q hq).1
            have h2 := HBR3.out.size
            have h3 := HKA3.out.lt
            refine ⟨Decidable.not_not.1 fun hne => ?_, by omega, by omega, fun q' hq' e => ?_⟩
            · have := HST3.out.fresh q hne
              omega
            · have := (HBW3.out.1.lt q' hq').2
              omega
          clear hown hb15 HBE
          go_wp2
          go_loopg [94] (F + 1) (fun gk ti wr => ∃ (j : Nat) (ys : List Bool), j ≤ F ∧ gk = F - j + 1 ∧ ti = .int .i64 (j : Nat) ∧ Hid (ys.length = F ∧ ∀ l, j ≤ l → ys.getD l false = (b'.of (z)).getD l false) ∧ Hid (wr.ownsRow 0 4 1 (.slice Ad F cd) F (ys.map .bool)) ∧ Hid (Ft (fun q => (Value.slice Ad F cd).ownBlock = some q) w15 wr))
          case atStart =>
            have hol : (b'.of (z)).length = F := by have := HOD.out.1; simpa using this
            exact ⟨0, _, by omega, by omega, rfl, Lib.hid ⟨hol, fun _ _ => rfl⟩, Lib.hid (own_more HOD.out (Nat.zero_le _)), Lib.hid (Ft.refl _)⟩
          case round =>
            obtain ⟨j, ys, hj, rfl, rfl, HYY, HOY, HFT⟩ := hrel
            by_cases hjl : j < F
            · have hoy := HOY.out
              obtain ⟨gd, eAd, _, _⟩ := own_addr hoy (by omega)
              have hbw := HFT.out.own HBW5.out fun q hq hqd => (HDQ.out q hqd).2.2.2 q hq rfl
              obtain ⟨gb, eAb, _, _⟩ := own_addr hbw (by omega)
              have hne : gd ≠ gb := (HDQ.out gd (by rw [eAd]; rfl)).2.2.2 gb (by rw [eAb]; rfl)
              rw [eAd] at hoy
              rw [eAb] at hbw
              have c1 := World.ownsRow.cellAt hoy j (by omega)
              rw [show (ys.map Value.bool)[j]? = some (.bool (ys.getD j false)) by simp [List.getD, show j < ys.length by rw [HYY.out.1]; exact hjl], HYY.out.2 j (Nat.le_refl _)] at c1
              have f1 := World.ownsRow.frozenAt hoy j
              have c2 := World.ownsRow.cellAt hbw j (by omega)
              have hol : (b'.of (z)).length = F := by have := HBW5.out.1; simpa using this
              rw [show ((b'.of (z)).map Value.bool)[j]? = some (.bool ((b'.of (z)).getD j false)) by simp [List.getD, show j < (b'.of (z)).length by rw [hol]; exact hjl]] at c2
              obtain ⟨y, hy⟩ : ∃ y, (b'.of (z)).getD j false = y := ⟨_, rfl⟩
              rw [hy] at c1 c2
              have HNO := Lib.hid (hoy.stored j (.bool (!y))).1
              have hjI : (j : Int) < (F : Int) := by omega
              subst eAd eAb
              clear hoy hbw hy hol
              go_wp2_with fail
              go_quiet (fail)
              go_wp2
              go_roundg (F - j)
              case measure => omega
              case rel => exact ⟨j + 1, ys.set j (!y), by omega, by omega, by go_num, Lib.hid ⟨by rw [List.length_set]; exact HYY.out.1, fun l hl => by rw [getD_set, if_neg (by omega)]; exact HYY.out.2 l (by omega)⟩, Lib.hid (by rw [List.map_set]; exact HNO.out), Lib.hid (((HFT.out.drewN _).set (fun _ => rfl) j _).drewE ⟨0, rfl⟩)⟩
            · have hje : F = j := by omega
              have HEND : Hid (St14 wr w7.heap.size ρ' g (z) (normForm xss) s' b' ∧ BlkB wr w5.heap.size 4 (z) ∧ Below w5.heap.size w5 wr ∧ wr.ownsRow 0 4 1 (.slice Ab F cb) F ((b'.of (z)).map .bool)) := Lib.hid ⟨HST5.out.ft HFT.out fun q hq hqd => hq (HDQ.out q hqd).1, Ft.blk HFT.out HKA5.out (fun hqd => (HDQ.out _ hqd).2.1 rfl), HBR5.out.trans (HFT.out.below HBR5.out.size fun q hqd => (HDQ.out q hqd).2.2.1), HFT.out.own HBW5.out fun q hq hqd => (HDQ.out q hqd).2.2.2 q hq rfl⟩
              clear HST5 HBR5 HKA5 HBW5 HFT HOY
              subst hje
              go_wp2
              go_roundg (fs.length - i)
              case measure => omega
              case rel => exact ⟨i + 1, z, ρ', s', b', Ab, cb, by omega, by omega, by go_num, rfl, by rw [HFE.out], HF3, Lib.hid HEND.out.1, Lib.hid HEND.out.2.1, Lib.hid HEND.out.2.2.1, Lib.hid ⟨HEND.out.2.2.2, HBW3.out.2⟩⟩
      · have hie : fs.length = i := by omega
        subst hie
        have HBE := Lib.hid (HB5.out.trans (HBR.out.mono HB5.out.size))
        go_wp2
        go_ret
        exact ⟨rfl, HBE.out⟩

theorem best14_raw (u : Int) (nss : List (List Int)) (A : Option Addr) (c : Nat) (bits : Int) (w : World) (Al : Option Addr) (len cap : Nat) (z : Nat → Int) (hu : (Lit.int .u8 u).wf = true)
    (hx : nss.length ≤ 5864062014805) (m : ∀ j, (nss.getD j []).length * 2 ≤ 140737488351232) (hn : ∀ j i, (Lit.int .i16 ((nss.getD j []).getD i 0)).wf = true) (h : KRows .i16 w w.heap.size A nss) (hb : (Lit.int .u32 bits).wf = true) (hi : IsInts .i64 w Al len cap z) :
    Calls Try.prog 5 #[.agg #[.int .u8 u, .slice A nss.length c], .int .u32 bits, .slice Al len cap] w fun e w' => e = .returned (.bool true) ∧ Below w.heap.size w w' := by
  obtain ⟨v, rfl, hv⟩ := u8_nat14 hu
  obtain ⟨fs, rfl, _, hk, hw⟩ := list_of hi
  exact best14_any v nss A c bits fs Al cap w hv (by omega) (fun j => by have := m j; omega) (fun j k => by have := bounds_i16 (hn j k); omega) h (by have := bounds_u32 hb; omega) hk fun y hy => by have := bounds_i64 (hw y hy); omega
end Go.Proofs.Ytbejjddkndcldaa
