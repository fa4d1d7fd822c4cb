/- The statement of what a turn breaks and makes: the walk. -/
import Derived.Test.YtbejjddkndcldaaSt14
import Derived.Test.YtbejjddkndcldaaTrnMath14
namespace Go.Proofs.Ytbejjddkndcldaa
open Go.RowKit
set_option linter.unusedVariables false
set_option linter.unusedSimpArgs false

set_option maxRecDepth 100000 in
set_option maxHeartbeats 8000000 in
theorem breaks14_any (v : Nat) (nss : List (List Int)) (A : Option Addr) (c : Nat) (bits : Int) (uv : Nat) (w : World) (hv : v ≤ 255)
    (hx : nss.length ≤ 140737488355328) (hl : ∀ j, (nss.getD j []).length ≤ 140737488355328) (hn : ∀ j k, -32768 ≤ (nss.getD j []).getD k 0 ∧ (nss.getD j []).getD k 0 ≤ 32767) (h : KRows .i16 w w.heap.size A nss)
    (hbits : 0 ≤ bits ∧ bits < 4294967296) (huv : uv ≤ 255) :
    Calls Try.prog 6 #[.agg #[.int .u8 v, .slice A nss.length c], .int .u32 bits, .int .u8 (uv : Nat)] w fun e w' => e = .returned (.bool true) ∧ Below w.heap.size w w' := by
  have H := Lib.hid h
  have HL := Lib.hid hl
  have HN := Lib.hid hn
  clear h hl hn
  go_enter Try.func6, Try.ntmps6
  go_wp2_with fail
  obtain ⟨w1, hw1⟩ : ∃ w1, w1 = w.alloc (Obj.cells #[Value.int IntKind.u8 v, Value.slice A nss.length c] 24) := ⟨_, rfl⟩
  have HR1 := Lib.hid (show KRows .i16 w1 w.heap.size A nss by rw [hw1]; exact H.out.alloc (Nat.le_refl _) _)
  have HB1 := Lib.hid (show Below w.heap.size w w1 by rw [hw1]; exact (Below.refl _ _).alloc (Nat.le_refl _) _)
  have HK1 := Lib.hid (show Blk w1 w.heap.size 24 #[Value.int IntKind.u8 v, Value.slice A nss.length c] by rw [hw1]; exact Blk.new w _ _)
  rw [← hw1]
  clear hw1
  refine (fit_any14 w1).mono ?_
  rintro e w2 ⟨rfl, hb2⟩
  have HR2 := Lib.hid (HR1.out.below (hb2.mono HB1.out.size))
  have HB2 := Lib.hid (HB1.out.trans (hb2.mono HB1.out.size))
  have HK2 := Lib.hid (HK1.out.below hb2 HK1.out.lt)
  clear hb2 HR1 HB1 HK1
  have k0 := HK2.out.cell 0
  have k1 := HK2.out.cell 1
  simp at k0 k1
  go_wp2_with fail
  refine (light_any v nss _ A c 40 w2 (by omega) hx HL.out HR2.out HB2.out.size).mono ?_
  rintro e w3 ⟨rfl, hb3⟩
  have HR3 := Lib.hid (HR2.out.below (hb3.mono HB2.out.size))
  have HB3 := Lib.hid (HB2.out.trans (hb3.mono HB2.out.size))
  have HK3 := Lib.hid (HK2.out.below hb3 HK2.out.lt)
  clear hb3 HR2 HB2 HK2 k0 k1
  have k0 := HK3.out.cell 0
  have k1 := HK3.out.cell 1
  simp at k0 k1
  rcases hlt : light nss 40 with _ | _
  · go_wp2
    go_ret
    exact ⟨rfl, HB3.out⟩
  · have hls := light_rows hlt
    have hF : v % (12 + 1) ≤ 12 := by omega
    have hFM := lightForm_rawW14 (F := v % (12 + 1)) (W := 6) (by omega) hlt
    clear hlt
    go_wp2_with fail
    refine (formula_any v nss _ A c 12 6 w3 hv (by omega) (by omega) hls.1 hls.2 HN.out HR3.out HB3.out.size).mono ?_
    obtain ⟨F, hFF⟩ : ∃ F, F = v % (12 + 1) := ⟨_, rfl⟩
    rw [← hFF] at hF hFM ⊢
    clear hFF
    obtain ⟨xss, hxs⟩ : ∃ xss, xss = rawForm F 6 nss := ⟨_, rfl⟩
    rw [← hxs] at hFM ⊢
    have HFM := Lib.hid hFM
    have hx1 := hFM.few
    rintro e w4 ⟨A4, c4, vs4, rfl, hown4, hlist4, hb4⟩
    have HB4 := Lib.hid (HB3.out.trans (hb4.mono HB3.out.size))
    have HRO4 := Lib.hid (hlist4.rows hown4)
    clear hFM hown4 hlist4 hb4 k0 k1 hxs HR3 HB3 HK3 hls
    go_wp2_with fail
    obtain ⟨w5, hw5⟩ : ∃ w5, w5 = w4.alloc (Obj.cells #[Value.int IntKind.i64 F, Value.slice A4 xss.length c4] 30) := ⟨_, rfl⟩
    have HFB5 := Lib.hid (show Blk w5 w4.heap.size 30 #[Value.int IntKind.i64 F, Value.slice A4 xss.length c4] by rw [hw5]; exact Blk.new w4 _ _)
    have HRO5 := Lib.hid (show Rows w5 w4.heap.size A4 xss by rw [hw5]; exact HRO4.out.alloc (Nat.le_refl _) _)
    have HB5 := Lib.hid (show Below w.heap.size w w5 by rw [hw5]; exact HB4.out.alloc HB4.out.size _)
    have hs5 : w4.heap.size + 1 ≤ w5.heap.size := by rw [hw5]; simp
    have hs4 := HB4.out.size
    rw [← hw5]
    clear hw5 HRO4 HB4
    have f0 := HFB5.out.cell 0
    simp at f0
    go_wp2_with fail
    refine (start_any F bits w5 (by omega) hbits).mono ?_
    rintro e w7 ⟨rfl, hk7, hb7⟩
    have HKA7 := Lib.hid hk7
    have HB57 := Lib.hid hb7
    have HFB7 := Lib.hid (HFB5.out.below hb7 HFB5.out.lt)
    have HRO7 := Lib.hid (HRO5.out.below (hb7.mono (by omega)))
    have hka := hk7.lt
    have hs7 := hb7.size
    clear hk7 hb7 f0
    have f0 := HFB7.out.cell 0
    have f1 := HFB7.out.cell 1
    simp at f0 f1
    have hzl := startZ_len F bits
    have hnew := st_new F xss (startZ F bits) w7.heap.size A4 (some ⟨w5.heap.size, 0, none⟩) c4 F w7 (by omega) HFM.out (Rows.more HRO7.out (by omega)) (by have := HKA7.out.bools; exact this) (Nat.le_refl _) hzl
    rw [hzl] at hnew
    go_wp2_with fail
    refine hnew.mono ?_
    rintro e w8 ⟨ρ8, g, s8, rfl, hst, hb8⟩
    have HST8 := Lib.hid hst
    have HB58 := Lib.hid (HB57.out.trans (hb8.mono HB57.out.size))
    have HKA8 := Lib.hid (Blk.below HKA7.out hb8 hka)
    have HFB8 := Lib.hid (HFB7.out.below hb8 HFB7.out.lt)
    clear hst hb8 hnew HKA7 HB57 HFB7 HRO7 f0 f1
    have f0 := HFB8.out.cell 0
    simp at f0
    rcases Nat.eq_zero_or_pos F with hF0 | hF0
    · have hfl := st_flip HST8.out (by show (0 : Nat) ≤ 1000000; omega) 1 (by omega)
      rw [hzl, hF0, show isVar 0 1 = false from rfl] at hfl
      have HFL := Lib.hid hfl
      have hFI : (F : Int) = 0 := by omega
      clear hfl
      go_wp2_with fail
      refine HFL.out.mono ?_
      rintro e w9 ⟨rfl, ρ', s', b', hst', hs', _, _⟩
      have HBE := Lib.hid (HB5.out.trans ((HB58.out.trans ((HST8.out.frame hs').mono (by omega))).mono HB5.out.size))
      clear hst' hs' HFL
      go_wp2
      go_ret
      exact ⟨rfl, HBE.out⟩
    · have hFI : ((F : Int) == 0) = false := by simp; omega
      obtain ⟨x, hx⟩ : ∃ x : Nat, (uv : Int) % (F : Int) = (x : Int) := ⟨uv % F, by omega⟩
      have hxF : x < F := by
        have := Int.emod_lt_of_pos (uv : Int) (show (0 : Int) < (F : Int) by omega)
        omega
      have hF1 : (F : Int) ≠ 0 := by omega
      have hxI : 1 + (x : Int) = (x : Int) + 1 := by omega
      have hun := st_unsat HST8.out
      have hbr := st_break HST8.out ((x : Int) + 1) (by omega)
      have hmk := st_make HST8.out ((x : Int) + 1) (by omega)
      have hfl := st_flip HST8.out (by show (0 : Nat) ≤ 1000000; omega) ((x : Int) + 1) (by omega)
      rw [hzl, show breakI s8 F ((x : Int) + 1) = brk s8.hss (x + 1) from by unfold breakI; rw [if_pos (by omega), show ((x : Int) + 1).toNat = x + 1 by omega]] at hbr
      rw [show makeI s8 (startZ F bits) ((x : Int) + 1) = makeOf s8 (startZ F bits) (x + 1) from by unfold makeI; rw [if_pos (by omega), show ((x : Int) + 1).toNat = x + 1 by omega]] at hmk
      have hti : turnI (startZ F bits) ((x : Int) + 1) = turn (startZ F bits) (x + 1) := by unfold turnI; rw [if_pos (by omega), show ((x : Int) + 1).toNat = x + 1 by omega]
      rw [hzl, hti, show isVar F ((x : Int) + 1) = true from decide_eq_true (by omega)] at hfl
      have HSZ := Lib.hid (And.intro hzl hti)
      have hrl := HST8.out.good.rlen
      have hfw := HST8.out.good.few
      have hbl := Nat.le_trans (brk_le s8.hss (x + 1)) (Nat.le_of_eq HST8.out.good.len)
      have hml : makeOf s8 (startZ F bits) (x + 1) ≤ 100 := Nat.le_trans (List.length_filter_le _ _) (Nat.le_trans (hav_len _ _) hfw)
      obtain ⟨R, hR⟩ : ∃ R, s8.row.length = R := ⟨_, rfl⟩
      obtain ⟨bq, hbq⟩ : ∃ bq, brk s8.hss (x + 1) = bq := ⟨_, rfl⟩
      obtain ⟨mq, hmq⟩ : ∃ mq, makeOf s8 (startZ F bits) (x + 1) = mq := ⟨_, rfl⟩
      have HQ := Lib.hid (And.intro hR (And.intro hbq hmq))
      rw [hR] at hun hrl
      rw [hbq] at hbr hbl
      rw [hmq] at hmk hml
      have hRb : R ≤ 100 := by omega
      have hbb : bq ≤ 100 := by omega
      have HUN := Lib.hid hun
      have HBRK := Lib.hid hbr
      have HMK := Lib.hid hmk
      have HFL := Lib.hid hfl
      clear hun hbr hmk hfl hR hbq hmq hti hzl hrl hbl hfw
      go_wp2_with fail
      refine HUN.out.mono ?_
      rintro e w9 ⟨rfl, rfl⟩
      go_wp2_with fail
      with_reducible refine HBRK.out.mono ?_
      rintro e w9 ⟨rfl, rfl⟩
      go_wp2_with fail
      with_reducible refine HMK.out.mono ?_
      rintro e w9 ⟨rfl, k9, hk9⟩
      have HFL9 := Lib.hid (st_flip (HST8.out.below (by rw [hk9]; exact below_drewN (Below.refl _ _) k9) : St14 w9 w7.heap.size ρ8 g (startZ F bits) (normForm xss) s8 _) (by show (0 : Nat) ≤ 1000000; omega) ((x : Int) + 1) (by omega))
      rw [HSZ.out.1, HSZ.out.2, show isVar F ((x : Int) + 1) = true from decide_eq_true (by omega)] at HFL9
      have HB59 := Lib.hid (show Below w5.heap.size w5 w9 by rw [hk9]; exact below_drewN HB58.out k9)
      have HKA9 := Lib.hid (show BlkB w9 w5.heap.size 4 (startZ F bits) by rw [hk9]; exact HKA8.out)
      have HST9 := Lib.hid (show St14 w9 w7.heap.size ρ8 g (startZ F bits) (normForm xss) s8 _ by rw [hk9]; exact HST8.out.drewN k9)
      clear hk9 HUN HBRK HMK HFL f0
      go_wp2_with fail
      with_reducible refine HFL9.out.mono ?_
      rintro e w10 ⟨rfl, ρ1, s1, b1, hst1, hs1, hyes, _⟩
      have HS1 := Lib.hid hst1
      have hfr := HST9.out.frame hs1
      have HB510 := Lib.hid (HB59.out.trans (hfr.mono (by omega)))
      have HKA10 := Lib.hid (show BlkB w10 w5.heap.size 4 (startZ F bits) from Blk.below HKA9.out hfr hka)
      have HBF := Lib.hid (hyes (by first | rfl | trivial)).1
      have hcnt := turn_counts HST9.out.good HST9.out.at_ (t := s1) (by have := HS1.out.good; rw [turn_len] at this; exact this) HS1.out.at_ (HS1.out.cls.trans HST9.out.cls.symm) (show 1 ≤ x + 1 by omega) (show x + 1 ≤ (startZ F bits).length by rw [HSZ.out.1]; omega) (fun i y => by rw [HST9.out.cls]; exact norm_notaut i y)
      have em : ∀ (t : LS) (z : List Bool), makeOf' t z (x + 1) = makeOf t z (x + 1) := fun t z => mkTo_full t z (x + 1)
      rw [em, em, HQ.out.1, HQ.out.2.1, HQ.out.2.2] at hcnt
      have htl : (turn (startZ F bits) (x + 1)).length = F := by rw [turn_len, HSZ.out.1]
      have hun1 := st_unsat HS1.out
      have hbr1 := st_break HS1.out ((x : Int) + 1) (by omega)
      have hmk1 := st_make HS1.out ((x : Int) + 1) (by omega)
      rw [show breakI s1 (turn (startZ F bits) (x + 1)).length ((x : Int) + 1) = brk s1.hss (x + 1) from by unfold breakI; rw [if_pos (by rw [htl]; omega), show ((x : Int) + 1).toNat = x + 1 by omega], hcnt.2.1] at hbr1
      rw [show makeI s1 (turn (startZ F bits) (x + 1)) ((x : Int) + 1) = makeOf s1 (turn (startZ F bits) (x + 1)) (x + 1) from by unfold makeI; rw [if_pos (by rw [htl]; omega), show ((x : Int) + 1).toNat = x + 1 by omega], hcnt.2.2] at hmk1
      obtain ⟨R1, hR1⟩ : ∃ R1, s1.row.length = R1 := ⟨_, rfl⟩
      rw [hR1] at hun1 hcnt
      have hne : ((R1 : Int) != (R : Int) + (bq : Int) - (mq : Int)) = false := by
        have := hcnt.1
        simp
        omega
      have hR1b : R1 ≤ 1000 := by omega
      have HUN1 := Lib.hid hun1
      have HBR1 := Lib.hid hbr1
      have HMK1 := Lib.hid hmk1
      have HTL := Lib.hid htl
      clear hst1 hs1 hyes hfr HFL9 hcnt em hun1 hbr1 hmk1 hR1 htl
      go_wp2_with fail
      refine HUN1.out.mono ?_
      rintro e w11 ⟨rfl, rfl⟩
      go_wp2_with fail
      with_reducible refine HBR1.out.mono ?_
      rintro e w11 ⟨rfl, rfl⟩
      go_wp2_with fail
      with_reducible refine HMK1.out.mono ?_
      rintro e w11 ⟨rfl, k11, hk11⟩
      have HS11 := Lib.hid (show St14 w11 w7.heap.size ρ1 g (turn (startZ F bits) (x + 1)) (normForm xss) s1 b1 by rw [hk11]; exact HS1.out.drewN k11)
      have HB511 := Lib.hid (show Below w5.heap.size w5 w11 by rw [hk11]; exact below_drewN HB510.out k11)
      have HKA11 := Lib.hid (show BlkB w11 w5.heap.size 4 (startZ F bits) by rw [hk11]; exact HKA10.out)
      have hfl2 := st_flip HS11.out (by rw [HBF.out]; show (0 : Nat) + 1 ≤ 1000000; omega) ((x : Int) + 1) (by omega)
      have htt : turnI (turn (startZ F bits) (x + 1)) ((x : Int) + 1) = startZ F bits := by
        unfold turnI
        rw [if_pos (by rw [HTL.out]; omega), show ((x : Int) + 1).toNat = x + 1 by omega, turn_turn (by omega) (by rw [HSZ.out.1]; omega)]
      rw [htt, HTL.out, show isVar F ((x : Int) + 1) = true from decide_eq_true (by omega)] at hfl2
      have HFL2 := Lib.hid hfl2
      clear hk11 HUN1 HBR1 HMK1 hfl2 htt hne
      go_wp2_with fail
      with_reducible refine HFL2.out.mono ?_
      rintro e w12 ⟨rfl, ρ2, s2, b2, hst2, hs2, _, _⟩
      have HS2 := Lib.hid hst2
      have hfr := HS11.out.frame hs2
      have HB512 := Lib.hid (HB511.out.trans (hfr.mono (by omega)))
      have HKA12 := Lib.hid (show BlkB w12 w5.heap.size 4 (startZ F bits) from Blk.below HKA11.out hfr hka)
      have HR2 : Hid (s2.row.length = R) := Lib.hid (by rw [← HQ.out.1]; exact row_same HST9.out.good HST9.out.at_ HS2.out.good HS2.out.at_ (HS2.out.cls.trans HST9.out.cls.symm))
      have fr := HFB5.out.below HB512.out HFB5.out.lt
      have f0 := fr.cell 0
      have f1 := fr.cell 1
      simp at f0 f1
      have hfm := formula_norm_any F xss w5.heap.size A4 c4 w12 (by omega) (HFM.out.lit (by omega)) ((Rows.more HRO5.out (by omega) : Rows w5 w5.heap.size A4 xss).below HB512.out) HB512.out.size
      have HFN := Lib.hid hfm
      obtain ⟨eb, heb⟩ : ∃ eb, ((normForm xss).any fun y => y.isEmpty) = eb := ⟨_, rfl⟩
      have HEB := Lib.hid heb
      clear hst2 hs2 hfr HFL2 fr hfm heb
      go_wp2_with fail
      refine HFN.out.mono ?_
      rintro e w13 ⟨Al, cl, vl, rfl, hown, hlist, hb13⟩
      rw [HEB.out]
      have HS3 := Lib.hid (HS2.out.below hb13)
      have HRL := Lib.hid (hlist.rows hown)
      have HKA13 := Lib.hid (show BlkB w13 w5.heap.size 4 (startZ F bits) from Blk.below HKA12.out hb13 HKA12.out.lt)
      have HBE := Lib.hid (HB5.out.trans ((HB512.out.trans (hb13.mono HB512.out.size)).mono HB5.out.size))
      clear hown hlist hb13 HFN f0 f1
      have hun2 := st_unsat HS3.out
      rw [HR2.out] at hun2
      have hrg := st_right HS3.out w13.heap.size w13.heap.size Al (some ⟨w5.heap.size, 0, none⟩) cl F HRL.out (BlkB.bools HKA13.out) (Nat.le_refl _) (Nat.le_refl _)
      rw [HSZ.out.1] at hrg
      obtain ⟨yl, hyl⟩ : ∃ yl, (normForm xss).length = yl := ⟨_, rfl⟩
      rw [hyl] at hrg ⊢
      have HUN2 := Lib.hid hun2
      have HRG := Lib.hid hrg
      clear hun2 hrg hyl
      go_wp2_with fail
      refine HUN2.out.mono ?_
      rintro e w14 ⟨rfl, rfl⟩
      go_wp2_with fail
      with_reducible refine HRG.out.mono ?_
      rintro e w14 ⟨rfl, hb14⟩
      have HBE2 := Lib.hid (HBE.out.trans (hb14.mono HBE.out.size))
      clear hb14
      go_wp2
      go_ret
      exact ⟨rfl, HBE2.out⟩

theorem breaks14_raw (u : Int) (nss : List (List Int)) (A : Option Addr) (c : Nat) (bits a : Int) (w : World) (hu : (Lit.int .u8 u).wf = true)
    (hx : nss.length ≤ 5864062014805) (m : ∀ j, (nss.getD j []).length * 2 ≤ 140737488351232) (hn : ∀ j i, (Lit.int .i16 ((nss.getD j []).getD i 0)).wf = true) (h : KRows .i16 w w.heap.size A nss) (hb : (Lit.int .u32 bits).wf = true) (ha : (Lit.int .u8 a).wf = true) :
    Calls Try.prog 6 #[.agg #[.int .u8 u, .slice A nss.length c], .int .u32 bits, .int .u8 a] w fun e w' => e = .returned (.bool true) ∧ Below w.heap.size w w' := by
  obtain ⟨v, rfl, hv⟩ := u8_nat14 hu
  obtain ⟨x, rfl, hx2⟩ := u8_nat14 ha
  exact breaks14_any v nss A c bits x w hv (by omega) (fun j => by have := m j; omega) (fun j k => by have := bounds_i16 (hn j k); omega) h (by have := bounds_u32 hb; omega) hx2
end Go.Proofs.Ytbejjddkndcldaa
