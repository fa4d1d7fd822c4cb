/- The statement on phases. -/
import Derived.Test.YtihljekdipengaaFit12
import Derived.Test.YtihljekdipengaaTrl7
import Derived.Test.YtihljekdipengaaDeeds12
import Derived.Deep.LoopGhost
import Derived.Deep.DeepCutAuto
namespace Go.Proofs.Ytihljekdipengaa
open Go.RowKit
set_option linter.unusedVariables false
set_option linter.unusedSimpArgs false

/-- what stands on the trail has its sign for its phase -/
def PhOk (t : TS) : Prop := ∀ r ∈ t.recs, t.ph[r.l.natAbs - 1]? = some (decide (0 < r.l))
theorem PhOk.push {t : TS} (h : PhOk t) (hl : ∀ r ∈ t.recs, r.l ≠ 0) {l : Int} (h0 : l ≠ 0 ∧ l.natAbs ≤ t.ph.length) (hf : find t.recs l = none) (rs : Int) : PhOk (t.push l rs) := by
  intro r hr
  simp only [TS.push, List.mem_append, List.mem_singleton] at hr ⊢
  rcases hr with hr | rfl
  · have h1 := find_none.1 hf r hr
    rw [Rec.of_abs] at h1
    have := hl r hr
    rw [List.getElem?_set_ne (by omega)]
    exact h r hr
  · show (t.ph.set (l.natAbs - 1) (decide (0 < l)))[l.natAbs - 1]? = _
    rw [List.getElem?_set_self (by omega)]
theorem PhOk.put {t : TS} (h : PhOk t) (hg : t.Good) (l rs : Int) : PhOk (t.put l rs) := by
  unfold TS.put
  split
  · rename_i ht
    obtain ⟨h1, h2⟩ := (TS.takes_iff hg.few).1 ht
    exact h.push (fun r hr => (hg.lit r hr).1) h1 h2 rs
  · exact h
theorem PhOk.dec {t : TS} (h : PhOk t) (hg : t.Good) (l : Int) : PhOk (t.dec l) := by
  unfold TS.dec
  split
  · rename_i ht
    obtain ⟨h1, h2⟩ := (TS.takes_iff hg.few).1 ht
    exact PhOk.push (t := t.up) h (fun r hr => (hg.lit r hr).1) h1 h2 _
  · exact h
theorem asg_same {t : TS} (h : PhOk t) : t.asg = t.ph := by
  have : ∀ rs : List Rec, (∀ r ∈ rs, r ∈ t.recs) → asgK rs t.ph = t.ph := by
    intro rs
    induction rs with
    | nil => intro _; rfl
    | cons r rs ih =>
      intro hr
      show asgK rs (t.ph.set (r.l.natAbs - 1) (decide (0 < r.l))) = t.ph
      have h1 := h r (hr r (by simp))
      have e : t.ph.set (r.l.natAbs - 1) (decide (0 < r.l)) = t.ph := by
        apply List.ext_getElem?
        intro i
        by_cases hi : r.l.natAbs - 1 = i
        · subst hi
          rw [h1, List.getElem?_set_self (List.getElem?_eq_some_iff.1 h1).1]
        · rw [List.getElem?_set_ne hi]
      rw [e]
      exact ih fun x hx => hr x (by simp [hx])
  exact this t.recs fun _ h => h
theorem phT_at (ph : List Bool) (k : Nat) : phT ph ((k : Int) + 1) = ph.getD k false := by
  unfold phT
  rw [show ((k : Int) + 1).toNat - 1 = k by omega]
  simp; omega
theorem Tn.own {ts : List TypeId} {base P b n : Nat} {w w' : World} {e : TypeId} {v : Value} {xs : List Value} (h : Tn ts base P w w') (ho : w.ownsRow b e 1 v n xs) (h1 : e ∉ ts) (h2 : v.ownBlock ≠ some P) : w'.ownsRow b e 1 v n xs := by
  refine ⟨ho.1, ?_⟩
  rcases ho.2 with hn | ⟨q, cap, cur, rfl, hq, hh, rest⟩
  · exact .inl hn
  · exact .inr ⟨q, cap, cur, rfl, hq, h.blk (show Blk w q e cur from hh) h1 (fun e => h2 (by rw [e]; rfl)), rest⟩
/-- the greater of a number and its opposite -/
def absV (x : Int) : Int := if x = -9223372036854775808 then x else if 0 < x then x else -x
theorem absV_pos {x : Int} (h : 0 < x) : absV x = x := by unfold absV; split <;> first | rfl | (rw [if_pos h])
theorem absV_neg {x : Int} (h : ¬ 0 < x) (h2 : x ≠ -9223372036854775808) : absV x = -x := by unfold absV; rw [if_neg h2, if_neg h]

theorem below_drewE12 {B : Nat} {a w w' : World} (h : Below B a w) (hd : ∃ n, w' = w.drewN n) : Below B a w' := by
  obtain ⟨n, rfl⟩ := hd
  exact below_drewN h n

set_option maxRecDepth 100000 in
set_option maxHeartbeats 8000000 in
theorem phases_in (kk : Nat) (hkk : kk ≤ 255) (ds : List DeedV) (A0 : Option Addr) (c0 : Nat) (xs : List Int) (A2 : Option Addr) (c2 : Nat) (w : World) (hn : ds.length ≤ 100) (hm : xs.length ≤ 60) (hok : ∀ d ∈ ds, d.ok) (hwx : ∀ x ∈ xs, -9223372036854775808 ≤ x ∧ x ≤ 9223372036854775807) (h : Deeds w w.heap.size A0 ds) (hx : Ints w w.heap.size A2 xs) :
    Calls Try.prog 6 #[.int .u8 kk, .slice A0 ds.length c0, .slice A2 xs.length c2] w fun e w' => e = .returned (.bool true) ∧ Below w.heap.size w w' := by
  have H := Lib.hid h
  have HX := Lib.hid hx
  have OK := Lib.hid hok
  have WX := Lib.hid hwx
  obtain ⟨n, hn12⟩ : ∃ n, kk % 12 = n := ⟨_, rfl⟩
  have e1 : (kk : Int) % 12 = (n : Int) := by omega
  have e2 : Int.tmod (kk : Int) 12 = (n : Int) := by rw [Int.tmod_eq_emod_of_nonneg (by omega)]; exact e1
  have hn11 : n ≤ 11 := by omega
  have e3 : IntKind.u8.wrap (n : Int) = (n : Int) := by simp [IntKind.wrap, IntKind.signed, IntKind.bits]; omega
  have HNEW := Lib.hid (fun w => new_any n (by omega) w)
  clear h hx hok hwx hn12
  go_enter Try.func6, Try.ntmps6
  go_wp2_with fail
  refine (fit_any w).mono ?_
  rintro e w1 ⟨rfl, hb⟩
  have HB1 := Lib.hid hb
  clear hb
  go_wp2_with fail
  refine (HNEW.out w1).mono ?_
  rintro e w2 ⟨g, P, rfl, ht, hb⟩
  have HS1 := Lib.hid HB1.out.size
  have HT2 := Lib.hid ht
  have HB2 := Lib.hid (HB1.out.trans (hb.mono HS1.out))
  have HS2 := Lib.hid (hb.size)
  clear ht hb
  go_wp2_with fail
  go_loopg [34] (ds.length + 1) (fun gk i wr => ∃ (k : Nat) (t : TS), k ≤ ds.length ∧ gk = ds.length - k + 1 ∧ i = .int .i64 k ∧ Hid (Tr wr w1.heap.size g P t) ∧ Hid (Below w.heap.size w wr) ∧ Hid (w1.heap.size ≤ wr.heap.size) ∧ Hid (t.ph.length = n) ∧ Hid (PhOk t))
  case atStart => exact ⟨0, _, by omega, by omega, rfl, HT2, HB2, HS2, Lib.hid (by simp [TS.fresh]), Lib.hid fun r hr => by simp [TS.fresh] at hr⟩
  case round =>
    obtain ⟨k, t, hk, rfl, rfl, HT, HB, HS, HL, HP⟩ := hrel
    by_cases hlt : k < ds.length
    · obtain ⟨b2, off, rfl, _, d, hd, d0, d1, d2⟩ := (H.out.below HB.out).at_ hlt
      have hdo : d.ok := by rw [hd, List.getD, List.getElem?_eq_getElem hlt]; exact OK.out _ (List.getElem_mem hlt)
      obtain ⟨o1, o2, o3⟩ := hdo
      have low := (u8_low o1).1
      obtain ⟨wd, hwd⟩ : ∃ wd, wd = wr.alloc (.cells #[.int .u8 d.kd, .int .i64 d.l, .int .i64 d.r] 32) := ⟨_, rfl⟩
      have hbd : Below wr.heap.size wr wd := by rw [hwd]; exact (Below.refl _ _).alloc (Nat.le_refl _) _
      have HTd := Lib.hid (HT.out.below hbd)
      have HBd := Lib.hid (HB.out.trans (hbd.mono HB.out.size))
      have HSd := Lib.hid (Nat.le_trans HS.out hbd.size)
      have HWD := Lib.hid hwd
      clear hd hwd hbd
      by_cases h2 : d.kd % 2 = 0
      · have low2 : bits BinOp.and IntKind.u8 (d.kd : Int) 1 = 0 := by rw [low, h2]; rfl
        clear low h2
        go_wp2_with fail
        rw [← HWD.out]
        refine (put_any HTd.out HSd.out d.l d.r o2).mono ?_
        rintro e w3 ⟨rfl, ht, hb⟩
        have HT3 := Lib.hid ht
        have HB3 := Lib.hid (HBd.out.trans (hb.low.mono (Nat.le_trans HB1.out.size (Nat.le_refl _))))
        have HS3 := Lib.hid (hb.sz HSd.out)
        clear ht hb
        go_wp2_with fail
        go_roundg (ds.length - k)
        case measure => omega
        case rel => exact ⟨k + 1, _, by omega, by omega, by go_num, HT3, HB3, HS3, Lib.hid (by rw [TS.put_ph]; exact HL.out), Lib.hid (HP.out.put HT.out.good _ _)⟩
      · have low2 : bits BinOp.and IntKind.u8 (d.kd : Int) 1 = 1 := by rw [low, show d.kd % 2 = 1 by omega]; rfl
        clear low h2
        go_wp2_with fail
        rw [← HWD.out]
        refine (decide_any HTd.out HSd.out d.l o2).mono ?_
        rintro e w3 ⟨rfl, ht, hb⟩
        have HT3 := Lib.hid ht
        have HB3 := Lib.hid (HBd.out.trans (hb.low.mono (Nat.le_trans HB1.out.size (Nat.le_refl _))))
        have HS3 := Lib.hid (hb.sz HSd.out)
        clear ht hb
        go_wp2_with fail
        go_roundg (ds.length - k)
        case measure => omega
        case rel => exact ⟨k + 1, _, by omega, by omega, by go_num, HT3, HB3, HS3, Lib.hid (by rw [TS.dec_ph]; exact HL.out), Lib.hid (HP.out.dec HT.out.good _)⟩
    · obtain ⟨wz, rfl⟩ : ∃ wz : World, wz = wr := ⟨_, rfl⟩
      have HSZ := Lib.hid HS.out
      go_wp2_with fail
      refine (assign_any HT.out HS.out).mono ?_
      rintro e w5 ⟨A5, c5, rfl, ho, hb⟩
      rw [asg_same HP.out] at ho
      obtain ⟨zs, hzs⟩ : ∃ zs, t.ph = zs := ⟨_, rfl⟩
      have hzl : zs.length = n := by rw [← hzs]; exact HL.out
      rw [hzs, hzl] at ho
      rw [hzs, hzl]
      have HT5 := Lib.hid (HT.out.below hb)
      have HB5 := Lib.hid (HB.out.trans (hb.mono HB.out.size))
      have HS5 := Lib.hid (Nat.le_trans HS.out hb.size)
      have HO5 := Lib.hid ho
      have HPN := Lib.hid (show (Value.slice A5 n c5).ownBlock ≠ some P from fun e => by
        have h1 := (ho.lt P e).1
        have h2 := Blk.lt HT.out.phs
        omega)
      have HZS := Lib.hid hzs
      have HZL := Lib.hid hzl
      clear ho hb hzs hzl
      go_wp2_with fail
      refine (back_any HT5.out HS5.out 0).mono ?_
      rintro e w6 ⟨A6, c6, rfl, -, ht, hb⟩
      obtain ⟨t6, ht6⟩ : ∃ t6, t.back 0 = t6 := ⟨_, rfl⟩
      have hp6 : t6.ph = zs := by rw [← ht6, TS.back_ph]; exact HZS.out
      rw [ht6] at ht
      have HT6 := Lib.hid ht
      have HO6 := Lib.hid (hb.own HO5.out (by decide) HPN.out)
      have HB6 := Lib.hid (HB5.out.trans (hb.low.mono HS1.out))
      have HS6 := Lib.hid (hb.sz HS5.out)
      have HP6 := Lib.hid hp6
      clear ht hb ht6 hp6
      go_wp2_with fail
      go_loopg [12] (n + 1) (fun gk i wr => ∃ (k : Nat) (m : Nat), k ≤ n ∧ gk = n - k + 1 ∧ i = .int .i64 ((k : Int) + 1) ∧ wr = w6.drewN m)
      case atStart => exact ⟨0, 0, by omega, by omega, rfl, rfl⟩
      case round =>
        obtain ⟨k, m, hk, rfl, rfl, rfl⟩ := hrel
        by_cases hlt2 : k < n
        · have hpv : phT t6.ph ((k : Int) + 1) = zs.getD k false := by rw [phT_at, HP6.out]
          have HPH := Lib.hid (fun q => hpv ▸ phase_any (HT6.out.drewN q) ((k : Int) + 1))
          obtain ⟨L, rfl, hL1, hL2⟩ := own_addr HO6.out (by omega)
          have q1 := World.ownsRow.cellAt HO6.out k (by omega)
          have ez : (zs.map Value.bool)[k]? = some (.bool (zs.getD k false)) := by
            have : k < zs.length := by have := HZL.out; omega
            rw [List.getElem?_map, List.getElem?_eq_getElem this]
            simp [List.getD, this]
          rw [ez] at q1
          obtain ⟨z, hz⟩ : ∃ z, zs.getD k false = z := ⟨_, rfl⟩
          rw [hz] at q1 HPH
          have hk1 : (k : Int) + 1 ≤ (n : Int) := by omega
          have hkn : (k : Int) < (n : Int) := by omega
          have hwk : IntKind.i64.wrap (k : Int) = (k : Int) := i64_ok (by omega)
          clear ez hz hpv
          go_wp2_with fail
          go_quiet ((go_at_call 23; first | exact Calls.quiet_of (HPH.out _) | exact quiet_add_of (HPH.out _)))
          go_wp2_with fail
          go_roundg (n - k)
          case measure => omega
          case rel => exact ⟨k + 1, _, by omega, by omega, by go_num, rfl⟩
        · obtain rfl : n = k := by omega
          obtain ⟨w7, hw7⟩ : ∃ w7, w6.drewN m = w7 := ⟨_, rfl⟩
          have HT7 := Lib.hid (hw7 ▸ HT6.out.drewN m)
          have HO7 : Hid (w7.ownsRow _ _ _ _ _ _) := Lib.hid (show w7.ownsRow wz.heap.size 4 1 (.slice A5 n c5) n (zs.map Value.bool) by rw [← hw7]; exact HO6.out)
          have HB7 := Lib.hid (show Below w.heap.size w w7 by rw [← hw7]; exact below_drewN HB6.out m)
          have HS7 := Lib.hid (show w1.heap.size ≤ w7.heap.size by rw [← hw7]; exact HS6.out)
          rw [hw7]
          clear hw7
          go_wp2_with fail
          go_loopg [73] (xs.length + 1) (fun gk i wr => ∃ (k : Nat) (t : TS), k ≤ xs.length ∧ gk = xs.length - k + 1 ∧ i = .int .i64 k ∧ Hid (Tr wr w1.heap.size g P t) ∧ Hid (wr.ownsRow wz.heap.size 4 1 (.slice A5 n c5) n (t.ph.map Value.bool)) ∧ Hid (Below w.heap.size w wr) ∧ Hid (w1.heap.size ≤ wr.heap.size) ∧ Hid (t.ph.length = n))
          case atStart => exact ⟨0, t6, by omega, by omega, rfl, HT7, by rw [HP6.out]; exact HO7, HB7, HS7, Lib.hid (by rw [HP6.out]; exact HZL.out)⟩
          case round =>
            obtain ⟨k, t, hk, rfl, rfl, HT, HO, HB, HS, HL⟩ := hrel
            by_cases hlt3 : k < xs.length
            · obtain ⟨bx, ox, rfl, _, hxc⟩ := Cells.at_ (Cells.below HX.out HB.out) hlt3
              obtain ⟨x, hx⟩ : ∃ x, xs.getD k 0 = x := ⟨_, rfl⟩
              have hxm : x ∈ xs := by rw [← hx, List.getD, List.getElem?_eq_getElem hlt3]; exact List.getElem_mem hlt3
              have hxb := WX.out x hxm
              rw [hx] at hxc
              clear hx hxm
              go_upto_region 24 with fail
              go_cut [15] (fun v wx => v = .int .i64 (absV x) ∧ wx = wr)
              case first =>
                by_cases hm1 : x = -9223372036854775808
                · subst hm1
                  have hwm : IntKind.i64.wrap 9223372036854775808 = -9223372036854775808 := by decide
                  go_wp2_with fail
                  go_meet
                  exact ⟨by rfl, rfl⟩
                · by_cases hp : 0 < x
                  · have HE := Lib.hid (absV_pos hp)
                    have h2 : -x < x := by omega
                    have h3 : ¬ x < -x := by omega
                    go_wp2_with fail
                    go_meet
                    exact ⟨by rw [HE.out], rfl⟩
                  · have HE := Lib.hid (absV_neg hp hm1)
                    go_wp2_with fail
                    all_goals go_meet
                    all_goals exact ⟨by rw [HE.out] <;> (try (congr 1; omega)), rfl⟩
              case rest =>
                obtain ⟨rfl, rfl⟩ := hcut
                by_cases hv : 1 ≤ absV x ∧ absV x ≤ n
                · have hiv : t.isVar (absV x) = true := TS.isVar_iff.2 (by rw [HL.out]; exact hv)
                  obtain ⟨j, hj⟩ : ∃ j : Nat, absV x = (j : Int) + 1 := ⟨(absV x).toNat - 1, by omega⟩
                  rw [hj] at hv hiv ⊢
                  have hjn : j < n := by omega
                  have hph : (t.setPh ((j : Int) + 1) (decide (0 < x))).ph = t.ph.set j (decide (0 < x)) := by
                    unfold TS.setPh
                    rw [if_pos hiv]
                    show t.ph.set (((j : Int) + 1).toNat - 1) _ = _
                    rw [show ((j : Int) + 1).toNat - 1 = j by omega]
                  have HPH := Lib.hid hph
                  have HSP := Lib.hid (hiv ▸ setphase_any HT.out ((j : Int) + 1) (decide (0 < x)))
                  clear hph hj hv hiv
                  go_wp2_with fail
                  refine HSP.out.mono ?_
                  rintro e w8 ⟨rfl, ht, hb⟩
                  have HT8 := Lib.hid ht
                  have HO8 := Lib.hid (hb.own HO.out (by decide) HPN.out)
                  have HB8 := Lib.hid (HB.out.trans (hb.low.mono HS1.out))
                  have HS8 := Lib.hid (hb.sz HS.out)
                  clear ht hb
                  obtain ⟨L, rfl, hL1, hL2⟩ := own_addr HO8.out (by omega)
                  have q1 := World.ownsRow.cellAt HO8.out j (by omega)
                  have qf := World.ownsRow.frozenAt HO8.out j
                  have ez : (t.ph.map Value.bool)[j]? = some (.bool (t.ph.getD j false)) := by
                    have : j < t.ph.length := by have := HL.out; omega
                    rw [List.getElem?_map, List.getElem?_eq_getElem this]
                    simp [List.getD, this]
                  rw [ez] at q1
                  have HPUT := Lib.hid (own_put12 HO8.out j (.bool (decide (0 < x))))
                  have HBP := Lib.hid (show Below w.heap.size w (w8.setCell ⟨L, j, none⟩ (.bool (decide (0 < x)))) from HB8.out.setCell (p := ⟨L, j, none⟩) (Nat.le_trans HS1.out (Nat.le_trans HSZ.out hL1)) _)
                  have hwk : IntKind.i64.wrap (j : Int) = (j : Int) := i64_ok (by omega)
                  have hjn2 : (j : Int) < (n : Int) := by omega
                  clear ez
                  go_wp2_with fail
                  go_roundg (xs.length - k)
                  case measure => omega
                  case rel =>
                    refine ⟨k + 1, _, by omega, by omega, by go_num, Lib.hid (HT8.out.keep fun q ty X hq hX hty => ?_), ?_, HBP, Lib.hid (by simpa [World.setCell] using HS8.out), Lib.hid (by rw [TS.setPh_ph]; exact HL.out)⟩
                    · rcases hty with hty | rfl
                      · refine Blk.far hX ?_ _
                        rintro rfl
                        have := own_blk_ne HO8.out hX (by rintro rfl; simp at hty)
                        exact this rfl
                      · exact Blk.far hX (by rintro rfl; exact HPN.out rfl) _
                    · rw [HPH.out, List.map_set]
                      exact HPUT
                · have hiv : t.isVar (absV x) = false := by
                    rw [Bool.eq_false_iff]
                    intro e
                    have := TS.isVar_iff.1 e
                    rw [HL.out] at this
                    exact hv this
                  have hsp : t.setPh (absV x) (decide (0 < x)) = t := by unfold TS.setPh; rw [if_neg (by simp [hiv])]
                  have HSP := Lib.hid (hsp ▸ hiv ▸ setphase_any HT.out (absV x) (decide (0 < x)))
                  clear hiv hsp hv
                  go_wp2_with fail
                  refine HSP.out.mono ?_
                  rintro e w8 ⟨rfl, ht, hb⟩
                  have HT8 := Lib.hid ht
                  have HO8 := Lib.hid (hb.own HO.out (by decide) HPN.out)
                  have HB8 := Lib.hid (HB.out.trans (hb.low.mono HS1.out))
                  have HS8 := Lib.hid (hb.sz HS.out)
                  clear ht hb
                  go_wp2_with fail
                  go_roundg (xs.length - k)
                  case measure => omega
                  case rel => exact ⟨k + 1, _, by omega, by omega, by go_num, HT8, HO8, HB8, HS8, HL⟩
            · obtain ⟨w9, rfl⟩ : ∃ w9 : World, w9 = wr := ⟨_, rfl⟩
              obtain ⟨zz, hzz⟩ : ∃ zz, t.ph = zz := ⟨_, rfl⟩
              have hzl : zz.length = n := by rw [← hzz]; exact HL.out
              rw [hzz] at HO
              have HZZ := Lib.hid hzz
              have HZL2 := Lib.hid hzl
              clear hzz hzl
              go_wp2_with fail
              go_loopg [16] (n + 1) (fun gk i wr => ∃ (k : Nat) (t : TS), k ≤ n ∧ gk = n - k + 1 ∧ i = .int .i64 ((k : Int) + 1) ∧ Hid (Tr wr w1.heap.size g P t) ∧ Hid (wr.ownsRow wz.heap.size 4 1 (.slice A5 n c5) n (zz.map Value.bool)) ∧ Hid (Below w.heap.size w wr) ∧ Hid (w1.heap.size ≤ wr.heap.size) ∧ Hid (t.ph.length = n) ∧ Hid (∀ j, k ≤ j → t.ph.getD j false = zz.getD j false))
              case atStart => exact ⟨0, t, by omega, by omega, rfl, HT, HO, HB, HS, HL, Lib.hid fun j _ => by rw [HZZ.out]⟩
              case round =>
                obtain ⟨k, t, hk, rfl, rfl, HT, HO, HB, HS, HL, HE⟩ := hrel
                by_cases hlt4 : k < n
                · have hpv : phT t.ph ((k : Int) + 1) = zz.getD k false := by rw [phT_at]; exact HE.out k (Nat.le_refl _)
                  have HPH := Lib.hid (fun q => hpv ▸ phase_any (HT.out.drewN q) ((k : Int) + 1))
                  obtain ⟨L, rfl, hL1, hL2⟩ := own_addr HO.out (by omega)
                  have q1 := World.ownsRow.cellAt HO.out k (by omega)
                  have ez : (zz.map Value.bool)[k]? = some (.bool (zz.getD k false)) := by
                    have : k < zz.length := by have := HZL2.out; omega
                    rw [List.getElem?_map, List.getElem?_eq_getElem this]
                    simp [List.getD, this]
                  rw [ez] at q1
                  obtain ⟨z, hz⟩ : ∃ z, zz.getD k false = z := ⟨_, rfl⟩
                  rw [hz] at q1 HPH
                  have hk1 : (k : Int) + 1 ≤ (n : Int) := by omega
                  have hkn : (k : Int) < (n : Int) := by omega
                  have hwk : IntKind.i64.wrap (k : Int) = (k : Int) := i64_ok (by omega)
                  clear ez hz hpv
                  go_wp2_with fail
                  go_quiet ((go_at_call 23; first | exact Calls.quiet_of (HPH.out _) | exact quiet_add_of (HPH.out _)))
                  clear q1
                  obtain ⟨wq, hwq⟩ : ∃ wq, wr.drewN nq = wq := ⟨_, rfl⟩
                  rw [hwq]
                  have HTq := Lib.hid (hwq ▸ HT.out.drewN nq)
                  have HOq := Lib.hid (show wq.ownsRow wz.heap.size 4 1 (.slice (some ⟨L, 0, none⟩) n c5) n (zz.map Value.bool) by rw [← hwq]; exact HO.out)
                  have HBq := Lib.hid (show Below w.heap.size w wq by rw [← hwq]; exact below_drewN HB.out nq)
                  have HSq := Lib.hid (show w1.heap.size ≤ wq.heap.size by rw [← hwq]; exact HS.out)
                  clear hwq
                  go_wp2_with fail
                  refine (put_any HTq.out HSq.out (-((k : Int) + 1)) 0 (by omega)).mono ?_
                  rintro e w8 ⟨rfl, ht, hb⟩
                  have HT8 := Lib.hid ht
                  have HO8 := Lib.hid (hb.own HOq.out (by decide) HPN.out)
                  have HB8 := Lib.hid (HBq.out.trans (hb.low.mono HS1.out))
                  have HS8 := Lib.hid (hb.sz HSq.out)
                  clear ht hb
                  rcases htk : t.takes (-((k : Int) + 1)) with _ | _
                  · have e : t.put (-((k : Int) + 1)) 0 = t := by unfold TS.put; rw [if_neg (by simp [htk])]
                    rw [e] at HT8
                    clear htk e
                    go_wp2_with fail
                    go_roundg (n - k)
                    case measure => omega
                    case rel => exact ⟨k + 1, t, by omega, by omega, by go_num, HT8, HO8, HB8, HS8, HL, Lib.hid fun j hj => HE.out j (by omega)⟩
                  · have e : t.put (-((k : Int) + 1)) 0 = t.push (-((k : Int) + 1)) 0 := by unfold TS.put; rw [if_pos htk]
                    rw [e] at HT8
                    have hpp : (t.push (-((k : Int) + 1)) 0).ph = t.ph.set k false := by
                      unfold TS.push
                      show t.ph.set ((-((k : Int) + 1)).natAbs - 1) (decide (0 < -((k : Int) + 1))) = _
                      rw [show (-((k : Int) + 1)).natAbs - 1 = k by omega, show decide (0 < -((k : Int) + 1)) = false by simp; omega]
                    have hpv : phT (t.push (-((k : Int) + 1)) 0).ph ((k : Int) + 1) = false := by
                      rw [phT_at, hpp]
                      have : k < t.ph.length := by have := HL.out; omega
                      simp [List.getD, this]
                    have HPH2 := Lib.hid (hpv ▸ phase_any HT8.out ((k : Int) + 1))
                    have HPP := Lib.hid hpp
                    clear htk e hpv hpp
                    go_wp2_with fail
                    refine HPH2.out.mono ?_
                    rintro e w10 ⟨rfl, hw⟩
                    have HT9 := Lib.hid (HT8.out.drewE hw)
                    have HO9 := Lib.hid (show w10.ownsRow wz.heap.size 4 1 (.slice (some ⟨L, 0, none⟩) n c5) n (zz.map Value.bool) by obtain ⟨m, rfl⟩ := hw; exact HO8.out)
                    have HB9 := Lib.hid (below_drewE12 HB8.out hw)
                    have HS9 := Lib.hid (show w1.heap.size ≤ w10.heap.size by obtain ⟨m, rfl⟩ := hw; exact HS8.out)
                    clear hw
                    go_wp2_with fail
                    go_roundg (n - k)
                    case measure => omega
                    case rel => exact ⟨k + 1, _, by omega, by omega, by go_num, HT9, HO9, HB9, HS9, Lib.hid (by rw [HPP.out]; simp [HL.out]), Lib.hid fun j hj => by
                      rw [HPP.out, List.getD, List.getElem?_set_ne (by omega)]
                      exact HE.out j (by omega)⟩
                · go_wp2
                  go_ret
                  exact ⟨rfl, HB.out⟩
end Go.Proofs.Ytihljekdipengaa
