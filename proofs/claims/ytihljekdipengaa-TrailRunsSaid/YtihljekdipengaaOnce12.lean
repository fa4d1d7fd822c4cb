/- The statement that no variable stands twice. -/
import Derived.Test.YtihljekdipengaaLevels12
import Derived.Maps.Own
import Derived.Maps.OwnOps
import Derived.Maps.OwnSet
import Derived.Maps.Views
namespace Go.Proofs.Ytihljekdipengaa
open Go.RowKit Go.Maps
set_option linter.unusedVariables false
set_option linter.unusedSimpArgs false

theorem drewE_trans {w w' w'' : World} (h : ∃ a, w' = w.drewN a) (h' : ∃ b, w'' = w'.drewN b) : ∃ c, w'' = w.drewN c := by
  obtain ⟨a, rfl⟩ := h
  obtain ⟨b, rfl⟩ := h'
  exact ⟨_, World.drewN_drewN _ _ _⟩
theorem intLaw12 : Maps.Keyed Try.prog 3 := Maps.int_keyed Try.underlying3
theorem zeroI12 (w : World) : (zeroValue 3).run Try.prog w = .ok (.int .i64 0) w := by kernel_rfl
theorem lev_mono {t : TS} (h : t.Good) {i j : Nat} {r s : Rec} (hr : t.recs[i]? = some r) (hs : t.recs[j]? = some s) (hij : i ≤ j) : r.lev ≤ s.lev := by
  rcases Nat.lt_or_ge s.lev r.lev with hlt | hge
  · obtain ⟨h1, h2⟩ := h.lev i r hr
    obtain ⟨h3, h4⟩ := h.lev j s hs
    have hk : s.lev < t.starts.length := by omega
    have e := List.getElem?_eq_getElem hk
    have := (h2 s.lev _ e).2 hlt
    have := (h4 s.lev _ e).1 (by omega)
    omega
  · exact hge
theorem placeT_at {t : TS} (h : t.Good) {i : Nat} {r : Rec} (hr : t.recs[i]? = some r) : placeT t.recs r.l = i ∧ placeT t.recs (-r.l) = i ∧ valT t.recs r.l = 1 ∧ valT t.recs (-r.l) = -1 := by
  have h1 := find_uniq h.uniq hr (l := r.l) (.inl rfl)
  have h2 := find_uniq h.uniq hr (l := -r.l) (.inr (by omega))
  have h0 := (h.lit r (List.mem_of_getElem? hr)).1
  refine ⟨?_, ?_, ?_, ?_⟩
  · unfold placeT; rw [h1]
  · unfold placeT; rw [h2]
  · unfold valT; rw [h1]; simp
  · unfold valT; rw [h2]
    show (if r.l = -r.l then (1 : Int) else -1) = -1
    rw [if_neg (by omega)]
theorem TrM.mapGrown {w w' : World} {base g P B : Nat} {t : TS} (h : Tr w base g P t) (hb : Below w.heap.size w w') : Tr w' base g P t := h.below hb

set_option maxRecDepth 100000 in
set_option maxHeartbeats 8000000 in
theorem once_in (kk : Nat) (hkk : kk ≤ 255) (ds : List DeedV) (A0 : Option Addr) (c0 : Nat) (w : World) (hn : ds.length ≤ 100) (hok : ∀ d ∈ ds, d.ok) (h : Deeds w w.heap.size A0 ds) :
    Calls Try.prog 5 #[.int .u8 kk, .slice A0 ds.length c0] w fun e w' => e = .returned (.bool true) ∧ Below w.heap.size w w' := by
  have hmm := @run_makeMap Try.prog
  have H := Lib.hid h
  have OK := Lib.hid hok
  obtain ⟨n, hn12⟩ : ∃ n, kk % 12 = n := ⟨_, rfl⟩
  have e1 : (kk : Int) % 12 = (n : Int) := by omega
  have e2 : Int.tmod (kk : Int) 12 = (n : Int) := by rw [Int.tmod_eq_emod_of_nonneg (by omega)]; exact e1
  have hn11 : n ≤ 11 := by omega
  have e3 : IntKind.u8.wrap (n : Int) = (n : Int) := by simp [IntKind.wrap, IntKind.signed, IntKind.bits]; omega
  have HNEW := Lib.hid (fun w => new_any n (by omega) w)
  clear h hok hn12
  go_enter Try.func5, Try.ntmps5
  go_wp2_with fail
  refine (fit_any w).mono ?_
  rintro e w1 ⟨rfl, hb⟩
  have HB1 := Lib.hid hb
  clear hb
  go_wp2_with fail
  refine (HNEW.out w1).mono ?_
  rintro e w2 ⟨g, P, rfl, ht, hb⟩
  have HS1 := Lib.hid HB1.out.size
  have HT2 := Lib.hid ht
  have HB2 := Lib.hid (HB1.out.trans (hb.mono HS1.out))
  have HS2 := Lib.hid (hb.size)
  clear ht hb
  go_wp2_with fail
  go_loopg [26] (ds.length + 1) (fun gk i wr => ∃ (k : Nat) (t : TS), k ≤ ds.length ∧ gk = ds.length - k + 1 ∧ i = .int .i64 k ∧ Hid (Tr wr w1.heap.size g P t) ∧ Hid (Below w.heap.size w wr) ∧ Hid (w1.heap.size ≤ wr.heap.size) ∧ Hid (t.ph.length = n))
  case atStart => exact ⟨0, _, by omega, by omega, rfl, HT2, HB2, HS2, Lib.hid (by simp [TS.fresh])⟩
  case round =>
    obtain ⟨k, t, hk, rfl, rfl, HT, HB, HS, HL⟩ := hrel
    by_cases hlt : k < ds.length
    · obtain ⟨b2, off, rfl, _, d, hd, d0, d1, d2⟩ := (H.out.below HB.out).at_ hlt
      have hdo : d.ok := by rw [hd, List.getD, List.getElem?_eq_getElem hlt]; exact OK.out _ (List.getElem_mem hlt)
      obtain ⟨o1, o2, o3⟩ := hdo
      have low := (u8_low o1).2.1
      obtain ⟨wd, hwd⟩ : ∃ wd, wd = wr.alloc (.cells #[.int .u8 d.kd, .int .i64 d.l, .int .i64 d.r] 32) := ⟨_, rfl⟩
      have hbd : Below wr.heap.size wr wd := by rw [hwd]; exact (Below.refl _ _).alloc (Nat.le_refl _) _
      have HTd := Lib.hid (HT.out.below hbd)
      have HBd := Lib.hid (HB.out.trans (hbd.mono HB.out.size))
      have HSd := Lib.hid (Nat.le_trans HS.out hbd.size)
      have HWD := Lib.hid hwd
      clear hd hwd hbd
      go_upto_block 2 with fail
      go_cut [32, 45] (fun u v wx => ∃ t' : TS, Hid (Tr wx w1.heap.size g P t') ∧ Hid (Below w.heap.size w wx) ∧ Hid (w1.heap.size ≤ wx.heap.size) ∧ Hid (t'.ph.length = n))
      case first =>
        rcases (show d.kd % 4 = 0 ∨ d.kd % 4 = 1 ∨ d.kd % 4 = 2 ∨ d.kd % 4 = 3 by omega) with h2 | h2 | h2 | h2
        · have low2 : (d.kd : Int) % 4 = 0 := by omega
          clear low h2
          go_wp2_with fail
          rw [← HWD.out]
          refine (put_any HTd.out HSd.out d.l d.r o2).mono ?_
          rintro e w3 ⟨rfl, ht, hb⟩
          have HT3 := Lib.hid ht
          have HB3 := Lib.hid (HBd.out.trans (hb.low.mono HS1.out))
          have HS3 := Lib.hid (hb.sz HSd.out)
          clear ht hb
          go_wp2_with fail
          go_meet
          exact ⟨_, HT3, HB3, HS3, Lib.hid (by rw [TS.put_ph]; exact HL.out)⟩
        · have low2 : (d.kd : Int) % 4 = 1 := by omega
          clear low h2
          go_wp2_with fail
          rw [← HWD.out]
          refine (put_any HTd.out HSd.out d.l d.r o2).mono ?_
          rintro e w3 ⟨rfl, ht, hb⟩
          have HT3 := Lib.hid ht
          have HB3 := Lib.hid (HBd.out.trans (hb.low.mono HS1.out))
          have HS3 := Lib.hid (hb.sz HSd.out)
          clear ht hb
          go_wp2_with fail
          go_meet
          exact ⟨_, HT3, HB3, HS3, Lib.hid (by rw [TS.put_ph]; exact HL.out)⟩
        · have low2 : (d.kd : Int) % 4 = 2 := by omega
          clear low h2
          go_wp2_with fail
          rw [← HWD.out]
          refine (decide_any HTd.out HSd.out d.l o2).mono ?_
          rintro e w3 ⟨rfl, ht, hb⟩
          have HT3 := Lib.hid ht
          have HB3 := Lib.hid (HBd.out.trans (hb.low.mono HS1.out))
          have HS3 := Lib.hid (hb.sz HSd.out)
          clear ht hb
          go_wp2_with fail
          go_meet
          exact ⟨_, HT3, HB3, HS3, Lib.hid (by rw [TS.dec_ph]; exact HL.out)⟩
        · have low2 : (d.kd : Int) % 4 = 3 := by omega
          clear low h2
          go_wp2_with fail
          rw [← HWD.out]
          refine (back_any HTd.out HSd.out d.l).mono ?_
          rintro e w3 ⟨A9, c9, rfl, -, ht, hb⟩
          have HT3 := Lib.hid ht
          have HB3 := Lib.hid (HBd.out.trans (hb.low.mono HS1.out))
          have HS3 := Lib.hid (hb.sz HSd.out)
          clear ht hb
          go_wp2_with fail
          go_meet
          exact ⟨_, HT3, HB3, HS3, Lib.hid (by rw [TS.back_ph]; exact HL.out)⟩
      case rest =>
        obtain ⟨ws, rfl⟩ : ∃ ws : World, ws = wc := ⟨_, rfl⟩
        obtain ⟨t, HT, HB, HS, HL⟩ := hcut
        obtain ⟨m, hm⟩ : ∃ m, t.recs.length = m := ⟨_, rfl⟩
        have hmn : m ≤ n := by rw [← hm, ← HL.out]; exact HT.out.good.len
        have HM := Lib.hid hm
        obtain ⟨wm, hwm⟩ : ∃ wm, wm = ws.alloc (.map #[] 0) := ⟨_, rfl⟩
        have hbm : Below ws.heap.size ws wm := by rw [hwm]; exact (Below.refl _ _).alloc (Nat.le_refl _) _
        have HMAP := Lib.hid (show wm.ownsMap Try.prog 3 (plainElem (H := Unit) Try.prog 3) ws.heap.size 0 (.map []) by rw [hwm]; exact World.ownsMap_made _ _ _ _)
        have HBM := Lib.hid hbm
        have HTm := Lib.hid (HT.out.below hbm)
        have HWM := Lib.hid hwm
        clear hm hwm hbm d0 d1 d2
        go_wp2_with fail
        rw [← HWM.out]
        refine (len_any HTm.out).mono ?_
        rintro e wq ⟨rfl, rfl⟩
        rw [HM.out]
        go_wp2_with fail
        go_loopg [10, 55] (m + 1) (fun gk lv iv wr => ∃ (i la : Nat) (D : DataW Unit), i ≤ m ∧ gk = m - i + 1 ∧ iv = .int .i64 i ∧ lv = .int .i64 la ∧ Hid (wr.ownsMap Try.prog 3 (plainElem (H := Unit) Try.prog 3) ws.heap.size i D) ∧ Hid (Below ws.heap.size ws wr) ∧
          Hid (∀ j r, i ≤ j → t.recs[j]? = some r → la ≤ r.lev ∧ D.atKey (.int .i64 (r.l.natAbs : Int)) (.lit (.int .i64 0)) = .lit (.int .i64 0)))
        case atStart => exact ⟨0, 0, _, by omega, by omega, rfl, rfl, HMAP, HBM, Lib.hid fun j r _ _ => ⟨Nat.zero_le _, by rfl⟩⟩
        case round =>
          obtain ⟨i, la, D, hi1, rfl, rfl, rfl, HMP, HBw, HQ⟩ := hrel
          have HTr := Lib.hid (HT.out.below HBw.out)
          by_cases hlt2 : i < m
          · obtain ⟨r, hr⟩ : ∃ r, t.recs[i]? = some r := ⟨_, List.getElem?_eq_getElem (by have := HM.out; omega)⟩
            have HR := Lib.hid hr
            have hlit := HT.out.good.lit r (List.mem_of_getElem? hr)
            have hfew := HT.out.good.few
            have hlv := (HT.out.good.lev i r hr).1
            obtain ⟨q1, q2, q3, q4⟩ := placeT_at HT.out.good hr
            obtain ⟨hla, hq0⟩ := HQ.out i r (Nat.le_refl _) hr
            have CA := Lib.hid (fun (w' : World) (h : Tr w' w1.heap.size g P t) => atT_at hr ▸ at_any12 h (i : Int))
            have CP := Lib.hid (fun (w' : World) (h : Tr w' w1.heap.size g P t) => q1 ▸ place_any h r.l (by omega))
            have CN := Lib.hid (fun (w' : World) (h : Tr w' w1.heap.size g P t) => q2 ▸ place_any h (-r.l) (by omega))
            have CV := Lib.hid (fun (w' : World) (h : Tr w' w1.heap.size g P t) => q3 ▸ value_any h r.l (by omega))
            have CW := Lib.hid (fun (w' : World) (h : Tr w' w1.heap.size g P t) => q4 ▸ value_any h (-r.l) (by omega))
            have CL := Lib.hid (fun (w' : World) (h : Tr w' w1.heap.size g P t) => levT_at HT.out.good hr ▸ levelOf_any h r.l (by omega))
            have hnl := HL.out
            obtain ⟨v, hv⟩ : ∃ v : Nat, r.l.natAbs = v := ⟨_, rfl⟩
            obtain ⟨x, hx⟩ : ∃ x, r.l = x := ⟨_, rfl⟩
            obtain ⟨lev, hlev⟩ : ∃ lev, r.lev = lev := ⟨_, rfl⟩
            obtain ⟨sl, hsl⟩ : ∃ sl, t.starts.length = sl := ⟨_, rfl⟩
            have CS := Lib.hid (fun (w' : World) (h : Tr w' w1.heap.size g P t) => hsl ▸ level_any h)
            have HV := Lib.hid (And.intro hv hlev)
            rw [hx] at CA CP CN CV CW CL
            rw [hlev] at CL hla hlv
            rw [hsl] at hlv
            rw [hv] at hq0 hlit
            have hvx : (x = (v : Int) ∨ x = -(v : Int)) ∧ v ≠ 0 := by rw [hx] at hv hlit; omega
            have hv1 : ¬ (v : Int) < 1 := by omega
            have hv2 : ¬ (n : Int) < (v : Int) := by omega
            have hl1 : ¬ (lev : Int) < (la : Int) := by omega
            have hl2 : ¬ (sl : Int) < (lev : Int) := by omega
            have HQ0 := Lib.hid hq0
            clear hr hlit hv hx hlev hsl q1 q2 q3 q4 hq0 hnl
            go_wp2_with fail
            refine (CA.out _ HTr.out).mono ?_
            rintro e w3 ⟨rfl, hw⟩
            have HT3 := Lib.hid (HTr.out.drewE hw)
            have HM3 := Lib.hid (show w3.ownsMap Try.prog 3 (plainElem (H := Unit) Try.prog 3) ws.heap.size i D by obtain ⟨a, rfl⟩ := hw; exact HMP.out)
            have HB3 := Lib.hid (below_drewE12 HBw.out hw)
            clear hw
            go_upto_region 23 with fail
            go_cut [13] (fun y wx => y = .int .i64 (v : Int) ∧ wx = w3)
            case first =>
              rcases hvx.1 with h5 | h5
              · have h6 : -x < x := by omega
                have h7 : ¬ x < -x := by omega
                have HX := Lib.hid h5
                clear h5
                go_wp2_with fail
                go_meet
                exact ⟨by rw [HX.out], rfl⟩
              · have h6 : x < -x := by omega
                have h7 : ¬ -x < x := by omega
                have HX := Lib.hid h5
                clear h5
                go_wp2_with fail
                go_meet
                exact ⟨by rw [HX.out, Int.neg_neg], rfl⟩
            case rest =>
              obtain ⟨rfl, rfl⟩ := hcut
              go_wp2_with (first
                | (at_lookup; refine wpList_lookup_own_int _ rfl _ _ 39 rfl 3 3 .i64 intLaw12 Try.underlying39 Try.underlying3 (zeroI12 _) ws.heap.size i D rfl HM3.out _ _ rfl (Maps.keyOf_int_mk Try.underlying3 (WalkArith.wf_i64 (by omega))) ?_; intro c hat hwc; obtain rfl : c = 0 := by rw [HQ0.out] at hat; injection hat with hat; injection hat with _ hat; exact hat.symm)
                | (at_mapUpdate; refine wpList_mapUpdate_own _ rfl _ _ _ 39 rfl 3 3 intLaw12 Try.underlying39 _ ws.heap.size i D rfl HM3.out (by unfold maxLen; omega) _ _ _ rfl rfl (Maps.keyOf_int_mk Try.underlying3 (WalkArith.wf_i64 (by omega))) _ [] (plainElem_int Try.underlying3 (by decide)) ?_; intro w4 hown4 hgrow4)
                | (at_lookup; refine wpList_lookup_own_int _ rfl _ _ 39 rfl 3 3 .i64 intLaw12 Try.underlying39 Try.underlying3 (zeroI12 _) ws.heap.size (i + 1) _ rfl hown4 _ _ rfl (Maps.keyOf_int_mk Try.underlying3 (WalkArith.wf_i64 (by omega))) ?_; intro c2 hat2 hwc2; obtain rfl : c2 = 1 := by rw [Maps.atKey_put_same HM3.out.isMap (show WideAt.IsKeyLit (.int .i64 _) from trivial)] at hat2; injection hat2 with hat2; injection hat2 with _ hat2; exact hat2.symm))
              have HT4 := Lib.hid (HT.out.below (HB3.out.grown hgrow4 HB3.out.size (fun q hq => by injection hq with hq; omega)))
              have HB4 := Lib.hid (HB3.out.grown hgrow4 HB3.out.size (fun q hq => by injection hq with hq; omega))
              have HO4 := Lib.hid hown4
              have HW4 := Lib.hid (show ∃ a, w4 = w4.drewN a from ⟨0, rfl⟩)
              clear hown4 hgrow4 hat hat2
              refine (CP.out _ HT4.out).mono ?_
              rintro e w5 ⟨rfl, hw⟩
              have HT5 := Lib.hid (HT4.out.drewE hw)
              have HW5 := Lib.hid (drewE_trans HW4.out hw)
              clear hw
              go_wp2_with fail
              refine (CN.out _ HT5.out).mono ?_
              rintro e w6 ⟨rfl, hw⟩
              have HT6 := Lib.hid (HT5.out.drewE hw)
              have HW6 := Lib.hid (drewE_trans HW5.out hw)
              clear hw
              go_wp2_with fail
              refine (CV.out _ HT6.out).mono ?_
              rintro e w7 ⟨rfl, hw⟩
              have HT7 := Lib.hid (HT6.out.drewE hw)
              have HW7 := Lib.hid (drewE_trans HW6.out hw)
              clear hw
              go_wp2_with fail
              refine (CW.out _ HT7.out).mono ?_
              rintro e w8 ⟨rfl, hw⟩
              have HT8 := Lib.hid (HT7.out.drewE hw)
              have HW8 := Lib.hid (drewE_trans HW7.out hw)
              clear hw
              go_wp2_with fail
              refine (CL.out _ HT8.out).mono ?_
              rintro e w9 ⟨rfl, hw⟩
              have HT9 := Lib.hid (HT8.out.drewE hw)
              have HW9 := Lib.hid (drewE_trans HW8.out hw)
              clear hw
              go_wp2_with fail
              refine (CL.out _ HT9.out).mono ?_
              rintro e w10 ⟨rfl, hw⟩
              have HT10 := Lib.hid (HT9.out.drewE hw)
              have HW10 := Lib.hid (drewE_trans HW9.out hw)
              clear hw
              go_wp2_with fail
              refine (CS.out _ HT10.out).mono ?_
              rintro e wq ⟨rfl, rfl⟩
              go_wp2_with fail
              refine (CL.out _ HT10.out).mono ?_
              rintro e w11 ⟨rfl, hw⟩
              have HT11 := Lib.hid (HT10.out.drewE hw)
              have HW11 := Lib.hid (drewE_trans HW10.out hw)
              clear hw
              go_wp2_with fail
              go_roundg (m - i)
              case measure => omega
              case rel =>
                refine ⟨i + 1, lev, _, by omega, by omega, by go_num, rfl, Lib.hid (show w11.ownsMap Try.prog 3 (plainElem (H := Unit) Try.prog 3) ws.heap.size (i + 1) _ by obtain ⟨a, e⟩ := HW11.out; subst e; exact HO4.out), Lib.hid (below_drewE12 HB4.out HW11.out), Lib.hid fun j r' hj hr' => ⟨?_, ?_⟩⟩
                · have := lev_mono HT.out.good HR.out hr' (by omega)
                  rw [HV.out.2] at this
                  exact this
                · have hne : r'.l.natAbs ≠ v := by
                    intro e
                    have h1 := find_uniq HT.out.good.uniq hr' (l := r.l) (Rec.of_abs.2 (by rw [HV.out.1]; exact e))
                    have h2 := find_uniq HT.out.good.uniq HR.out (l := r.l) (.inl rfl)
                    rw [h1] at h2
                    simp only [Option.some.injEq, Prod.mk.injEq] at h2
                    omega
                  rw [Maps.atKey_put_other (by intro e; injection e with _ e; omega)]
                  exact (HQ.out j r' (by omega) hr').2
          · obtain ⟨wk, rfl⟩ : ∃ wk : World, wk = wr := ⟨_, rfl⟩
            obtain rfl : m = i := by omega
            have hmI : ¬ (n : Int) < (m : Int) := by omega
            have HBk := Lib.hid (HB.out.trans (HBw.out.mono HB.out.size))
            have HSk := Lib.hid (Nat.le_trans HS.out HBw.out.size)
            have hnl := HL.out
            have CF := Lib.hid (fun (w' : World) (h : Tr w' w1.heap.size g P t) => HM.out ▸ hnl ▸ full_any h)
            have CE := Lib.hid (fun (w' : World) (h : Tr w' w1.heap.size g P t) => HM.out ▸ len_any h)
            clear hnl
            rcases hb : decide (m = n) with _ | _
            · have hb2 : ((m : Int) == (n : Int)) = false := by simp at hb ⊢; omega
              rw [hb] at CF
              clear hb
              go_wp2_with fail
              refine (CE.out _ HTr.out).mono ?_
              rintro e wq ⟨rfl, rfl⟩
              go_wp2_with fail
              refine (CF.out _ HTr.out).mono ?_
              rintro e w7 ⟨rfl, hw⟩
              have HT7 := Lib.hid (HTr.out.drewE hw)
              have HB7 := Lib.hid (below_drewE12 HBk.out hw)
              have HS7 := Lib.hid (show w1.heap.size ≤ w7.heap.size by obtain ⟨a, rfl⟩ := hw; exact HSk.out)
              clear hw
              go_wp2_with fail
              refine (CE.out _ HT7.out).mono ?_
              rintro e wq ⟨rfl, rfl⟩
              go_wp2_with fail
              go_roundg (ds.length - k)
              case measure => omega
              case rel => exact ⟨k + 1, t, by omega, by omega, by go_num, HT7, HB7, HS7, HL⟩
            · have hb2 : ((m : Int) == (n : Int)) = true := by simp at hb ⊢; omega
              rw [hb] at CF
              clear hb
              go_wp2_with fail
              refine (CE.out _ HTr.out).mono ?_
              rintro e wq ⟨rfl, rfl⟩
              go_wp2_with fail
              refine (CF.out _ HTr.out).mono ?_
              rintro e w7 ⟨rfl, hw⟩
              have HT7 := Lib.hid (HTr.out.drewE hw)
              have HB7 := Lib.hid (below_drewE12 HBk.out hw)
              have HS7 := Lib.hid (show w1.heap.size ≤ w7.heap.size by obtain ⟨a, rfl⟩ := hw; exact HSk.out)
              clear hw
              go_wp2_with fail
              refine (CE.out _ HT7.out).mono ?_
              rintro e wq ⟨rfl, rfl⟩
              go_wp2_with fail
              go_roundg (ds.length - k)
              case measure => omega
              case rel => exact ⟨k + 1, t, by omega, by omega, by go_num, HT7, HB7, HS7, HL⟩
    · go_wp2
      go_ret
      exact ⟨rfl, HB.out⟩
end Go.Proofs.Ytihljekdipengaa
