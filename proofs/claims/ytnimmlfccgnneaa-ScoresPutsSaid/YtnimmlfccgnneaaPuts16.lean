/- The statement on what is taken and put back. -/
import Derived.Test.YtnimmlfccgnneaaPut16
namespace Go.Proofs.Ytnimmlfccgnneaa
open Go.RowKit
set_option linter.unusedVariables false
set_option linter.unusedSimpArgs false

set_option maxRecDepth 100000 in
set_option maxHeartbeats 2000000 in
theorem puts_out (kk nn : Nat) (ds : List DeedV) (A0 : Option Addr) (c0 : Nat) (w : World) (hm : 60 < ds.length) :
    Calls Try.prog 6 #[.int .u8 kk, .slice A0 ds.length c0, .int .u8 nn] w fun e w' => e = .returned (.bool true) ∧ Below w.heap.size w w' := by
  go_enter Try.func6, Try.ntmps6
  go_wp2_with fail
  refine (fit_any16 w).mono ?_
  rintro e w1 ⟨rfl, hb⟩
  go_wp2
  go_ret
  exact ⟨rfl, hb⟩

set_option maxRecDepth 100000 in
set_option maxHeartbeats 20000000 in
theorem puts_in (kk nn : Nat) (ds : List DeedV) (A0 : Option Addr) (c0 : Nat) (w : World) (hkk : kk ≤ 255) (hnn : nn ≤ 255) (hn : ds.length ≤ 60) (hok : ∀ d ∈ ds, d.ok) (h : Deeds w w.heap.size A0 ds) :
    Calls Try.prog 6 #[.int .u8 kk, .slice A0 ds.length c0, .int .u8 nn] w fun e w' => e = .returned (.bool true) ∧ Below w.heap.size w w' := by
  have H := Lib.hid h
  have OK := Lib.hid hok
  clear h hok
  obtain ⟨u, hu⟩ : ∃ u, kk % 19 = u := ⟨_, rfl⟩
  have e1 : (kk : Int) % 19 = (u : Int) := by omega
  have e2 : Int.tmod (kk : Int) 19 = (u : Int) := by rw [Int.tmod_eq_emod_of_nonneg (by omega)]; exact e1
  have hu18 : u < 19 := by omega
  have e3 : IntKind.u8.wrap (u : Int) = (u : Int) := by simp [IntKind.wrap, IntKind.signed, IntKind.bits]; omega
  obtain ⟨n, hn⟩ : ∃ n : Nat, n = u + 1 := ⟨_, rfl⟩
  have e4 : (1 : Int) + (u : Int) = (n : Int) := by omega
  have hn20 : n < 20 := by omega
  have hn0 : 0 < n := by omega
  have hnd : ((n : Int) == 0) = false := by simp; omega
  have hnz : (n : Int) ≠ 0 := by omega
  obtain ⟨c, hc⟩ : ∃ c, nn % n = c := ⟨_, rfl⟩
  have hcn : c < n := by rw [← hc]; exact Nat.mod_lt _ hn0
  have e5 : Int.tmod (nn : Int) (n : Int) = (c : Int) := by rw [← hc]; rfl
  clear hu hn hc
  have HBEG := Lib.hid (fun w => begin_any16 n (by omega) w)
  obtain ⟨i0, hi0, hz0, hz1, hz2⟩ := info_parts infoI16
  go_enter Try.func6, Try.ntmps6
  go_wp2_with fail
  refine (fit_any16 w).mono ?_
  rintro e w1 ⟨rfl, hb⟩
  have HB1 := Lib.hid hb
  clear hb

  go_wp2_with fail
  refine (HBEG.out w1).mono ?_
  rintro e w2 ⟨b1, m1, rfl, k1, k2, k3⟩
  have HB2 := Lib.hid (HB1.out.trans (k2.mono HB1.out.size))
  have HS2 := Lib.hid k1.st
  have HM2 := Lib.hid k1.md
  have HD2 := Lib.hid k1.dj
  have HN2 : Hid (∀ q, foot2 b1 m1 q → w.heap.size ≤ q) := Lib.hid fun q hq => Nat.le_trans HB1.out.size (k3 q hq)
  clear k1 k2 k3
  go_wp2_with fail
  refine (HBEG.out w2).mono ?_
  rintro e w3 ⟨b2, m0, rfl, k1, k2, k3⟩
  obtain ⟨B2, hB2⟩ : ∃ B2, B2 = w3.heap.size := ⟨_, rfl⟩
  have hb2 : ∀ q, b2.foot q → w2.heap.size ≤ q := fun q h => k3 q (.inl h)
  have HC : Hid (PPc w B2 b1 b2 m1) := Lib.hid ⟨fun q hq => hq.elim (fun h => HN2.out q (.inl h)) fun h => h.elim (fun h => Nat.le_trans HB2.out.size (hb2 q h)) fun h => HN2.out q (.inr h), fun q hq => by
    rw [hB2]
    exact hq.elim (fun h => Nat.lt_of_lt_of_le (HS2.out.foot_lt h) k2.size) fun h => h.elim (fun h => k1.st.foot_lt h) fun h => Nat.lt_of_lt_of_le (HM2.out.foot_lt h) k2.size, fun q h1 h2 => h2.elim (fun h2 => by
    have := HS2.out.foot_lt h1
    have := hb2 q h2
    omega) fun h2 => HD2.out q h1 h2, by rw [hB2]; exact Nat.le_trans HB2.out.size k2.size⟩
  have HPR : Hid (Pr16 w3 b2 m1 n (SP.fresh n)) := Lib.hid ⟨k1.st, HM2.out.low k2, fun q h1 h2 => by have := hb2 q h1; have := HM2.out.foot_lt h2; omega⟩
  have HP0 : Hid (PP w w3 B2 b1 b2 m1 n ((SP.fresh n).withI (List.replicate n true)) (SP.fresh n) (.slice none 0 0) []) := Lib.hid ⟨HS2.out.low k2, HPR.out, World.ownsRow_nil _ _ _ _, HB2.out.trans (k2.mono HB2.out.size), by rw [hB2]; exact Nat.le_refl _⟩
  clear k1 k2 k3 hB2 hb2
  go_wp2_with fail
  go_loopg [12, 46] (c + 1) (fun gk vv i wr => ∃ (j : Nat) (inn : List Bool) (xs : List Nat), j ≤ c ∧ gk = c - j + 1 ∧ i = .int .i64 j ∧ xs.length = j ∧ Hid (PP w wr B2 b1 b2 m1 n ((SP.fresh n).withI inn) (SP.fresh n) vv xs) ∧ Hid (OutR n inn xs) ∧ Hid (cntB inn n + j = n))
  case atStart => exact ⟨0, _, [], by omega, by omega, rfl, rfl, HP0, Lib.hid (OutR.start n), Lib.hid (cntB_all n n (Nat.le_refl _))⟩
  case round =>
    obtain ⟨j, inn, xs, hj, rfl, rfl, rfl, HP, HO, HCN⟩ := hrel
    by_cases hlt : xs.length < c
    · have hjI : (xs.length : Int) < (c : Int) := by omega
      have HTK := Lib.hid (take_st HP.out.h)
      have hf0 : ((SP.fresh n).withI inn).first ≠ 0 := fun e => by
        have h1 := (SP.first_zero HP.out.h.good).1 e
        have h2 : cntB inn n = 0 := h1
        have h3 := HCN.out
        omega
      obtain ⟨f, hf⟩ : ∃ f, ((SP.fresh n).withI inn).first = f + 1 := ⟨((SP.fresh n).withI inn).first - 1, by omega⟩
      obtain ⟨t1, t2, t3, t4, t5⟩ := SP.first_in HP.out.h.good hf
      rw [hf, show decide (f + 1 ≠ 0) = true by simp] at HTK
      have HT3 : Hid (((SP.fresh n).withI inn).take = (SP.fresh n).withI (inn.set f false)) := Lib.hid t3
      have HO2 : Hid (OutR n (inn.set f false) (xs ++ [f + 1])) := Lib.hid (HO.out.snoc t1 t2)
      have HC2 : Hid (cntB (inn.set f false) n + (xs.length + 1) = n) := Lib.hid (by
        rw [t3] at t4
        have t4 : cntB (inn.set f false) n + 1 = cntB inn n := t4
        have := HCN.out
        omega)
      clear hf0 hf t1 t2 t3 t4 t5
      obtain ⟨Ar, cr, hv, -⟩ := own_slice HP.out.row
      subst hv
      go_wp2_with fail
      refine HTK.out.mono ?_
      rintro e w4 ⟨rfl, k1, k2⟩
      rw [HT3.out] at k1
      have HP4 := Lib.hid (HP.out.stepH HC.out k1 k2)
      have HB4 : Hid (B2 ≤ w4.heap.size) := Lib.hid HP4.out.sz
      have HROW := Lib.hid (HP4.out.row)
      have hjb : xs.length < 20 := by omega
      clear k1 k2
      go_wp2_with (at_builtin; refine wpList_append1 _ rfl _ _ 32 rfl B2 3 i0 (.int .i64 0) 8 Try.underlying32 hi0 hz0 hz1 hz2 rfl _ _ _ rfl (HROW.out.alloc _) (.int .i64 ((f : Int) + 1)) w4.heap.size rfl (by go_cell) rfl (by unfold maxLen; omega) (by omega) (by have := HB4.out; simp; omega) ?_)
      intro v5 w5 hown hg _
      have HP5 : Hid (PP w w5 B2 b1 b2 m1 n ((SP.fresh n).withI (inn.set f false)) (SP.fresh n) v5 (xs ++ [f + 1])) := Lib.hid (HP4.out.app HC.out _ hown hg)
      clear hown hg
      go_wp2_with fail
      go_roundg (c - xs.length)
      case measure => omega
      case rel => exact ⟨xs.length + 1, _, _, by omega, by omega, by go_num, by simp, HP5, HO2, HC2⟩
    · obtain ⟨w4, rfl⟩ : ∃ w4 : World, w4 = wr := ⟨_, rfl⟩
      have hxc : xs.length = c := by omega
      obtain ⟨Ar, cr, hv, -⟩ := own_slice HP.out.row
      subst hv
      have HXC := Lib.hid hxc
      have HI0 : Hid ((SP.fresh n).inn = List.replicate n true) := Lib.hid rfl
      clear hxc
      go_wp2_with fail
      go_loopg [60] (ds.length + 1) (fun gk i wr => ∃ (k : Nat) (s : SP), k ≤ ds.length ∧ gk = ds.length - k + 1 ∧ i = .int .i64 k ∧ Hid (PP w wr B2 b1 b2 m1 n (s.withI inn) s (.slice Ar xs.length cr) xs) ∧ Hid (s.inn = List.replicate n true))
      case atStart => exact ⟨0, _, by omega, by omega, rfl, HP, HI0⟩
      case round =>
        obtain ⟨k, s, hk, rfl, rfl, HP, HI⟩ := hrel
        by_cases hlt2 : k < ds.length
        · skip
          obtain ⟨bd, off, rfl, _, d, hd, d0, d1, d2⟩ := (H.out.below HP.out.fr).at_ hlt2
          have hdo : d.ok := by rw [hd, List.getD, List.getElem?_eq_getElem hlt2]; exact OK.out _ (List.getElem_mem hlt2)
          obtain ⟨o1, o2, o3⟩ := hdo
          have O1 := Lib.hid o1
          have O2 := Lib.hid o2
          obtain ⟨wd, hwd⟩ : ∃ wd, wd = wr.alloc (.cells #[.int .u8 d.kd, .int .i64 d.l, .int .i64 d.r] 29) := ⟨_, rfl⟩
          have hbd : Below wr.heap.size wr wd := by rw [hwd]; exact (Below.refl _ _).alloc (Nat.le_refl _) _
          have HDd : Hid (Blk wd wr.heap.size 29 #[.int .u8 d.kd, .int .i64 d.l, .int .i64 d.r]) := Lib.hid (by rw [hwd]; exact Blk.new wr _ _)
          have HPd := Lib.hid (HP.out.low hbd)
          have HWD := Lib.hid hwd
          have hkI : (k : Int) < (ds.length : Int) := by omega
          clear hd hwd hbd o1 o2 o3

          have HTM : Hid ((d.kd : Int).tmod 7 = (d.kd : Int) % 7) := Lib.hid (Int.tmod_eq_emod_of_nonneg (by omega))
          obtain ⟨t, ht⟩ : ∃ t : Nat, (d.kd : Int) % 7 = (t : Int) := ⟨d.kd % 7, by omega⟩
          have ht2 : (d.kd : Int).tmod 7 = (t : Int) := HTM.out.trans ht
          have et : IntKind.u8.wrap (t : Int) = (t : Int) := by simp [IntKind.wrap, IntKind.signed, IntKind.bits]; omega
          have c0 := HDd.out.cell 0
          have c1 := HDd.out.cell 1
          have c2 := HDd.out.cell 2
          simp at c0 c1 c2
          have HNX : Hid (∀ q, foot2 b2 m1 q → q ≠ wr.heap.size) := Lib.hid fun q hq => by have := HP.out.g.lt hq; omega
          by_cases h4 : (4 : Int) < (t : Int)
          · clear ht
            go_wp2_with fail
            (try rw [← HWD.out])
            go_roundg (ds.length - k)
            case measure => omega
            case rel => exact ⟨k + 1, s, by omega, by omega, by go_num, HPd, HI⟩
          · have hdo := Lib.hid (do_any16 HPd.out.g d.kd d.l d.r (by have := O1.out; omega) O2.out)
            obtain ⟨sd, hsd⟩ : ∃ sd, sd = s.deed d.kd d.l (d.r % 256).toNat := ⟨_, rfl⟩
            rw [← hsd] at hdo
            have HSD := Lib.hid hsd
            have ht4 : (t : Int) ≤ 4 := by omega
            have HT := Lib.hid ht
            clear hsd ht
            go_wp2_with fail
            (try rw [← HWD.out])
            refine hdo.out.mono ?_
            rintro e w5 ⟨rfl, k1⟩
            have HP5 := Lib.hid (HPd.out.stepG HC.out k1.pr k1.ft)
            have HD5 := Lib.hid (k1.ft.blk HDd.out fun h => HNX.out _ h rfl)
            clear k1 c0 c1 c2
            have c0 := HD5.out.cell 0
            have c1 := HD5.out.cell 1
            have c2 := HD5.out.cell 2
            simp at c0 c1 c2
            by_cases h3 : (t : Int) < 4
            · have HSB : Hid (sd = s.bump d.l) := Lib.hid (by rw [HSD.out]; unfold SP.deed; rw [if_pos (by have := HT.out; omega)])
              have HBU := Lib.hid (bump_st HP5.out.h d.l O2.out)
              rw [SP.bump_withI, ← HSB.out] at HBU
              have HI5 : Hid (sd.inn = List.replicate n true) := Lib.hid (by rw [HSB.out, SP.bump_inn16]; exact HI.out)
              clear h4
              go_wp2_with fail
              refine HBU.out.mono ?_
              rintro e w6 ⟨rfl, k1, k2⟩
              have HP6 := Lib.hid (HP5.out.stepH HC.out k1 k2)
              clear k1 k2
              go_wp2_with fail
              go_roundg (ds.length - k)
              case measure => omega
              case rel => exact ⟨k + 1, sd, by omega, by omega, by go_num, HP6, HI5⟩
            · obtain ⟨a, ha⟩ : ∃ a, a = (d.r % 256).toNat := ⟨_, rfl⟩
              have HSB : Hid (sd = s.decays a) := Lib.hid (by rw [HSD.out]; unfold SP.deed; rw [if_neg (by have := HT.out; omega), if_pos (by have := HT.out; omega), ha])
              have hand : bits .and .i64 d.r 255 = (a : Int) := by rw [i64_and_255]; omega
              have HI5 : Hid (sd.inn = List.replicate n true) := Lib.hid (by rw [HSB.out, SP.decays_inn16]; exact HI.out)
              have hab : a < 256 := by omega
              have HP5' : Hid (PP w w5 B2 b1 b2 m1 n ((s.decays 0).withI inn) sd (.slice Ar xs.length cr) xs) := HP5
              clear ha h4
              go_wp2_with fail
              go_loopg [84] (a + 1) (fun gk i wr => ∃ j : Nat, j ≤ a ∧ gk = a - j + 1 ∧ i = .int .i64 j ∧ Hid (PP w wr B2 b1 b2 m1 n ((s.decays j).withI inn) sd (.slice Ar xs.length cr) xs))
              case atStart => exact ⟨0, by omega, by omega, rfl, HP5'⟩
              case round =>
                obtain ⟨j, hj, rfl, rfl, HP⟩ := hrel
                by_cases hlt3 : j < a
                · have HDE := Lib.hid (decay_st HP.out.h)
                  rw [SP.decay_withI] at HDE
                  have hjI : (j : Int) < (a : Int) := by omega
                  go_wp2_with fail
                  refine HDE.out.mono ?_
                  rintro e w6 ⟨rfl, k1, k2⟩
                  have HP6 : Hid (PP w w6 B2 b1 b2 m1 n ((s.decays (j + 1)).withI inn) sd (.slice Ar xs.length cr) xs) := Lib.hid (HP.out.stepH HC.out k1 k2)
                  clear k1 k2
                  go_wp2_with fail
                  go_roundg (a - j)
                  case measure => omega
                  case rel => exact ⟨j + 1, by omega, by omega, by go_num, HP6⟩
                · obtain rfl : a = j := by omega
                  have HP7 : Hid (PP w wr B2 b1 b2 m1 n (sd.withI inn) sd (.slice Ar xs.length cr) xs) := Lib.hid (by have := HP.out; rw [← HSB.out] at this; exact this)
                  obtain ⟨w7, rfl⟩ : ∃ w7 : World, w7 = wr := ⟨_, rfl⟩
                  go_wp2_with fail
                  go_roundg (ds.length - k)
                  case measure => omega
                  case rel => exact ⟨k + 1, sd, by omega, by omega, by go_num, HP7, HI5⟩
        · obtain ⟨w5, rfl⟩ : ∃ w5 : World, w5 = wr := ⟨_, rfl⟩
          have HO0 : Hid (OutR n inn (xs.drop 0)) := HO
          go_wp2_with fail
          go_loopg [92] (xs.length + 1) (fun gk i wr => ∃ (j : Nat) (inn' : List Bool), j ≤ xs.length ∧ gk = xs.length - j + 1 ∧ i = .int .i64 j ∧ Hid (PP w wr B2 b1 b2 m1 n (s.withI inn') s (.slice Ar xs.length cr) xs) ∧ Hid (OutR n inn' (xs.drop j)))
          case atStart => exact ⟨0, inn, by omega, by omega, rfl, HP, HO0⟩
          case round =>
            obtain ⟨j, inn', hj, rfl, rfl, HP, HO⟩ := hrel
            by_cases hlt3 : j < xs.length
            · obtain ⟨x, hx⟩ : ∃ x, x = xs.getD j 0 := ⟨_, rfl⟩
              have hdrop : xs.drop j = x :: xs.drop (j + 1) := by
                rw [List.drop_eq_getElem_cons hlt3, hx]
                simp [List.getD, hlt3]
              have hO := HO.out
              rw [hdrop] at hO
              obtain ⟨p1, p2, p3, p4⟩ := hO.put
              obtain ⟨y, rfl⟩ : ∃ y, x = y + 1 := ⟨x - 1, by omega⟩
              rw [Nat.add_sub_cancel] at p3 p4
              have HP4 := Lib.hid p4
              obtain ⟨L, rfl, hL1, hL2⟩ := own_addr HP.out.row (by omega)
              have cx := World.ownsRow.cellAt HP.out.row j (by omega)
              have ex : (natV xs)[j]? = some (.int .i64 ((y + 1 : Nat) : Int)) := by
                rw [hx]
                simp [natV, List.getD, hlt3]
              rw [ex] at cx
              have HPU := Lib.hid (put_st HP.out.h ((y : Int) + 1) (by omega))
              have hls : (s.withI inn').sc.length = n := HP.out.h.good.ls
              have hV : (s.withI inn').isV ((y : Int) + 1) = true := SP.isV_iff.2 (by rw [hls]; omega)
              have hIn : (s.withI inn').isIn ((y : Int) + 1) = false := by rw [SP.isIn_at (n := n) hls (by omega)]; exact p3
              have hPU : (s.withI inn').put ((y : Int) + 1) = s.withI (inn'.set y true) := by
                unfold SP.put
                rw [if_pos hV, show ((y : Int) + 1).toNat - 1 = y by omega]
                rfl
              rw [hV, hIn, hPU] at HPU
              simp only [Int.natCast_add, Int.cast_ofNat_Int] at cx
              have hjI : (j : Int) < (xs.length : Int) := by omega
              clear hx hdrop hO p1 p2 p3 p4 ex hls hV hIn hPU
              go_wp2_with fail
              refine HPU.out.mono ?_
              rintro e w6 ⟨rfl, k1, k2⟩
              have HP6 := Lib.hid (HP.out.stepH HC.out k1 k2)
              clear k1 k2
              go_wp2_with fail
              go_roundg (xs.length - j)
              case measure => omega
              case rel => exact ⟨j + 1, _, by omega, by omega, by go_num, HP6, HP4⟩
            · obtain ⟨w6, rfl⟩ : ∃ w6 : World, w6 = wr := ⟨_, rfl⟩
              have hend : inn' = s.inn := by
                have := HO.out
                rw [List.drop_eq_nil_of_le (by omega)] at this
                rw [this.nil_all, HI.out]
              subst hend
              have HQ : Hid (QQ w w6 B2 b1 b2 n s) := Lib.hid ⟨HP.out.h, HP.out.g.st, HP.out.fr⟩
              go_wp2_with fail
              go_loopg [] (cntB s.inn n + 1) (fun gk wr => ∃ (s : SP), gk = cntB s.inn n + 1 ∧ Hid (QQ w wr B2 b1 b2 n s))
              case atStart => exact ⟨s, rfl, HQ⟩
              case round =>
                obtain ⟨s, rfl, HQ⟩ := hrel
                obtain ⟨w7, rfl⟩ : ∃ w7 : World, w7 = wr := ⟨_, rfl⟩
                have HG := Lib.hid HQ.out.g.good
                have HLG : Hid (Calls Try.prog 16 #[.pointer (some ⟨b2.g, 0, none⟩)] w7 fun e w' => e = .returned (.int .i64 (cntB s.inn n : Nat)) ∧ w7 = w') := Lib.hid (len_st HQ.out.g)
                have HLH : Hid (Calls Try.prog 16 #[.pointer (some ⟨b1.g, 0, none⟩)] w7 fun e w' => e = .returned (.int .i64 (cntB s.inn n : Nat)) ∧ w7 = w') := Lib.hid (len_st HQ.out.h)
                have HTG := Lib.hid (take_st HQ.out.g)
                have HTH : Hid (∀ w', St16 w' b1 n s → Calls Try.prog 19 #[.pointer (some ⟨b1.g, 0, none⟩)] w' fun e w'' => e = .returned (.tuple #[.int .i64 (s.first : Nat), .bool (decide (s.first ≠ 0))]) ∧ St16 w'' b1 n s.take ∧ Ft b1.foot w' w'') := Lib.hid fun w' h => take_st h
                have HFZ := Lib.hid (SP.first_zero HG.out)
                have HFI : Hid (∀ k, s.first = k + 1 → k < n ∧ cntB s.take.inn n + 1 = cntB s.inn n) := Lib.hid fun k hk => by
                  obtain ⟨t1, t2, t3, t4, t5⟩ := SP.first_in HG.out hk
                  exact ⟨t1, t4⟩
                obtain ⟨q, hq⟩ : ∃ q, q = cntB s.inn n := ⟨_, rfl⟩
                rw [← hq] at HLG HLH HFZ HFI
                have HQC := Lib.hid hq
                have hqn : q ≤ n := by rw [hq]; exact cntB_le _ _
                clear hq
                obtain ⟨f, hf⟩ : ∃ f, f = s.first := ⟨_, rfl⟩
                rw [← hf] at HTG HTH HFZ HFI
                clear hf
                rcases Nat.eq_zero_or_pos q with h0 | h0
                · subst h0
                  go_wp2_with fail
                  refine HLG.out.mono ?_
                  rintro e w8 ⟨rfl, rfl⟩
                  go_wp2_with fail
                  refine HLH.out.mono ?_
                  rintro e w8 ⟨rfl, rfl⟩
                  go_wp2
                  go_ret
                  exact ⟨rfl, HQ.out.fr⟩
                · have hf0 : f ≠ 0 := fun e => by have := HFZ.out.1 e; omega
                  obtain ⟨k, rfl⟩ : ∃ k, f = k + 1 := ⟨f - 1, by omega⟩
                  obtain ⟨t1, t2⟩ := HFI.out k rfl
                  rw [show decide (k + 1 ≠ 0) = true by simp] at HTG HTH
                  have T2 := Lib.hid t2
                  have T1 := Lib.hid t1
                  have hqI : (0 : Int) < (q : Int) := by omega
                  clear t2 h0 hf0 HFZ HFI
                  go_wp2_with fail
                  refine HLG.out.mono ?_
                  rintro e w8 ⟨rfl, rfl⟩
                  go_wp2_with fail
                  refine HTG.out.mono ?_
                  rintro e w8 ⟨rfl, k1, k2⟩
                  have HG8 := Lib.hid k1
                  have HH8 := Lib.hid (HQ.out.h.ft k2 fun q h1 h2 => HC.out.dj q h1 (.inl h2))
                  have HB8 := Lib.hid (HQ.out.fr.trans (k2.below HQ.out.fr.size fun q hq => HC.out.lo q (.inr (.inl hq))))
                  clear k1 k2
                  go_wp2_with fail
                  refine (HTH.out w8 HH8.out).mono ?_
                  rintro e w9 ⟨rfl, k1, k2⟩
                  have HH9 := Lib.hid k1
                  have HG9 := Lib.hid (HG8.out.ft k2 fun q h1 h2 => HC.out.dj q h2 (.inl h1))
                  have HB9 := Lib.hid (HB8.out.trans (k2.below HB8.out.size fun q hq => HC.out.lo q (.inl hq)))
                  clear k1 k2
                  have HQ9 : Hid (QQ w w9 B2 b1 b2 n s.take) := Lib.hid ⟨HH9.out, HG9.out, HB9.out⟩
                  have SH := Lib.hid (score_st HH9.out ((k : Int) + 1) (by omega))
                  have SG := Lib.hid (score_st HG9.out ((k : Int) + 1) (by omega))
                  obtain ⟨z, hz⟩ : ∃ z, z = s.take.score ((k : Int) + 1) := ⟨_, rfl⟩
                  rw [← hz] at SH SG
                  clear hz
                  go_wp2_with fail
                  refine SH.out.mono ?_
                  rintro e w10 ⟨rfl, rfl⟩
                  go_wp2_with fail
                  refine SG.out.mono ?_
                  rintro e w10 ⟨rfl, rfl⟩
                  go_wp2_with fail
                  go_roundg q
                  case measure => have := HQC.out; omega
                  case rel => exact ⟨s.take, by have := HQC.out; have := T2.out; omega, HQ9⟩

open Go.ChangeShapes Go.WideShapes Go.ChangeAt Go.Deep Go.Joins in
theorem puts_raw (a0 a2 : Int) (A : Option Addr) (c : Nat) (ds : List DeedV) (W : World) (w0 : (Lit.int .u8 a0).wf = true) (w2 : (Lit.int .u8 a2).wf = true) (hok : ∀ d ∈ ds, d.ok) (h : Deeds W W.heap.size A ds) :
    Calls Try.prog 6 #[.int .u8 a0, .slice A ds.length c, .int .u8 a2] W fun e w' => e = .returned (.bool true) ∧ Below W.heap.size W w' := by
  have b0 := bounds_u8 w0
  have b2 := bounds_u8 w2
  obtain ⟨n0, rfl⟩ : ∃ n : Nat, a0 = n := ⟨a0.toNat, by omega⟩
  obtain ⟨n2, rfl⟩ : ∃ n : Nat, a2 = n := ⟨a2.toNat, by omega⟩
  by_cases hm : 60 < ds.length
  · exact puts_out n0 n2 ds A c W hm
  · exact puts_in n0 n2 ds A c W (by omega) (by omega) (by omega) hok h
end Go.Proofs.Ytnimmlfccgnneaa
