/- The statement on the order in which all are taken. -/
import Derived.Test.YtnimmlfccgnneaaFit16
import Derived.Test.YtnimmlfccgnneaaCnt16
namespace Go.Proofs.Ytnimmlfccgnneaa
open Go.RowKit
set_option linter.unusedVariables false
set_option linter.unusedSimpArgs false

set_option maxRecDepth 100000 in
set_option maxHeartbeats 2000000 in
theorem order_out (kk : Nat) (ds : List DeedV) (A0 : Option Addr) (c0 : Nat) (w : World) (hm : 100 < ds.length) :
    Calls Try.prog 5 #[.int .u8 kk, .slice A0 ds.length c0] w fun e w' => e = .returned (.bool true) ∧ Below w.heap.size w w' := by
  go_enter Try.func5, Try.ntmps5
  go_wp2_with fail
  refine (fit_any16 w).mono ?_
  rintro e w1 ⟨rfl, hb⟩
  go_wp2
  go_ret
  exact ⟨rfl, hb⟩

set_option maxRecDepth 100000 in
set_option maxHeartbeats 20000000 in
theorem order_in (kk : Nat) (ds : List DeedV) (A0 : Option Addr) (c0 : Nat) (w : World) (hkk : kk ≤ 255) (hn : ds.length ≤ 100) (hok : ∀ d ∈ ds, d.ok) (h : Deeds w w.heap.size A0 ds) :
    Calls Try.prog 5 #[.int .u8 kk, .slice A0 ds.length c0] w fun e w' => e = .returned (.bool true) ∧ Below w.heap.size w w' := by
  have H := Lib.hid h
  have OK := Lib.hid hok
  clear h hok
  obtain ⟨n, hn20⟩ : ∃ n, kk % 20 = n := ⟨_, rfl⟩
  have e1 : (kk : Int) % 20 = (n : Int) := by omega
  have e2 : Int.tmod (kk : Int) 20 = (n : Int) := by rw [Int.tmod_eq_emod_of_nonneg (by omega)]; exact e1
  have hn19 : n ≤ 19 := by omega
  have e3 : IntKind.u8.wrap (n : Int) = (n : Int) := by simp [IntKind.wrap, IntKind.signed, IntKind.bits]; omega
  clear hn20
  go_enter Try.func5, Try.ntmps5
  go_wp2_with fail
  refine (fit_any16 w).mono ?_
  rintro e w1 ⟨rfl, hb⟩
  have HB1 := Lib.hid hb
  clear hb

  go_wp2_with fail
  refine (begin_any16 n (by omega) w1).mono ?_
  rintro e w2 ⟨b, m, rfl, k1, k2, k3⟩
  have HP0 : Hid (Lp16 w w2 b m n (SP.fresh n)) := Lib.hid ⟨k1, HB1.out.trans (k2.mono HB1.out.size)⟩
  have HN : Hid (∀ q, foot2 b m q → w.heap.size ≤ q) := Lib.hid fun q hq => Nat.le_trans HB1.out.size (k3 q hq)
  clear k1 k2 k3

  go_wp2_with fail
  go_loopg [30] (ds.length + 1) (fun gk i wr => ∃ (k : Nat) (s : SP), k ≤ ds.length ∧ gk = ds.length - k + 1 ∧ i = .int .i64 k ∧ Hid (Lp16 w wr b m n s))
  case atStart => exact ⟨0, _, by omega, by omega, rfl, HP0⟩
  case round =>
    obtain ⟨k, s, hk, rfl, rfl, HP⟩ := hrel
    by_cases hlt : k < ds.length
    · skip
      obtain ⟨bd, off, rfl, _, d, hd, d0, d1, d2⟩ := (H.out.below HP.out.fr).at_ hlt
      have hdo : d.ok := by rw [hd, List.getD, List.getElem?_eq_getElem hlt]; exact OK.out _ (List.getElem_mem hlt)
      obtain ⟨o1, o2, o3⟩ := hdo
      have O1 := Lib.hid o1
      have O2 := Lib.hid o2
      obtain ⟨wd, hwd⟩ : ∃ wd, wd = wr.alloc (.cells #[.int .u8 d.kd, .int .i64 d.l, .int .i64 d.r] 29) := ⟨_, rfl⟩
      have hbd : Below wr.heap.size wr wd := by rw [hwd]; exact (Below.refl _ _).alloc (Nat.le_refl _) _
      have HDd : Hid (Blk wd wr.heap.size 29 #[.int .u8 d.kd, .int .i64 d.l, .int .i64 d.r]) := Lib.hid (by rw [hwd]; exact Blk.new wr _ _)
      have HPd := Lib.hid (HP.out.low hbd)
      have HWD := Lib.hid hwd
      have hkI : (k : Int) < (ds.length : Int) := by omega
      clear hd hwd hbd o1 o2 o3
      go_wp2_with fail
      (try rw [← HWD.out])
      refine (do_any16 HPd.out.pr d.kd d.l d.r (by have := O1.out; omega) O2.out).mono ?_
      rintro e w3 ⟨rfl, k1⟩
      have HP3 := Lib.hid (HPd.out.step k1 HN.out)
      clear k1

      go_wp2_with fail
      go_roundg (ds.length - k)
      case measure => omega
      case rel => exact ⟨k + 1, _, by omega, by omega, by go_num, HP3⟩
    · obtain ⟨w4, rfl⟩ : ∃ w4 : World, w4 = wr := ⟨_, rfl⟩
      have HCB : Hid (cntB s.inn n ≤ n) := Lib.hid (cntB_le _ _)
      skip
      go_wp2_with fail
      go_loopg [10] (cntB s.inn n + 1) (fun gk lv wr => ∃ (l : Nat) (s : SP), gk = cntB s.inn n + 1 ∧ lv = .int .i64 l ∧ l ≤ n ∧ Hid (Lp16 w wr b m n s) ∧ Hid (0 < l → ∀ u, 1 ≤ u → u ≤ n → s.inn.getD (u - 1) false = true → ah s.sc l u))
      case atStart => exact ⟨0, _, rfl, rfl, by omega, HP, Lib.hid fun h => by omega⟩
      case round =>
        obtain ⟨l, s, rfl, rfl, hl, HP, HO⟩ := hrel
        obtain ⟨w5, rfl⟩ : ∃ w5 : World, w5 = wr := ⟨_, rfl⟩
        have HG := Lib.hid HP.out.pr.st.good
        have HLEN : Hid (Calls Try.prog 16 #[.pointer (some ⟨b.g, 0, none⟩)] w5 fun e w' => e = .returned (.int .i64 (cntB s.inn n : Nat)) ∧ w5 = w') := Lib.hid (len_st HP.out.pr.st)
        obtain ⟨c, hc⟩ : ∃ c, c = cntB s.inn n := ⟨_, rfl⟩
        rw [← hc] at HLEN
        have HC := Lib.hid hc
        have HTK := Lib.hid (take_st HP.out.pr.st)
        have HFZ : Hid (s.first = 0 ↔ c = 0) := Lib.hid (by rw [hc]; exact SP.first_zero HG.out)
        have hcb : c ≤ n := by rw [hc]; exact cntB_le _ _
        clear hc
        obtain ⟨f, hf⟩ : ∃ f, f = s.first := ⟨_, rfl⟩
        rw [← hf] at HTK HFZ
        have HF := Lib.hid hf
        clear hf
        rcases Nat.eq_zero_or_pos c with h0 | h0
        · have hf0 : f = 0 := HFZ.out.2 h0
          subst hf0
          subst h0
          rw [show decide ((0 : Nat) ≠ 0) = false by decide] at HTK
          have HTS : Hid (s.take = s) := Lib.hid (by unfold SP.take; rw [if_pos HF.out.symm])
          go_wp2_with fail
          refine HLEN.out.mono ?_
          rintro e w6 ⟨rfl, rfl⟩
          go_wp2_with fail
          refine HTK.out.mono ?_
          rintro e w6 ⟨rfl, k1, k2⟩
          rw [HTS.out] at k1
          have M6 := Lib.hid (HP.out.pr.md.ft k2 fun q h1 h2 => HP.out.pr.dj q h2 h1)
          have B6 := Lib.hid (HP.out.fr.trans (k2.below HP.out.fr.size fun q hq => HN.out q (.inl hq)))
          clear k1 k2
          go_wp2_with fail
          refine (mfirst_any M6.out).mono ?_
          rintro e w7 ⟨rfl, j, rfl⟩
          rw [← HF.out]
          go_wp2
          go_ret
          exact ⟨rfl, below_drewN B6.out j⟩
        · have hf0 : f ≠ 0 := fun e => by have := HFZ.out.1 e; omega
          obtain ⟨k, rfl⟩ : ∃ k, f = k + 1 := ⟨f - 1, by omega⟩
          rw [show decide (k + 1 ≠ 0) = true by simp] at HTK
          obtain ⟨t1, t2, t3, t4, t5⟩ := SP.first_in HG.out HF.out.symm
          have T2 := Lib.hid t2
          have T3 := Lib.hid t3
          have T4 := Lib.hid t4
          have T5 := Lib.hid t5
          have T1 := Lib.hid t1
          have hkI : (k : Int) < (n : Int) := by omega
          have hkJ : (k : Int) + 1 < (n : Int) + 1 := by omega
          have hcI : (0 : Int) < (c : Int) := by omega
          clear t2 t3 t4 t5 h0 hf0
          go_wp2_with fail
          refine HLEN.out.mono ?_
          rintro e w6 ⟨rfl, rfl⟩
          go_wp2_with fail
          refine HTK.out.mono ?_
          rintro e w6 ⟨rfl, k1, k2⟩
          have K1 := Lib.hid k1
          have M6 := Lib.hid (HP.out.pr.md.ft k2 fun q h1 h2 => HP.out.pr.dj q h2 h1)
          have B6 := Lib.hid (HP.out.fr.trans (k2.below HP.out.fr.size fun q hq => HN.out q (.inl hq)))
          clear k1 k2
          have g1 := M6.out.g1
          have ci := M6.out.cI T1.out
          rw [T2.out] at ci
          have fi := BlkB.frozen M6.out.hI (k + 1)
          have M7 := Lib.hid (M6.out.setI k false)
          have F7 := (Ft.refl (F := m.foot) w6).set (q := m.I) (fun _ => .inr (.inr rfl)) (k + 1) (.bool false)
          have HP7 : Hid (Lp16 w (w6.setCell ⟨m.I, k + 1, none⟩ (.bool false)) b m n s.take) := Lib.hid ⟨⟨K1.out.ft F7 HP.out.pr.dj, by rw [T3.out]; exact M7.out, HP.out.pr.dj⟩, B6.out.trans (F7.below B6.out.size fun q hq => HN.out q (.inr hq))⟩
          obtain ⟨w7, hw7⟩ : ∃ w7, w7 = w6.setCell ⟨m.I, k + 1, none⟩ (.bool false) := ⟨_, rfl⟩
          rw [← hw7] at HP7
          have HW7 := Lib.hid hw7
          clear F7 hw7
          have HSA : Hid (∀ j, j < n → s.take.score ((j : Int) + 1) = s.sc.getD j 0) := Lib.hid fun j hj => by
            rw [SP.score_at (n := n) (by rw [T3.out]; exact HG.out.ls) hj, T3.out]
          have HREL : Hid (0 < k + 1 → ∀ u, 1 ≤ u → u ≤ n → s.take.inn.getD (u - 1) false = true → ah s.take.sc (k + 1) u) := Lib.hid fun _ u a1 a2 a3 => by
            rw [show s.take.sc = s.sc by rw [T3.out]]
            exact T5.out u a1 a2 a3
          rcases Nat.eq_zero_or_pos l with hl0 | hl0
          · subst hl0
            go_wp2_with fail
            rw [← HW7.out]
            go_roundg c
            case measure => have := HC.out; omega
            case rel => exact ⟨k + 1, s.take, by have := HC.out; have := T4.out; omega, by go_num, by omega, HP7, HREL⟩
          · obtain ⟨j, rfl⟩ : ∃ j, l = j + 1 := ⟨l - 1, by omega⟩
            have hjn : j < n := by omega
            have hah := HO.out (by omega) (k + 1) (by omega) (by omega) (by rw [Nat.add_sub_cancel]; exact T2.out)
            have SV := Lib.hid ((HSA.out k t1) ▸ score_st HP7.out.pr.st ((k : Int) + 1) (by omega))
            have SL := Lib.hid ((HSA.out j hjn) ▸ score_st HP7.out.pr.st ((j : Int) + 1) (by omega))
            unfold ah at hah
            rw [SP.scV_at, SP.scV_at] at hah
            obtain ⟨x, hx⟩ : ∃ x, x = s.sc.getD k 0 := ⟨_, rfl⟩
            obtain ⟨y, hy⟩ : ∃ y, y = s.sc.getD j 0 := ⟨_, rfl⟩
            rw [← hx] at SV hah
            rw [← hy] at SL hah
            have c1 : ¬ (y : Int) < (x : Int) := by omega
            have HAH := Lib.hid hah
            clear hx hy hah hl0
            by_cases hxy : x = y
            · subst hxy
              have c2 : ¬ ((k : Int) + 1 < (j : Int) + 1) := by have := HAH.out; omega
              have c3 : ¬ (k : Int) < (j : Int) := by omega
              go_wp2_with fail
              rw [← HW7.out]
              refine SV.out.mono ?_
              rintro e w8 ⟨rfl, rfl⟩
              go_wp2_with fail
              refine SL.out.mono ?_
              rintro e w8 ⟨rfl, rfl⟩
              go_wp2_with fail
              refine SV.out.mono ?_
              rintro e w8 ⟨rfl, rfl⟩
              go_wp2_with fail
              refine SL.out.mono ?_
              rintro e w8 ⟨rfl, rfl⟩
              go_wp2_with fail
              go_roundg c
              case measure => have := HC.out; omega
              case rel => exact ⟨k + 1, s.take, by have := HC.out; have := T4.out; omega, by go_num, by omega, HP7, HREL⟩
            · have c2 : ((x : Int) == (y : Int)) = false := by simp; omega
              clear hxy
              go_wp2_with fail
              rw [← HW7.out]
              refine SV.out.mono ?_
              rintro e w8 ⟨rfl, rfl⟩
              go_wp2_with fail
              refine SL.out.mono ?_
              rintro e w8 ⟨rfl, rfl⟩
              go_wp2_with fail
              refine SV.out.mono ?_
              rintro e w8 ⟨rfl, rfl⟩
              go_wp2_with fail
              refine SL.out.mono ?_
              rintro e w8 ⟨rfl, rfl⟩
              go_wp2_with fail
              go_roundg c
              case measure => have := HC.out; omega
              case rel => exact ⟨k + 1, s.take, by have := HC.out; have := T4.out; omega, by go_num, by omega, HP7, HREL⟩

open Go.ChangeShapes Go.WideShapes Go.ChangeAt Go.Deep Go.Joins in
theorem order_raw (a0 : Int) (A : Option Addr) (c : Nat) (ds : List DeedV) (W : World) (w0 : (Lit.int .u8 a0).wf = true) (hok : ∀ d ∈ ds, d.ok) (h : Deeds W W.heap.size A ds) :
    Calls Try.prog 5 #[.int .u8 a0, .slice A ds.length c] W fun e w' => e = .returned (.bool true) ∧ Below W.heap.size W w' := by
  have b0 := bounds_u8 w0
  obtain ⟨n0, rfl⟩ : ∃ n : Nat, a0 = n := ⟨a0.toNat, by omega⟩
  by_cases hm : 100 < ds.length
  · exact order_out n0 ds A c W hm
  · exact order_in n0 ds A c W (by omega) (by omega) hok h
end Go.Proofs.Ytnimmlfccgnneaa
