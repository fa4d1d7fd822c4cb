/- The law's do: a deed of both. -/
import Derived.Test.YtnimmlfccgnneaaDo16
namespace Go.Proofs.Ytnimmlfccgnneaa
open Go.RowKit
set_option linter.unusedVariables false
set_option linter.unusedSimpArgs false

/-- what was done of both, as far as it goes -/
structure Done16 (w0 w : World) (b : HB) (m : MB) (n : Nat) (s : SP) : Prop where
  pr : Pr16 w b m n s
  ft : Ft (foot2 b m) w0 w

set_option maxRecDepth 4000 in
set_option maxHeartbeats 8000000 in
theorem do_any16 {w : World} {b : HB} {m : MB} {n : Nat} {s : SP} (h : Pr16 w b m n s) (K V N : Int) (hK : 0 ≤ K ∧ K < 256) (hV : -9223372036854775808 ≤ V ∧ V ≤ 9223372036854775807) :
    Calls Try.prog 10 #[.pointer (some ⟨b.g, 0, none⟩), .pointer (some ⟨m.g, 0, none⟩), .agg #[.int .u8 K, .int .i64 V, .int .i64 N]] w fun e w' => e = .returned (.bool true) ∧ Done16 w w' b m n (s.deed K V (N % 256).toNat) := by
  obtain ⟨bx, hbx⟩ : ∃ bx, bx = w.heap.size := ⟨_, rfl⟩
  obtain ⟨wa, hwa⟩ : ∃ wa, wa = w.alloc (.cells #[.int .u8 K, .int .i64 V, .int .i64 N] 29) := ⟨_, rfl⟩
  have HW := Lib.hid hwa
  have HBX := Lib.hid hbx
  obtain ⟨sd, hsd⟩ : ∃ sd, sd = s.deed K V (N % 256).toNat := ⟨_, rfl⟩
  rw [← hsd]
  have HD : Hid (sd = if K % 7 < 4 then s.bump V else if K % 7 = 4 then s.decays (N % 256).toNat else if K % 7 = 5 then s.take else s.put V) := Lib.hid hsd
  clear hsd
  have HPA : Hid (Pr16 wa b m n s) := Lib.hid (by rw [hwa]; exact h.low ((Below.refl _ _).alloc (Nat.le_refl _) _))
  have HFA : Hid (Ft (foot2 b m) w wa) := Lib.hid (by rw [hwa]; exact Ft.of_below ((Below.refl _ _).alloc (Nat.le_refl _) _))
  have HB : Hid (Blk wa bx 29 #[.int .u8 K, .int .i64 V, .int .i64 N]) := Lib.hid (by rw [hwa, hbx]; exact Blk.new _ _ _)
  have HNF : Hid (∀ q, foot2 b m q → q ≠ bx) := Lib.hid fun q hq => by have := h.lt hq; omega
  have HLS : Hid (s.sc.length = n) := Lib.hid h.st.good.ls
  have hnb : n ≤ 100000 := h.st.good.few
  have HFE : Hid (∀ q, m.foot q → ¬ b.foot q) := Lib.hid fun q h1 h2 => h.dj q h2 h1
  have HG := Lib.hid h.st.good
  have HV := Lib.hid hV
  have HK := Lib.hid hK
  clear h hwa hV hK
  go_enter Try.func10, Try.ntmps10
  go_wp2_with fail
  rw [← HW.out, ← HBX.out]
  clear hbx
  have c0 := HB.out.cell 0
  have c1 := HB.out.cell 1
  have c2 := HB.out.cell 2
  simp at c0 c1 c2
  go_cut [7] (fun v wx => ∃ q, v = .bool (s.isV V) ∧ wx = wa.drewN q)
  case first =>
    have g0 := HPA.out.md.g0
    by_cases h1 : 1 ≤ V
    · by_cases h2 : V < (n : Int) + 1
      · have e : s.isV V = true := SP.isV_iff.2 (by rw [HLS.out]; omega)
        have HE := Lib.hid e
        have d1 : decide ((1 : Int) ≤ V) = true := decide_eq_true h1
        have d2 : decide (V < (n : Int) + 1) = true := decide_eq_true h2
        clear e h1 h2
        go_region
        go_wp2_with fail
        go_meet
        exact ⟨_, by rw [HE.out], rfl⟩
      · have e : s.isV V = false := by rw [Bool.eq_false_iff]; intro hh; rw [SP.isV_iff, HLS.out] at hh; omega
        have HE := Lib.hid e
        have d1 : decide ((1 : Int) ≤ V) = true := decide_eq_true h1
        have d2 : decide (V < (n : Int) + 1) = false := decide_eq_false h2
        clear e h1 h2
        go_region
        go_wp2_with fail
        go_meet
        exact ⟨_, by rw [HE.out], rfl⟩
    · have e : s.isV V = false := by rw [Bool.eq_false_iff]; intro hh; rw [SP.isV_iff, HLS.out] at hh; omega
      have HE := Lib.hid e
      have d1 : decide ((1 : Int) ≤ V) = false := decide_eq_false h1
      clear e h1
      go_region
      go_wp2_with fail
      go_meet
      exact ⟨_, by rw [HE.out], rfl⟩
  case rest =>
    obtain ⟨q, rfl, rfl⟩ := hcut
    obtain ⟨w1, hw1⟩ : ∃ w1, w1 = wa.drewN q := ⟨_, rfl⟩
    rw [← hw1]
    have HP1 : Hid (Pr16 w1 b m n s) := Lib.hid (by rw [hw1]; exact HPA.out.ft (F := fun _ => False) ((Ft.refl wa).drewN q) fun _ _ e => e)
    have HF1 : Hid (Ft (foot2 b m) w w1) := Lib.hid (by rw [hw1]; exact HFA.out.drewN q)
    have HB1 : Hid (Blk w1 bx 29 #[.int .u8 K, .int .i64 V, .int .i64 N]) := Lib.hid (by rw [hw1]; exact HB.out.drewN q)
    clear hw1 c0 c1 c2 HW HPA HFA HB
    have c0 := HB1.out.cell 0
    have c1 := HB1.out.cell 1
    have c2 := HB1.out.cell 2
    simp at c0 c1 c2
    have hk0 := HK.out
    have HTM : Hid (K.tmod 7 = K % 7) := Lib.hid (Int.tmod_eq_emod_of_nonneg hk0.1)
    rcases (show K % 7 < 4 ∨ K % 7 = 4 ∨ K % 7 = 5 ∨ K % 7 = 6 by omega) with hk | hk | hk | hk
    · have HSB : Hid (sd = s.bump V) := Lib.hid (by rw [HD.out, if_pos hk])
      clear HD
      rcases (show K % 7 = 0 ∨ K % 7 = 1 ∨ K % 7 = 2 ∨ K % 7 = 3 by omega) with hk | hk | hk | hk
      all_goals
        replace hk := HTM.out.trans hk
        clear hk0
        rcases hv : s.isV V with _ | _
        · have e : s.bump V = s := by unfold SP.bump; rw [if_neg (by simp [hv])]
          have HSS : Hid (sd = s) := Lib.hid (HSB.out.trans e)
          have HBP := Lib.hid (hv ▸ bump_st HP1.out.st V HV.out)
          rw [e] at HBP
          clear e hv
          go_wp2_with fail
          refine HBP.out.mono ?_
          rintro e w2 ⟨rfl, k1, k2⟩
          have H2 : Hid (Done16 w w2 b m n s) := Lib.hid ⟨⟨k1, HP1.out.md.ft k2 HFE.out, HP1.out.dj⟩, HF1.out.trans (k2.mono fun q h => .inl h) NewF.refl⟩
          clear k1 k2
          go_wp2
          go_ret
          exact ⟨rfl, by rw [HSS.out]; exact H2.out⟩
        · have hvi := SP.isV_iff.1 hv
          rw [HLS.out] at hvi
          obtain ⟨k, rfl⟩ : ∃ k : Nat, V = (k : Int) + 1 := ⟨V.toNat - 1, by omega⟩
          have hkn : k < n := by omega
          have ek : ((k : Int) + 1).toNat - 1 = k := by omega
          have HBU : Hid (s.bump ((k : Int) + 1) = if 1125899906842624 < (s.up k).sc.getD k 0 then (s.up k).low else s.up k) := Lib.hid (by unfold SP.bump; rw [if_pos hv, ek])
          have HBP := Lib.hid (hv ▸ bump_st HP1.out.st ((k : Int) + 1) HV.out)
          have HUG : Hid ((s.up k).sc.getD k 0 = s.sc.getD k 0 + s.rise) := Lib.hid (SP.up_get (by rw [HLS.out]; exact hkn))
          have hx1 := HG.out.cap k
          have hrc := HG.out.rc
          obtain ⟨x, hx⟩ : ∃ x : Nat, x = s.sc.getD k 0 := ⟨_, rfl⟩
          rw [← hx] at HUG hx1
          obtain ⟨y, hy⟩ : ∃ y : Nat, y = x + s.rise := ⟨_, rfl⟩
          rw [← hy] at HUG
          have hsum : (x : Int) + (s.rise : Int) = (y : Int) := by omega
          have hyb : y ≤ 2251799813685248 := by omega
          have wy : IntKind.i64.wrap (y : Int) = (y : Int) := i64_mid (by omega)
          have HX := Lib.hid hx
          have HY := Lib.hid hy
          have HKN := Lib.hid hkn
          have hkJ : (k : Int) + 1 < (n : Int) + 1 := by omega
          have hkI : (k : Int) < (n : Int) := by omega
          clear hv hvi ek hx hy hkn
          go_wp2_with fail
          refine HBP.out.mono ?_
          rintro e w2 ⟨rfl, k1, k2⟩
          have K1 := Lib.hid k1
          have F2 := Lib.hid (HF1.out.trans (k2.mono (F' := foot2 b m) fun q h => .inl h) NewF.refl)
          have M2 := Lib.hid (HP1.out.md.ft k2 HFE.out)
          have B2 := Lib.hid (k2.blk HB1.out fun h => HNF.out _ (.inl h) rfl)
          clear k1 k2 c0 c1 c2
          have c1 := B2.out.cell 1
          simp at c1
          have g0 := M2.out.g0
          have g2 := M2.out.g2
          have ck := M2.out.cS HKN.out
          rw [← HX.out] at ck
          have fk := M2.out.hS.frozen (k + 1)
          have hms := M2.out.setS k y (by omega)
          have M3 := Lib.hid hms
          have F3 := Lib.hid (F2.out.set (q := m.S) (fun _ => .inr (.inr (.inl rfl))) (k + 1) (.int .i64 (y : Nat)))
          have B3 := Lib.hid (B2.out.far (p := ⟨m.S, k + 1, none⟩) (Ne.symm (HNF.out m.S (.inr (.inr (.inl rfl))))) (.int .i64 (y : Nat)))
          have K3 := Lib.hid (K1.out.ft ((Ft.refl (F := m.foot) w2).set (q := m.S) (fun _ => .inr (.inl rfl)) (k + 1) (.int .i64 (y : Nat))) HP1.out.dj)
          clear hms
          go_wp2_with fail
          go_region
          obtain ⟨w3, hw3⟩ : ∃ w3, w3 = (w2.setCell ⟨m.S, k + 1, none⟩ (.int .i64 (y : Nat))).drew := ⟨_, rfl⟩
          (try rw [← hw3])
          have M4 : Hid (Md w3 m n ⟨s.sc.set k y, s.inn, s.rise⟩) := Lib.hid (by rw [hw3]; exact M3.out.drew)
          have F4 : Hid (Ft (foot2 b m) w w3) := Lib.hid (by rw [hw3]; exact F3.out.drew)
          have B4 : Hid (Blk w3 bx 29 #[.int .u8 K, .int .i64 ((k : Int) + 1), .int .i64 N]) := Lib.hid (by rw [hw3]; exact B3.out.drew_)
          have K4 : Hid (St16 w3 b n (s.bump ((k : Int) + 1))) := Lib.hid (by rw [hw3]; exact K3.out.drewN 1)
          clear hw3 c1 g0 g2 ck fk
          have c1 := B4.out.cell 1
          simp at c1
          have g0 := M4.out.g0
          have ck := M4.out.cS HKN.out
          have egy : (s.sc.set k y).getD k 0 = y := by rw [getD_set_nat, if_pos ⟨rfl, by rw [HLS.out]; exact HKN.out⟩]
          simp only [egy] at ck
          have HUS : Hid (s.up k = ⟨s.sc.set k y, s.inn, s.rise⟩) := Lib.hid (by rw [HY.out, HX.out]; rfl)
          clear egy
          by_cases hbg : (1125899906842624 : Int) < (y : Int)
          · have HBL : Hid (s.bump ((k : Int) + 1) = (SP.mk (s.sc.set k y) s.inn s.rise).low) := Lib.hid (by rw [HBU.out, HUG.out, if_pos (by omega), HUS.out])
            go_wp2_with fail
            go_region
            go_wp2_with fail
            refine (mlow_any M4.out.drew).mono ?_
            rintro e w5 ⟨rfl, k1, k2⟩
            have H5 : Hid (Done16 w w5 b m n (s.bump ((k : Int) + 1))) := Lib.hid ⟨⟨(K4.out.drewN 1).ft k2 HP1.out.dj, by rw [HBL.out]; exact k1, HP1.out.dj⟩, F4.out.drew.trans (k2.mono fun q h => .inr h) NewF.refl⟩
            clear k1 k2
            go_wp2
            go_ret
            exact ⟨rfl, by rw [HSB.out]; exact H5.out⟩
          · have HBL : Hid (s.bump ((k : Int) + 1) = SP.mk (s.sc.set k y) s.inn s.rise) := Lib.hid (by rw [HBU.out, HUG.out, if_neg (by omega), HUS.out])
            go_wp2_with fail
            go_region
            go_wp2
            go_ret
            exact ⟨rfl, by rw [HSB.out]; exact ⟨⟨K4.out.drewN 1, by rw [HBL.out]; exact M4.out.drew, HP1.out.dj⟩, F4.out.drew⟩⟩
    · obtain ⟨a, ha⟩ : ∃ a, a = (N % 256).toNat := ⟨_, rfl⟩
      have HSB : Hid (sd = s.decays a) := Lib.hid (by rw [HD.out, if_neg (by omega), if_pos hk, ha])
      replace hk := HTM.out.trans hk
      have hand : bits .and .i64 N 255 = (a : Int) := by rw [i64_and_255]; omega
      have hab : a < 256 := by omega
      have HR0 : Hid (Done16 w w1 b m n (s.decays 0)) := Lib.hid ⟨HP1.out, HF1.out⟩
      clear hk0 ha HD
      go_wp2_with fail
      go_loopg [94] (a + 1) (fun gk iv wr => ∃ j : Nat, j ≤ a ∧ gk = a - j + 1 ∧ iv = .int .i64 (j : Nat) ∧ Hid (Done16 w wr b m n (s.decays j)))
      case atStart => exact ⟨0, by omega, by omega, rfl, HR0⟩
      case round =>
        obtain ⟨j, hj, rfl, rfl, HR⟩ := hrel
        by_cases hlt : j < a
        · obtain ⟨t, ht⟩ : ∃ t, t = s.decays j := ⟨_, rfl⟩
          have HT1 : Hid (s.decays (j + 1) = t.decay) := Lib.hid (by rw [ht]; rfl)
          rw [← ht] at HR
          have hjI : (j : Int) < (a : Int) := by omega
          clear ht c0 c1 c2
          go_wp2_with fail
          refine (decay_st HR.out.pr.st).mono ?_
          rintro e w2 ⟨rfl, k1, k2⟩
          have K1 := Lib.hid k1
          have F2 := Lib.hid (HR.out.ft.trans (k2.mono (F' := foot2 b m) fun q h => .inl h) NewF.refl)
          have M2 := Lib.hid (HR.out.pr.md.ft k2 HFE.out)
          have hrc := HR.out.pr.st.good.rc
          clear k1 k2
          have g2 := M2.out.g2
          have fg := M2.out.hg.frozen 2
          obtain ⟨q, hq⟩ : ∃ q : Nat, q = 16 * t.rise / 15 + 1 := ⟨_, rfl⟩
          have HRO : Hid (t.rose = ⟨t.sc, t.inn, q⟩) := Lib.hid (by rw [hq]; rfl)
          have M3 := Lib.hid (M2.out.setR q (by omega))
          have F3 := Lib.hid (F2.out.set (q := m.g) (fun _ => .inr (.inl rfl)) 2 (.int .i64 (q : Nat)))
          have K3 := Lib.hid (K1.out.ft ((Ft.refl (F := m.foot) w2).set (q := m.g) (fun _ => .inl rfl) 2 (.int .i64 (q : Nat))) HP1.out.dj)
          have g2' := M3.out.g2
          have x1 : IntKind.i64.wrap ((t.rise : Int) * 16) = (t.rise : Int) * 16 := i64_mid (by omega)
          have x2 : Int.tdiv ((t.rise : Int) * 16) 15 = (q : Int) - 1 := by rw [Int.tdiv_eq_ediv_of_nonneg (by omega)]; omega
          have x2b : ((t.rise : Int) * 16) / 15 = (q : Int) - 1 := by omega
          have x3 : ((q : Int) - 1 + 1) = (q : Int) := by omega
          have x4 : IntKind.i64.wrap ((q : Int) - 1) = (q : Int) - 1 := i64_mid (by omega)
          have x5 : IntKind.i64.wrap (q : Int) = (q : Int) := i64_mid (by omega)
          have hqb : q ≤ 2251799813685248 := by omega
          clear hq hrc
          simp only at g2'
          by_cases hbg : (1125899906842624 : Int) < (q : Int)
          · have HDE : Hid (t.decay = (SP.mk t.sc t.inn q).low) := Lib.hid (by unfold SP.decay; rw [HRO.out, if_pos (by show 1125899906842624 < q; omega)])
            go_wp2_with fail
            refine (mlow_any M3.out).mono ?_
            rintro e w5 ⟨rfl, k1, k2⟩
            have H5 : Hid (Done16 w w5 b m n (s.decays (j + 1))) := Lib.hid (by rw [HT1.out]; exact ⟨⟨K3.out.ft k2 HP1.out.dj, by rw [HDE.out]; exact k1, HP1.out.dj⟩, F3.out.trans (k2.mono fun q h => .inr h) NewF.refl⟩)
            clear k1 k2
            go_wp2_with fail
            go_roundg (a - j)
            case measure => omega
            case rel => exact ⟨j + 1, by omega, by omega, by go_num, H5⟩
          · have HDE : Hid (t.decay = SP.mk t.sc t.inn q) := Lib.hid (by unfold SP.decay; rw [HRO.out, if_neg (by show ¬ 1125899906842624 < q; omega)])
            have H5 : Hid (Done16 w (w2.setCell ⟨m.g, 2, none⟩ (.int .i64 (q : Nat))) b m n (s.decays (j + 1))) := Lib.hid (by rw [HT1.out]; exact ⟨⟨K3.out, by rw [HDE.out]; exact M3.out, HP1.out.dj⟩, F3.out⟩)
            go_wp2_with fail
            go_roundg (a - j)
            case measure => omega
            case rel => exact ⟨j + 1, by omega, by omega, by go_num, H5⟩
        · obtain rfl : a = j := by omega
          clear hlt
          go_wp2
          go_ret
          exact ⟨rfl, by rw [HSB.out]; exact HR.out⟩
    · have HSB : Hid (sd = s.take) := Lib.hid (by rw [HD.out, if_neg (by omega), if_neg (by omega), if_pos hk])
      replace hk := HTM.out.trans hk
      have HTK := Lib.hid (take_st HP1.out.st)
      have HTE : Hid (s.take = if s.first = 0 then s else ⟨s.sc, s.inn.set (s.first - 1) false, s.rise⟩) := Lib.hid rfl
      have HFL : Hid (s.first ≤ n) := Lib.hid (by rw [← HLS.out]; exact SP.first_le)
      have HMF : Hid (∀ w', Md w' m n s → Calls Try.prog 13 #[.pointer (some ⟨m.g, 0, none⟩)] w' fun e w'' => e = .returned (.int .i64 (s.first : Nat)) ∧ ∃ k, w'' = w'.drewN k) := Lib.hid fun w' h => mfirst_any h
      obtain ⟨f, hf⟩ : ∃ f, f = s.first := ⟨_, rfl⟩
      rw [← hf] at HTK HTE HFL HMF
      clear hk0 HD hf
      rcases Nat.eq_zero_or_pos f with h0 | h0
      · subst h0
        have HTS : Hid (s.take = s) := Lib.hid (HTE.out.trans (if_pos rfl))
        rw [show decide ((0 : Nat) ≠ 0) = false by decide] at HTK
        go_wp2_with fail
        refine HTK.out.mono ?_
        rintro e w2 ⟨rfl, k1, k2⟩
        have K1 := Lib.hid k1
        have F2 := Lib.hid (HF1.out.trans (k2.mono (F' := foot2 b m) fun q h => .inl h) NewF.refl)
        have M2 := Lib.hid (HP1.out.md.ft k2 HFE.out)
        clear k1 k2
        go_wp2_with fail
        refine (HMF.out _ M2.out).mono ?_
        rintro e w3 ⟨rfl, j, rfl⟩
        go_wp2
        go_ret
        exact ⟨rfl, by rw [HSB.out]; exact ⟨⟨K1.out.drewN j, by rw [HTS.out]; exact M2.out.drewN j, HP1.out.dj⟩, F2.out.drewN j⟩⟩
      · obtain ⟨k, rfl⟩ : ∃ k, f = k + 1 := ⟨f - 1, by omega⟩
        have HTS : Hid (s.take = ⟨s.sc, s.inn.set k false, s.rise⟩) := Lib.hid (HTE.out.trans (by rw [if_neg (by omega), Nat.add_sub_cancel]))
        rw [show decide (k + 1 ≠ 0) = true by simp] at HTK
        have hkn : k < n := by have := HFL.out; omega
        have hkI : (k : Int) < (n : Int) := by omega
        have hkJ : (k : Int) + 1 < (n : Int) + 1 := by omega
        have HKN := Lib.hid hkn
        clear h0 hkn
        go_wp2_with fail
        refine HTK.out.mono ?_
        rintro e w2 ⟨rfl, k1, k2⟩
        have K1 := Lib.hid k1
        have F2 := Lib.hid (HF1.out.trans (k2.mono (F' := foot2 b m) fun q h => .inl h) NewF.refl)
        have M2 := Lib.hid (HP1.out.md.ft k2 HFE.out)
        clear k1 k2
        go_wp2_with fail
        refine (HMF.out _ M2.out).mono ?_
        rintro e w3 ⟨rfl, j, rfl⟩
        have g1 := (M2.out.drewN j).g1
        have ci := (M2.out.drewN j).cI HKN.out
        have fi := BlkB.frozen (M2.out.drewN j).hI (k + 1)
        have M3 := Lib.hid ((M2.out.drewN j).setI k false)
        have F3 := Lib.hid ((F2.out.drewN j).set (q := m.I) (fun _ => .inr (.inr (.inr rfl))) (k + 1) (.bool false))
        have K3 := Lib.hid ((K1.out.drewN j).ft ((Ft.refl (F := m.foot) _).set (q := m.I) (fun _ => .inr (.inr rfl)) (k + 1) (.bool false)) HP1.out.dj)
        go_wp2
        go_ret
        exact ⟨rfl, by rw [HSB.out]; exact ⟨⟨K3.out, by rw [HTS.out]; exact M3.out, HP1.out.dj⟩, F3.out⟩⟩
    · have HSB : Hid (sd = s.put V) := Lib.hid (by rw [HD.out, if_neg (by omega), if_neg (by omega), if_neg (by omega)])
      have hk2 := HTM.out.trans hk
      clear hk
      have HPU := Lib.hid (put_st (w := w1.drew) (HP1.out.st.drewN 1) V HV.out)
      have g1 := HP1.out.md.g1
      rcases hv : s.isV V with _ | _
      · have e : s.put V = s := by unfold SP.put; rw [if_neg (by simp [hv])]
        have HSS : Hid (sd = s) := Lib.hid (HSB.out.trans e)
        rw [e, hv, Bool.false_and] at HPU
        clear e hv hk0 HD
        go_wp2_with fail
        refine wp_region_held_drew (S := fun w' => w'.cell? ⟨bx, 1, none⟩ = some (.int .i64 V)) (by kernel_rfl) c1 (fun hHeld => ?_)
        refine wpAnyH_take (i := 0) (oi := { dst := some 27, op := _, type := _, pos := _, after := _, guard := _ }) (v := ?v1) rfl (by kernel_rfl) (by kernel_rfl) (by kernel_rfl) (fun _ _ _ h => h) (Or.inl ⟨by rfl, ?hy1⟩) (by assumption) ?rest1
        case hy1 => (intro w99 hSw; (try dsimp only at hSw); go_simp; try with_reducible rfl)
        try simp only [Act.put, List.setIfInBounds_toArray, List.set_cons_zero, List.set_cons_succ]
        refine wpAnyH_take (i := 1) (oi := { dst := some 28, op := _, type := _, pos := _, after := _, guard := _ }) (v := ?v2) rfl (by kernel_rfl) (by kernel_rfl) (by kernel_rfl) (fun _ _ _ h => h) (Or.inl ⟨by rfl, ?hy2⟩) (by assumption) ?rest2
        case hy2 => (intro w99 hSw; (try dsimp only at hSw); go_simp; try with_reducible rfl)
        try simp only [Act.put, List.setIfInBounds_toArray, List.set_cons_zero, List.set_cons_succ]
        refine wpAnyH_take (i := 2) (oi := { dst := some 29, op := _, type := _, pos := _, after := _, guard := _ }) (v := ?v3) rfl (by kernel_rfl) (by kernel_rfl) (by kernel_rfl) (fun _ _ _ h => h) (Or.inl ⟨by rfl, ?hy3⟩) (by assumption) ?rest3
        case hy3 => (intro w99 hSw; (try dsimp only at hSw); go_simp; try with_reducible rfl)
        try simp only [Act.put, List.setIfInBounds_toArray, List.set_cons_zero, List.set_cons_succ]
        refine wpAnyH_take (i := 4) (oi := { dst := some 31, op := _, type := _, pos := _, after := _, guard := _ }) (v := ?v4) rfl (by kernel_rfl) (by kernel_rfl) (by kernel_rfl) (fun _ _ _ h => h) (Or.inl ⟨by rfl, ?hy4⟩) (by assumption) ?rest4
        case hy4 => (intro w99 hSw; (try dsimp only at hSw); go_simp; try with_reducible rfl)
        try simp only [Act.put, List.setIfInBounds_toArray, List.set_cons_zero, List.set_cons_succ]
        refine wpAnyH_ready (rs := [3]) (by kernel_rfl) (by simp) ?_
        refine AllReadyH.cons rfl (fun K hK => ?_) AllReadyH.nil
        go_simp
        refine HPU.out.mono ?_
        rintro e w2 ⟨rfl, k1, k2⟩
        have B2 := Lib.hid (k2.blk HB1.out.drew_ fun h => HNF.out _ (.inl h) rfl)
        have S2 := Lib.hid ((B2.out.cell 1).trans ((HB1.out.drew_.cell 1).symm.trans c1))
        have H2 : Hid (Done16 w w2 b m n s) := Lib.hid ⟨⟨k1, HP1.out.md.drew.ft k2 HFE.out, HP1.out.dj⟩, HF1.out.drew.trans (k2.mono fun q h => .inl h) NewF.refl⟩
        clear k1 k2
        refine hK.out _ _ S2.out (fun hHeld => ?_)
        clear hK
        try simp only [Act.put, List.setIfInBounds_toArray, List.set_cons_zero, List.set_cons_succ]
        refine wpAnyH_take (i := 5) (oi := { dst := some 32, op := _, type := _, pos := _, after := _, guard := _ }) (v := ?v5) rfl (by kernel_rfl) (by kernel_rfl) (by kernel_rfl) (fun _ _ _ h => h) (Or.inl ⟨by rfl, ?hy5⟩) (by assumption) ?rest5
        case hy5 => (intro w99 hSw; (try dsimp only at hSw); go_simp; try with_reducible rfl)
        try simp only [Act.put, List.setIfInBounds_toArray, List.set_cons_zero, List.set_cons_succ]
        refine wpAnyH_take (i := 6) (oi := { dst := some 33, op := _, type := _, pos := _, after := _, guard := _ }) (v := undef) rfl (by kernel_rfl) (by kernel_rfl) (by kernel_rfl) (fun _ _ _ h => h) (Or.inr ⟨by rfl, rfl⟩) (by assumption) ?rest6
        try simp only [Act.put, List.setIfInBounds_toArray, List.set_cons_zero, List.set_cons_succ]
        refine wpAnyH_take (i := 7) (oi := { dst := some 34, op := _, type := _, pos := _, after := _, guard := _ }) (v := undef) rfl (by kernel_rfl) (by kernel_rfl) (by kernel_rfl) (fun _ _ _ h => h) (Or.inr ⟨by rfl, rfl⟩) (by assumption) ?rest7
        try simp only [Act.put, List.setIfInBounds_toArray, List.set_cons_zero, List.set_cons_succ]
        refine wpAnyH_take (i := 8) (oi := { dst := some 35, op := _, type := _, pos := _, after := _, guard := _ }) (v := undef) rfl (by kernel_rfl) (by kernel_rfl) (by kernel_rfl) (fun _ _ _ h => h) (Or.inr ⟨by rfl, rfl⟩) (by assumption) ?rest8
        try simp only [Act.put, List.setIfInBounds_toArray, List.set_cons_zero, List.set_cons_succ]
        refine wpAnyH_take (i := 9) (oi := { dst := some 36, op := _, type := _, pos := _, after := _, guard := _ }) (v := undef) rfl (by kernel_rfl) (by kernel_rfl) (by kernel_rfl) (fun _ _ _ h => h) (Or.inr ⟨by rfl, rfl⟩) (by assumption) ?rest9
        try simp only [Act.put, List.setIfInBounds_toArray, List.set_cons_zero, List.set_cons_succ]
        refine wpAnyH_take (i := 10) (oi := { dst := some 37, op := _, type := _, pos := _, after := _, guard := _ }) (v := undef) rfl (by kernel_rfl) (by kernel_rfl) (by kernel_rfl) (fun _ _ _ h => h) (Or.inr ⟨by rfl, rfl⟩) (by assumption) ?rest10
        try simp only [Act.put, List.setIfInBounds_toArray, List.set_cons_zero, List.set_cons_succ]
        refine wpAnyH_take (i := 11) (oi := { dst := some 38, op := _, type := _, pos := _, after := _, guard := _ }) (v := undef) rfl (by kernel_rfl) (by kernel_rfl) (by kernel_rfl) (fun _ _ _ h => h) (Or.inr ⟨by rfl, rfl⟩) (by assumption) ?rest11
        try simp only [Act.put, List.setIfInBounds_toArray, List.set_cons_zero, List.set_cons_succ]
        refine wpAnyH_take (i := 12) (oi := { dst := some 39, op := _, type := _, pos := _, after := _, guard := _ }) (v := undef) rfl (by kernel_rfl) (by kernel_rfl) (by kernel_rfl) (fun _ _ _ h => h) (Or.inr ⟨by rfl, rfl⟩) (by assumption) ?rest12
        try simp only [Act.put, List.setIfInBounds_toArray, List.set_cons_zero, List.set_cons_succ]
        refine wpAnyH_take (i := 13) (oi := { dst := some 40, op := _, type := _, pos := _, after := _, guard := _ }) (v := undef) rfl (by kernel_rfl) (by kernel_rfl) (by kernel_rfl) (fun _ _ _ h => h) (Or.inr ⟨by rfl, rfl⟩) (by assumption) ?rest13
        try simp only [Act.put, List.setIfInBounds_toArray, List.set_cons_zero, List.set_cons_succ]
        refine wpAnyH_take (i := 14) (oi := { dst := some 41, op := _, type := _, pos := _, after := _, guard := _ }) (v := undef) rfl (by kernel_rfl) (by kernel_rfl) (by kernel_rfl) (fun _ _ _ h => h) (Or.inr ⟨by rfl, rfl⟩) (by assumption) ?rest14
        try simp only [Act.put, List.setIfInBounds_toArray, List.set_cons_zero, List.set_cons_succ]
        refine wpAnyH_take (i := 15) (oi := { dst := some 42, op := _, type := _, pos := _, after := _, guard := _ }) (v := ?v15) rfl (by kernel_rfl) (by kernel_rfl) (by kernel_rfl) (fun _ _ _ h => h) (Or.inl ⟨by rfl, ?hy15⟩) (by assumption) ?rest15
        case hy15 => (intro w99 hSw; (try dsimp only at hSw); go_simp; try with_reducible rfl)
        try simp only [Act.put, List.setIfInBounds_toArray, List.set_cons_zero, List.set_cons_succ]
        refine wpAnyH_take (i := 16) (oi := { dst := some 43, op := _, type := _, pos := _, after := _, guard := _ }) (v := ?v16) rfl (by kernel_rfl) (by kernel_rfl) (by kernel_rfl) (fun _ _ _ h => h) (Or.inl ⟨by rfl, ?hy16⟩) (by assumption) ?rest16
        case hy16 => (intro w99 hSw; (try dsimp only at hSw); go_simp; try with_reducible rfl)
        try simp only [Act.put, List.setIfInBounds_toArray, List.set_cons_zero, List.set_cons_succ]
        refine wpAnyH_done (by kernel_rfl) ?_ _
        all_goals
          go_wp2
          go_ret
          exact ⟨rfl, by rw [HSS.out]; exact H2.out⟩
      · have hvi := SP.isV_iff.1 hv
        rw [HLS.out] at hvi
        obtain ⟨k, rfl⟩ : ∃ k : Nat, V = (k : Int) + 1 := ⟨V.toNat - 1, by omega⟩
        have hkn : k < n := by omega
        have ek : ((k : Int) + 1).toNat - 1 = k := by omega
        have HPS : Hid (s.put ((k : Int) + 1) = ⟨s.sc, s.inn.set k true, s.rise⟩) := Lib.hid (by unfold SP.put; rw [if_pos hv, ek])
        have ein : s.isIn ((k : Int) + 1) = s.inn.getD k false := by unfold SP.isIn; rw [hv, ek, Bool.true_and]
        rw [hv, Bool.true_and, ein] at HPU
        have ci := HP1.out.md.cI hkn
        obtain ⟨z, hz⟩ : ∃ z, z = s.inn.getD k false := ⟨_, rfl⟩
        rw [← hz] at HPU ci
        have HKN := Lib.hid hkn
        have hkI : (k : Int) < (n : Int) := by omega
        have hkJ : (k : Int) + 1 < (n : Int) + 1 := by omega
        have q1 : (0 : Int) ≤ (k : Int) + 1 := by omega
        have q2 : (k : Int) + 1 < ((n + 1 : Nat) : Int) := by omega
        have q3 : ((k : Int) + 1).toNat = k + 1 := by omega
        have S0 := Lib.hid (show w1.drew.cell? ⟨bx, 1, none⟩ = some (.int .i64 ((k : Int) + 1)) ∧ w1.drew.cell? ⟨m.g, 1, none⟩ = some (.slice (some ⟨m.I, 0, none⟩) (n + 1) (n + 1)) ∧ w1.drew.cell? ⟨m.I, k + 1, none⟩ = some (.bool z) from ⟨c1, g1, ci⟩)
        clear hv hvi ek ein hz hkn hk0 HD
        rcases z with _ | _
        · go_wp2_with fail
          go_region_held3 (fun w' => w'.cell? ⟨bx, 1, none⟩ = some (.int .i64 ((k : Int) + 1)) ∧ w'.cell? ⟨m.g, 1, none⟩ = some (.slice (some ⟨m.I, 0, none⟩) (n + 1) (n + 1)) ∧ w'.cell? ⟨m.I, k + 1, none⟩ = some (.bool false)) (first | exact S2.out | exact S0.out | go_keep)
            (first | (go_at_call 20; refine HPU.out.mono ?_; rintro e w2 ⟨rfl, k1, k2⟩; have K1 := Lib.hid k1; have M2 := Lib.hid (HP1.out.md.drew.ft k2 HFE.out); have F2 := Lib.hid (HF1.out.drew.trans (k2.mono (F' := foot2 b m) fun q h => .inl h) NewF.refl); have B2 := Lib.hid (k2.blk HB1.out.drew_ fun h => HNF.out _ (.inl h) rfl); have S2 := Lib.hid (And.intro ((B2.out.cell 1).trans ((HB1.out.drew_.cell 1).symm.trans S0.out.1)) (And.intro M2.out.g1 ((k2.cell (p := ⟨m.I, k + 1, none⟩) (HP1.out.md.drew.foot_lt (.inr (.inr rfl))) (HFE.out _ (.inr (.inr rfl)))).trans S0.out.2.2))); clear k1 k2))
          all_goals
            clear S0 S2 c0 c1 c2 g1 ci
            have c1 := B2.out.cell 1
            simp at c1
            have g1 := M2.out.g1
            have ci := M2.out.cI HKN.out
            have fi := BlkB.frozen M2.out.hI (k + 1)
            have M3 := Lib.hid (M2.out.setI k true)
            have F3 := Lib.hid (F2.out.set (q := m.I) (fun _ => .inr (.inr (.inr rfl))) (k + 1) (.bool true))
            have K3 := Lib.hid (K1.out.ft ((Ft.refl (F := m.foot) w2).set (q := m.I) (fun _ => .inr (.inr rfl)) (k + 1) (.bool true)) HP1.out.dj)
            go_wp2_with fail
            go_region
            go_wp2
            go_ret
            exact ⟨rfl, by rw [HSB.out]; exact ⟨⟨K3.out.drewN 1, by rw [HPS.out]; exact M3.out.drew, HP1.out.dj⟩, F3.out.drew⟩⟩
        · go_wp2_with fail
          go_region_held3 (fun w' => w'.cell? ⟨bx, 1, none⟩ = some (.int .i64 ((k : Int) + 1)) ∧ w'.cell? ⟨m.g, 1, none⟩ = some (.slice (some ⟨m.I, 0, none⟩) (n + 1) (n + 1)) ∧ w'.cell? ⟨m.I, k + 1, none⟩ = some (.bool true)) (first | exact S2.out | exact S0.out | go_keep)
            (first | (go_at_call 20; refine HPU.out.mono ?_; rintro e w2 ⟨rfl, k1, k2⟩; have K1 := Lib.hid k1; have M2 := Lib.hid (HP1.out.md.drew.ft k2 HFE.out); have F2 := Lib.hid (HF1.out.drew.trans (k2.mono (F' := foot2 b m) fun q h => .inl h) NewF.refl); have B2 := Lib.hid (k2.blk HB1.out.drew_ fun h => HNF.out _ (.inl h) rfl); have S2 := Lib.hid (And.intro ((B2.out.cell 1).trans ((HB1.out.drew_.cell 1).symm.trans S0.out.1)) (And.intro M2.out.g1 ((k2.cell (p := ⟨m.I, k + 1, none⟩) (HP1.out.md.drew.foot_lt (.inr (.inr rfl))) (HFE.out _ (.inr (.inr rfl)))).trans S0.out.2.2))); clear k1 k2))
          all_goals
            clear S0 S2 c0 c1 c2 g1 ci
            have c1 := B2.out.cell 1
            simp at c1
            have g1 := M2.out.g1
            have ci := M2.out.cI HKN.out
            have fi := BlkB.frozen M2.out.hI (k + 1)
            have M3 := Lib.hid (M2.out.setI k true)
            have F3 := Lib.hid (F2.out.set (q := m.I) (fun _ => .inr (.inr (.inr rfl))) (k + 1) (.bool true))
            have K3 := Lib.hid (K1.out.ft ((Ft.refl (F := m.foot) w2).set (q := m.I) (fun _ => .inr (.inr rfl)) (k + 1) (.bool true)) HP1.out.dj)
            go_wp2_with fail
            go_region
            go_wp2
            go_ret
            exact ⟨rfl, by rw [HSB.out]; exact ⟨⟨K3.out.drewN 1, by rw [HPS.out]; exact M3.out.drew, HP1.out.dj⟩, F3.out.drew⟩⟩
end Go.Proofs.Ytnimmlfccgnneaa
