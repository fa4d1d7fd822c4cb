/- The statement on bounds of scores and the rise. -/
import Derived.Test.YtnimmlfccgnneaaFit16
import Derived.Test.YtnimmlfccgnneaaCnt16
namespace Go.Proofs.Ytnimmlfccgnneaa
open Go.RowKit
set_option linter.unusedVariables false
set_option linter.unusedSimpArgs false

theorem bump_inn (s : SP) (V : Int) : (s.bump V).inn = s.inn := by
  unfold SP.bump
  split
  · split <;> rfl
  · rfl
theorem decay_inn (s : SP) : s.decay.inn = s.inn := by
  unfold SP.decay
  split <;> rfl

set_option maxRecDepth 100000 in
set_option maxHeartbeats 2000000 in
theorem bounds_out (kk : Nat) (ds : List DeedV) (A0 : Option Addr) (c0 : Nat) (w : World) (hm : 60 < ds.length) :
    Calls Try.prog 4 #[.slice A0 ds.length c0, .int .u8 kk] w fun e w' => e = .returned (.bool true) ∧ Below w.heap.size w w' := by
  go_enter Try.func4, Try.ntmps4
  go_wp2_with fail
  refine (fit_any16 w).mono ?_
  rintro e w1 ⟨rfl, hb⟩
  go_wp2
  go_ret
  exact ⟨rfl, hb⟩

set_option maxRecDepth 100000 in
set_option maxHeartbeats 20000000 in
theorem bounds_in (kk : Nat) (ds : List DeedV) (A0 : Option Addr) (c0 : Nat) (w : World) (hkk : kk ≤ 255) (hn : ds.length ≤ 60) (hok : ∀ d ∈ ds, d.ok) (h : Deeds w w.heap.size A0 ds) :
    Calls Try.prog 4 #[.slice A0 ds.length c0, .int .u8 kk] w fun e w' => e = .returned (.bool true) ∧ Below w.heap.size w w' := by
  have H := Lib.hid h
  have OK := Lib.hid hok
  clear h hok
  obtain ⟨u, hu⟩ : ∃ u, kk % 6 = u := ⟨_, rfl⟩
  have e1 : (kk : Int) % 6 = (u : Int) := by omega
  have e2 : Int.tmod (kk : Int) 6 = (u : Int) := by rw [Int.tmod_eq_emod_of_nonneg (by omega)]; exact e1
  have hu5 : u < 6 := by omega
  have HU := Lib.hid hu5
  have e4 : (1 : Int) + (u : Int) = (u : Int) + 1 := by omega
  clear hu
  have HBEG := Lib.hid (fun w => begin_any16 6 (by omega) w)
  go_enter Try.func4, Try.ntmps4
  go_wp2_with fail
  refine (fit_any16 w).mono ?_
  rintro e w1 ⟨rfl, hb⟩
  have HB1 := Lib.hid hb
  clear hb

  go_wp2_with fail
  refine (HBEG.out w1).mono ?_
  rintro e w2 ⟨b, m, rfl, k1, k2, k3⟩
  have HP0 : Hid (Lp16 w w2 b m 6 (SP.fresh 6)) := Lib.hid ⟨k1, HB1.out.trans (k2.mono HB1.out.size)⟩
  have HN : Hid (∀ q, foot2 b m q → w.heap.size ≤ q) := Lib.hid fun q hq => Nat.le_trans HB1.out.size (k3 q hq)
  clear k1 k2 k3

  go_wp2_with fail
  go_loopg [21] (ds.length + 1) (fun gk i wr => ∃ (k : Nat) (s : SP), k ≤ ds.length ∧ gk = ds.length - k + 1 ∧ i = .int .i64 k ∧ Hid (Lp16 w wr b m 6 s))
  case atStart => exact ⟨0, _, by omega, by omega, rfl, HP0⟩
  case round =>
    obtain ⟨k, s, hk, rfl, rfl, HP⟩ := hrel
    by_cases hlt : k < ds.length
    · skip
      obtain ⟨bd, off, rfl, _, d, hd, d0, d1, d2⟩ := (H.out.below HP.out.fr).at_ hlt
      have hdo : d.ok := by rw [hd, List.getD, List.getElem?_eq_getElem hlt]; exact OK.out _ (List.getElem_mem hlt)
      obtain ⟨o1, o2, o3⟩ := hdo
      have O1 := Lib.hid o1
      have O2 := Lib.hid o2
      obtain ⟨wd, hwd⟩ : ∃ wd, wd = wr.alloc (.cells #[.int .u8 d.kd, .int .i64 d.l, .int .i64 d.r] 29) := ⟨_, rfl⟩
      have hbd : Below wr.heap.size wr wd := by rw [hwd]; exact (Below.refl _ _).alloc (Nat.le_refl _) _
      have HDd : Hid (Blk wd wr.heap.size 29 #[.int .u8 d.kd, .int .i64 d.l, .int .i64 d.r]) := Lib.hid (by rw [hwd]; exact Blk.new wr _ _)
      have HPd := Lib.hid (HP.out.low hbd)
      have HWD := Lib.hid hwd
      have hkI : (k : Int) < (ds.length : Int) := by omega
      clear hd hwd hbd o1 o2 o3
      go_wp2_with fail
      (try rw [← HWD.out])
      refine (do_any16 HPd.out.pr d.kd d.l d.r (by have := O1.out; omega) O2.out).mono ?_
      rintro e w3 ⟨rfl, k1⟩
      have HP3 := Lib.hid (HPd.out.step k1 HN.out)
      clear k1

      obtain ⟨s0, hs0⟩ : ∃ s0, s0 = s.deed d.kd d.l (d.r % 256).toNat := ⟨_, rfl⟩
      rw [← hs0] at HP3
      have HD : Hid (Pr16 w3 b m 6 s0) := Lib.hid HP3.out.pr
      have HFR := Lib.hid HP3.out.fr
      clear hs0 d0 d1 d2
      go_wp2_with fail
      go_loopg [29] (41) (fun gk i wr => ∃ (j : Nat) (s' : SP), j ≤ 40 ∧ gk = 40 - j + 1 ∧ i = .int .i64 j ∧ Hid (St16 wr b 6 s') ∧ Hid (Md wr m 6 ⟨s0.sc, s0.inn, s'.rise⟩) ∧ Hid (s'.inn = s0.inn) ∧ Hid (Below w.heap.size w wr))
      case atStart => exact ⟨0, s0, by omega, by omega, rfl, Lib.hid HD.out.st, Lib.hid HD.out.md, Lib.hid rfl, HFR⟩
      case round =>
        obtain ⟨j, s', hj, rfl, rfl, HS, HM, HI, HB⟩ := hrel
        have HDJ := Lib.hid HD.out.dj
        by_cases hlt2 : j < 40
        · have hjI : (j : Int) < 40 := by omega
          go_wp2_with fail
          refine (bump_st HS.out ((u : Int) + 1) (by omega)).mono ?_
          rintro e w4 ⟨rfl, k1, k2⟩
          have HS4 := Lib.hid k1
          have HM4 := Lib.hid (HM.out.ft k2 fun q h1 h2 => HDJ.out q h2 h1)
          have HB4 := Lib.hid (HB.out.trans (k2.below HB.out.size fun q hq => HN.out q (.inl hq)))
          clear k1 k2
          go_wp2_with fail
          refine (decay_st HS4.out).mono ?_
          rintro e w5 ⟨rfl, k1, k2⟩
          obtain ⟨t, ht⟩ : ∃ t, t = (s'.bump ((u : Int) + 1)).decay := ⟨_, rfl⟩
          rw [← ht] at k1
          have HI5 : Hid (t.inn = s0.inn) := Lib.hid (by rw [ht, decay_inn, bump_inn]; exact HI.out)
          have HS5 := Lib.hid k1
          have HM5 := Lib.hid (HM4.out.ft k2 fun q h1 h2 => HDJ.out q h2 h1)
          have HB5 := Lib.hid (HB4.out.trans (k2.below HB4.out.size fun q hq => HN.out q (.inl hq)))
          clear k1 k2 ht
          have HG5 := Lib.hid HS5.out.good
          have g2 := HM5.out.g2
          have fg := HM5.out.hg.frozen 2
          simp only at g2
          have M6 := Lib.hid (HM5.out.setR t.rise (by have := HG5.out.rc; omega))
          have F6 := (Ft.refl (F := m.foot) w5).set (q := m.g) (fun _ => .inl rfl) 2 (.int .i64 (t.rise : Nat))
          have S6 := Lib.hid (HS5.out.ft F6 HDJ.out)
          have B6 := Lib.hid (HB5.out.trans (F6.below HB5.out.size fun q hq => HN.out q (.inr hq)))
          obtain ⟨w6, hw6⟩ : ∃ w6, w6 = w5.setCell ⟨m.g, 2, none⟩ (.int .i64 (t.rise : Nat)) := ⟨_, rfl⟩
          rw [← hw6] at M6 S6 B6
          have HW6 := Lib.hid hw6
          have HRI := Lib.hid (rise_st HS5.out)
          have HR6 := Lib.hid (rise_st S6.out)
          have HC6 := Lib.hid (score_st S6.out ((u : Int) + 1) (by omega))
          rw [SP.score_at (n := 6) HG5.out.ls HU.out] at HC6
          have r1 := HG5.out.rc
          have r2 := HG5.out.r1
          have r3 := HG5.out.cap u
          obtain ⟨x, hx⟩ : ∃ x, x = t.sc.getD u 0 := ⟨_, rfl⟩
          rw [← hx] at HC6 r3
          obtain ⟨y, hy⟩ : ∃ y, y = t.rise := ⟨_, rfl⟩
          have HY := Lib.hid hy
          rw [← hy] at HRI HR6 r1 r2 HW6 M6
          have c1 : ¬ (1125899906842624 : Int) < (y : Int) := by omega
          have c2 : ¬ (y : Int) < 1 := by omega
          have c3 : ¬ (1125899906842624 : Int) < (x : Int) := by omega
          clear hx hy hw6 F6 r1 r2 r3
          go_wp2_with fail
          refine HRI.out.mono ?_
          rintro e w7 ⟨rfl, rfl⟩
          go_wp2_with fail
          rw [← HW6.out]
          refine HR6.out.mono ?_
          rintro e w7 ⟨rfl, rfl⟩
          go_wp2_with fail
          refine HR6.out.mono ?_
          rintro e w7 ⟨rfl, rfl⟩
          go_wp2_with fail
          refine HC6.out.mono ?_
          rintro e w7 ⟨rfl, rfl⟩
          go_wp2_with fail
          go_roundg (40 - j)
          case measure => omega
          case rel => exact ⟨j + 1, t, by omega, by omega, by go_num, S6, by rw [← HY.out]; exact M6, HI5, B6⟩
        · obtain ⟨w4, rfl⟩ : ∃ w4 : World, w4 = wr := ⟨_, rfl⟩
          obtain rfl : j = 40 := by omega
          have HM0 : Hid (Md w4 m 6 ⟨s0.sc, s'.inn, s'.rise⟩) := Lib.hid (by rw [HI.out]; exact HM.out)
          have HG4 := Lib.hid HS.out.good
          go_wp2_with fail
          go_loopg [9] (7) (fun gk i wr => ∃ (j : Nat) (sk : List Nat), j ≤ 6 ∧ gk = 6 - j + 1 ∧ i = .int .i64 ((j : Int) + 1) ∧ Hid (St16 wr b 6 s') ∧ Hid (Md wr m 6 ⟨sk, s'.inn, s'.rise⟩) ∧ Hid (∀ i, i < j → sk.getD i 0 = s'.sc.getD i 0) ∧ Hid (Below w.heap.size w wr))
          case atStart => exact ⟨0, _, by omega, by omega, by go_num, HS, HM0, Lib.hid (fun i hi => by omega), HB⟩
          case round =>
            obtain ⟨j, sk, hj, rfl, rfl, HS, HM, HE, HB⟩ := hrel
            by_cases hlt3 : j < 6
            · have HSC := Lib.hid (score_st (w := wr.drew) (HS.out.drewN 1) ((j : Int) + 1) (by omega))
              rw [SP.score_at (n := 6) HG4.out.ls hlt3] at HSC
              obtain ⟨v, hv⟩ : ∃ v, v = s'.sc.getD j 0 := ⟨_, rfl⟩
              have hvb := HG4.out.cap j
              rw [← hv] at HSC hvb
              have HMd := Lib.hid HM.out.drew
              have g0 := HMd.out.g0
              have cs := HMd.out.cS hlt3
              have fs := HMd.out.hS.frozen (j + 1)
              have S0 : Hid (wr.drew.cell? ⟨m.g, 0, none⟩ = some (.slice (some ⟨m.S, 0, none⟩) 7 7)) := Lib.hid g0
              clear g0
              have q1 : (0 : Int) ≤ (j : Int) + 1 := by omega
              have q3 : ((j : Int) + 1).toNat = j + 1 := by omega
              have hjI : (j : Int) < 6 := by omega
              have hjJ : (j : Int) + 1 < 7 := by omega
              have M5 := Lib.hid (HMd.out.setS j v (by omega))
              have F5 := ((Ft.refl (F := m.foot) wr).drew).set (q := m.S) (fun _ => .inr (.inl rfl)) (j + 1) (.int .i64 (v : Nat))
              have S5 := Lib.hid (HS.out.ft F5 HDJ.out)
              have B5 := Lib.hid (HB.out.trans (F5.below HB.out.size fun q hq => HN.out q (.inr hq)))
              have HE5 : Hid (∀ i, i < j + 1 → (sk.set j v).getD i 0 = s'.sc.getD i 0) := Lib.hid fun i hi => by
                have hl : sk.length = 6 := HM.out.ls
                rw [getD_set_nat, hl]
                by_cases e : i = j
                · subst e; rw [if_pos ⟨rfl, hlt3⟩]; exact hv
                · rw [if_neg (fun h => e h.1)]; exact HE.out i (by omega)
              have S5c : Hid (((wr.setCell ⟨m.S, j + 1, none⟩ (.int .i64 (v : Nat))).drew).cell? ⟨m.g, 0, none⟩ = some (.slice (some ⟨m.S, 0, none⟩) 7 7)) := Lib.hid M5.out.g0
              clear hv F5 hvb
              go_wp2_with fail
              go_region_held3 (fun w' => w'.cell? ⟨m.g, 0, none⟩ = some (.slice (some ⟨m.S, 0, none⟩) 7 7)) (first | exact S0.out | exact S5c.out | go_keep)
                (first | (go_at_call 14; refine HSC.out.mono ?_; rintro e wx ⟨rfl, rfl⟩))
              all_goals
                go_wp2_with fail
                go_roundg (6 - j)
              all_goals first | (case measure => omega) | skip
              all_goals first | exact ⟨j + 1, _, by omega, by omega, by go_num, S5, M5, HE5, B5⟩ | omega
            · obtain rfl : j = 6 := by omega
              obtain ⟨w7, rfl⟩ : ∃ w7 : World, w7 = wr := ⟨_, rfl⟩
              have hsk : sk = s'.sc := by
                have hl : sk.length = 6 := HM.out.ls
                have hl2 := HG4.out.ls
                apply List.ext_getElem
                · omega
                · intro i h1 h2
                  have := HE.out i (by omega)
                  simpa [List.getD, h1, h2] using this
              subst hsk
              have HP7 : Hid (Lp16 w w7 b m 6 s') := Lib.hid ⟨⟨HS.out, HM.out, HDJ.out⟩, HB.out⟩
              go_wp2_with fail
              go_roundg (ds.length - k)
              case measure => omega
              case rel => exact ⟨k + 1, s', by omega, by omega, by go_num, HP7⟩
    · go_wp2
      go_ret
      exact ⟨rfl, HP.out.fr⟩

open Go.ChangeShapes Go.WideShapes Go.ChangeAt Go.Deep Go.Joins in
theorem bounds_raw (a1 : Int) (A : Option Addr) (c : Nat) (ds : List DeedV) (W : World) (w1 : (Lit.int .u8 a1).wf = true) (hok : ∀ d ∈ ds, d.ok) (h : Deeds W W.heap.size A ds) :
    Calls Try.prog 4 #[.slice A ds.length c, .int .u8 a1] W fun e w' => e = .returned (.bool true) ∧ Below W.heap.size W w' := by
  have b0 := bounds_u8 w1
  obtain ⟨n0, rfl⟩ : ∃ n : Nat, a1 = n := ⟨a1.toNat, by omega⟩
  by_cases hm : 60 < ds.length
  · exact bounds_out n0 ds A c W hm
  · exact bounds_in n0 ds A c W (by omega) (by omega) hok h
end Go.Proofs.Ytnimmlfccgnneaa
