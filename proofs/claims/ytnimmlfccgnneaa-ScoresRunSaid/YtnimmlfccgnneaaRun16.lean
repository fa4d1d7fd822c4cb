/- The statement on whatever is done to a heap. -/
import Derived.Test.YtnimmlfccgnneaaFit16
import Derived.Test.YtnimmlfccgnneaaCnt16
namespace Go.Proofs.Ytnimmlfccgnneaa
open Go.RowKit
set_option linter.unusedVariables false
set_option linter.unusedSimpArgs false

theorem box16 {w : World} {q : Nat} {x : Int} {y z : Int} (h : Blk w q 29 #[.int .u8 x, .int .i64 y, .int .i64 z]) : w.cell? ⟨q, 0, none⟩ = some (.int .u8 x) ∧ w.cell? ⟨q, 1, none⟩ = some (.int .i64 y) ∧ w.cell? ⟨q, 2, none⟩ = some (.int .i64 z) := by
  refine ⟨?_, ?_, ?_⟩ <;> rw [h.cell] <;> rfl
theorem wpAnyH_mono16 {P : Program} {md : Region.Mode} {ops : Array Oper} {Q : Exit → Act → World → Prop} {S S' : World → Prop} (hS : ∀ w, S' w → S w) :
    ∀ {fuel : Nat} {listed : Array Bool} {a : Act} {w : World}, wpAnyH P md ops Q S' fuel listed a w → wpAnyH P md ops Q S fuel listed a w
  | 0, _, _, _, h => h
  | fuel + 1, _, _, _, h => ⟨h.1, fun i hi => wpOp_mono (fun a' w' h' => ⟨hS w' h'.1, wpAnyH_mono16 hS h'.2⟩) (h.2 i hi)⟩

set_option maxRecDepth 100000 in
set_option maxHeartbeats 2000000 in
theorem run_out (kk : Nat) (ds : List DeedV) (A0 : Option Addr) (c0 : Nat) (w : World) (hm : 100 < ds.length) :
    Calls Try.prog 3 #[.int .u8 kk, .slice A0 ds.length c0] w fun e w' => e = .returned (.bool true) ∧ Below w.heap.size w w' := by
  go_enter Try.func3, Try.ntmps3
  go_wp2_with fail
  refine (fit_any16 w).mono ?_
  rintro e w1 ⟨rfl, hb⟩
  go_wp2
  go_ret
  exact ⟨rfl, hb⟩

set_option maxRecDepth 100000 in
set_option maxHeartbeats 20000000 in
theorem run_in (kk : Nat) (ds : List DeedV) (A0 : Option Addr) (c0 : Nat) (w : World) (hkk : kk ≤ 255) (hn : ds.length ≤ 100) (hok : ∀ d ∈ ds, d.ok) (h : Deeds w w.heap.size A0 ds) :
    Calls Try.prog 3 #[.int .u8 kk, .slice A0 ds.length c0] w fun e w' => e = .returned (.bool true) ∧ Below w.heap.size w w' := by
  have H := Lib.hid h
  have OK := Lib.hid hok
  clear h hok
  obtain ⟨n, hn20⟩ : ∃ n, kk % 20 = n := ⟨_, rfl⟩
  have e1 : (kk : Int) % 20 = (n : Int) := by omega
  have e2 : Int.tmod (kk : Int) 20 = (n : Int) := by rw [Int.tmod_eq_emod_of_nonneg (by omega)]; exact e1
  have hn19 : n ≤ 19 := by omega
  have e3 : IntKind.u8.wrap (n : Int) = (n : Int) := by simp [IntKind.wrap, IntKind.signed, IntKind.bits]; omega
  clear hn20
  go_enter Try.func3, Try.ntmps3
  go_wp2_with fail
  refine (fit_any16 w).mono ?_
  rintro e w1 ⟨rfl, hb⟩
  have HB1 := Lib.hid hb
  clear hb

  go_wp2_with fail
  refine (begin_any16 n (by omega) w1).mono ?_
  rintro e w2 ⟨b, m, rfl, k1, k2, k3⟩
  have HP0 : Hid (Lp16 w w2 b m n (SP.fresh n)) := Lib.hid ⟨k1, HB1.out.trans (k2.mono HB1.out.size)⟩
  have HN : Hid (∀ q, foot2 b m q → w.heap.size ≤ q) := Lib.hid fun q hq => Nat.le_trans HB1.out.size (k3 q hq)
  clear k1 k2 k3

  go_wp2_with fail
  go_loopg [30] (ds.length + 1) (fun gk i wr => ∃ (k : Nat) (s : SP), k ≤ ds.length ∧ gk = ds.length - k + 1 ∧ i = .int .i64 k ∧ Hid (Lp16 w wr b m n s))
  case atStart => exact ⟨0, _, by omega, by omega, rfl, HP0⟩
  case round =>
    obtain ⟨k, s, hk, rfl, rfl, HP⟩ := hrel
    by_cases hlt : k < ds.length
    · skip
      obtain ⟨bd, off, rfl, _, d, hd, d0, d1, d2⟩ := (H.out.below HP.out.fr).at_ hlt
      have hdo : d.ok := by rw [hd, List.getD, List.getElem?_eq_getElem hlt]; exact OK.out _ (List.getElem_mem hlt)
      obtain ⟨o1, o2, o3⟩ := hdo
      have O1 := Lib.hid o1
      have O2 := Lib.hid o2
      obtain ⟨wd, hwd⟩ : ∃ wd, wd = wr.alloc (.cells #[.int .u8 d.kd, .int .i64 d.l, .int .i64 d.r] 29) := ⟨_, rfl⟩
      have hbd : Below wr.heap.size wr wd := by rw [hwd]; exact (Below.refl _ _).alloc (Nat.le_refl _) _
      have HDd : Hid (Blk wd wr.heap.size 29 #[.int .u8 d.kd, .int .i64 d.l, .int .i64 d.r]) := Lib.hid (by rw [hwd]; exact Blk.new wr _ _)
      have HPd := Lib.hid (HP.out.low hbd)
      have HWD := Lib.hid hwd
      have hkI : (k : Int) < (ds.length : Int) := by omega
      clear hd hwd hbd o1 o2 o3

      have HNX : Hid (∀ q, foot2 b m q → q ≠ wr.heap.size) := Lib.hid fun q hq => by have := HP.out.pr.lt hq; omega
      have HPe : Hid (Lp16 w wd.drew b m n s) := Lib.hid (HPd.out.drewN 1)
      have HDe : Hid (Blk wd.drew wr.heap.size 29 #[.int .u8 d.kd, .int .i64 d.l, .int .i64 d.r]) := Lib.hid HDd.out.drew_
      have SZ := Lib.hid (box16 HDe.out)
      obtain ⟨t, ht⟩ : ∃ t, t = s.deed d.kd d.l (d.r % 256).toNat := ⟨_, rfl⟩
      have HDO := Lib.hid (do_any16 HPe.out.pr d.kd d.l d.r (by have := O1.out; omega) O2.out)
      rw [← ht] at HDO
      clear ht
      go_wp2_with fail
      (try rw [← HWD.out])
      refine wp_region_held_drew (S := fun w' => w'.cell? ⟨wr.heap.size, 0, none⟩ = some (.int .u8 d.kd) ∧ w'.cell? ⟨wr.heap.size, 1, none⟩ = some (.int .i64 d.l) ∧ w'.cell? ⟨wr.heap.size, 2, none⟩ = some (.int .i64 d.r)) (by kernel_rfl) (SZ.out) (fun hHeld => ?_)
      refine wpAnyH_take (i := 0) (oi := { dst := some 34, op := _, type := _, pos := _, after := _, guard := _ }) (v := ?v1) rfl (by kernel_rfl) (by kernel_rfl) (by kernel_rfl) (fun _ _ _ h => h) (Or.inl ⟨by rfl, ?hy1⟩) (by assumption) ?rest1
      case hy1 => (intro w99 hSw; (try dsimp only at hSw); go_simp; try with_reducible rfl)
      try simp only [Act.put, List.setIfInBounds_toArray, List.set_cons_zero, List.set_cons_succ]
      refine wpAnyH_take (i := 1) (oi := { dst := some 35, op := _, type := _, pos := _, after := _, guard := _ }) (v := ?v2) rfl (by kernel_rfl) (by kernel_rfl) (by kernel_rfl) (fun _ _ _ h => h) (Or.inl ⟨by rfl, ?hy2⟩) (by assumption) ?rest2
      case hy2 => (intro w99 hSw; (try dsimp only at hSw); go_simp; try with_reducible rfl)
      try simp only [Act.put, List.setIfInBounds_toArray, List.set_cons_zero, List.set_cons_succ]
      refine wpAnyH_take (i := 2) (oi := { dst := some 36, op := _, type := _, pos := _, after := _, guard := _ }) (v := ?v3) rfl (by kernel_rfl) (by kernel_rfl) (by kernel_rfl) (fun _ _ _ h => h) (Or.inl ⟨by rfl, ?hy3⟩) (by assumption) ?rest3
      case hy3 => (intro w99 hSw; (try dsimp only at hSw); go_simp; try with_reducible rfl)
      try simp only [Act.put, List.setIfInBounds_toArray, List.set_cons_zero, List.set_cons_succ]
      refine wpAnyH_ready (rs := [3]) (by kernel_rfl) (by simp) ?_
      refine AllReadyH.cons rfl (fun K hK => ?_) AllReadyH.nil
      go_simp
      refine (HDO.out).mono ?_
      rintro e w3 ⟨rfl, k1⟩
      have HP3 := Lib.hid (HPe.out.step k1 HN.out)
      have HD3 := Lib.hid (k1.ft.blk HDe.out fun h => HNX.out _ h rfl)
      have SA := Lib.hid (box16 HD3.out)
      have SB := Lib.hid (And.intro SA.out HP3.out.pr.md.g2)
      have HRI := Lib.hid (rise_st HP3.out.pr.st)
      clear k1
      refine hK.out _ _ SA.out (fun hHeld => ?_)
      clear hK
      try simp only [Act.put, List.setIfInBounds_toArray, List.set_cons_zero, List.set_cons_succ]
      refine wpAnyH_mono16 (S' := fun w' => (w'.cell? ⟨wr.heap.size, 0, none⟩ = some (.int .u8 d.kd) ∧ w'.cell? ⟨wr.heap.size, 1, none⟩ = some (.int .i64 d.l) ∧ w'.cell? ⟨wr.heap.size, 2, none⟩ = some (.int .i64 d.r)) ∧ w'.cell? ⟨m.g, 2, none⟩ = some (.int .i64 (t.rise : Nat))) (fun _ h => h.1) ?_
      have hHeldS := SB.out
      refine wpAnyH_take (i := 4) (oi := { dst := some 38, op := _, type := _, pos := _, after := _, guard := _ }) (v := ?v4) rfl (by kernel_rfl) (by kernel_rfl) (by kernel_rfl) (fun _ _ _ h => h) (Or.inl ⟨by rfl, ?hy4⟩) (by assumption) ?rest4
      case hy4 => (intro w99 hSw; (try dsimp only at hSw); go_simp; try with_reducible rfl)
      try simp only [Act.put, List.setIfInBounds_toArray, List.set_cons_zero, List.set_cons_succ]
      refine wpAnyH_take (i := 5) (oi := { dst := some 39, op := _, type := _, pos := _, after := _, guard := _ }) (v := ?v5) rfl (by kernel_rfl) (by kernel_rfl) (by kernel_rfl) (fun _ _ _ h => h) (Or.inl ⟨by rfl, ?hy5⟩) (by assumption) ?rest5
      case hy5 => (intro w99 hSw; (try dsimp only at hSw); go_simp; try with_reducible rfl)
      try simp only [Act.put, List.setIfInBounds_toArray, List.set_cons_zero, List.set_cons_succ]
      refine wpAnyH_take (i := 6) (oi := { dst := some 40, op := _, type := _, pos := _, after := _, guard := _ }) (v := ?v6) rfl (by kernel_rfl) (by kernel_rfl) (by kernel_rfl) (fun _ _ _ h => h) (Or.inl ⟨by rfl, ?hy6⟩) (by assumption) ?rest6
      case hy6 => (intro w99 hSw; (try dsimp only at hSw); go_simp; try with_reducible rfl)
      try simp only [Act.put, List.setIfInBounds_toArray, List.set_cons_zero, List.set_cons_succ]
      refine wpAnyH_take (i := 8) (oi := { dst := some 42, op := _, type := _, pos := _, after := _, guard := _ }) (v := ?v7) rfl (by kernel_rfl) (by kernel_rfl) (by kernel_rfl) (fun _ _ _ h => h) (Or.inl ⟨by rfl, ?hy7⟩) (by assumption) ?rest7
      case hy7 => (intro w99 hSw; (try dsimp only at hSw); go_simp; try with_reducible rfl)
      try simp only [Act.put, List.setIfInBounds_toArray, List.set_cons_zero, List.set_cons_succ]
      refine wpAnyH_take (i := 9) (oi := { dst := some 43, op := _, type := _, pos := _, after := _, guard := _ }) (v := ?v8) rfl (by kernel_rfl) (by kernel_rfl) (by kernel_rfl) (fun _ _ _ h => h) (Or.inl ⟨by rfl, ?hy8⟩) (by assumption) ?rest8
      case hy8 => (intro w99 hSw; (try dsimp only at hSw); go_simp; try with_reducible rfl)
      try simp only [Act.put, List.setIfInBounds_toArray, List.set_cons_zero, List.set_cons_succ]
      refine wpAnyH_take (i := 10) (oi := { dst := some 44, op := _, type := _, pos := _, after := _, guard := _ }) (v := ?v9) rfl (by kernel_rfl) (by kernel_rfl) (by kernel_rfl) (fun _ _ _ h => h) (Or.inl ⟨by rfl, ?hy9⟩) (by assumption) ?rest9
      case hy9 => (intro w99 hSw; (try dsimp only at hSw); go_simp; try with_reducible rfl)
      try simp only [Act.put, List.setIfInBounds_toArray, List.set_cons_zero, List.set_cons_succ]
      refine wpAnyH_take (i := 11) (oi := { dst := some 45, op := _, type := _, pos := _, after := _, guard := _ }) (v := ?v10) rfl (by kernel_rfl) (by kernel_rfl) (by kernel_rfl) (fun _ _ _ h => h) (Or.inl ⟨by rfl, ?hy10⟩) (by assumption) ?rest10
      case hy10 => (intro w99 hSw; (try dsimp only at hSw); go_simp; try with_reducible rfl)
      try simp only [Act.put, List.setIfInBounds_toArray, List.set_cons_zero, List.set_cons_succ]
      refine wpAnyH_ready (rs := [7]) (by kernel_rfl) (by simp) ?_
      refine AllReadyH.cons rfl (fun K hK => ?_) AllReadyH.nil
      go_simp
      refine (HRI.out).mono ?_
      rintro e w4 ⟨rfl, rfl⟩
      refine hK.out _ _ SB.out (fun hHeld => ?_)
      clear hK
      try simp only [Act.put, List.setIfInBounds_toArray, List.set_cons_zero, List.set_cons_succ]
      refine wpAnyH_take (i := 12) (oi := { dst := some 46, op := _, type := _, pos := _, after := _, guard := _ }) (v := ?v11) rfl (by kernel_rfl) (by kernel_rfl) (by kernel_rfl) (fun _ _ _ h => h) (Or.inl ⟨by rfl, ?hy11⟩) (by assumption) ?rest11
      case hy11 => (intro w99 hSw; (try dsimp only at hSw); go_simp; try with_reducible rfl)
      try simp only [Act.put, List.setIfInBounds_toArray, List.set_cons_zero, List.set_cons_succ]
      refine wpAnyH_take (i := 13) (oi := { dst := some 47, op := _, type := _, pos := _, after := _, guard := _ }) (v := ?v12) rfl (by kernel_rfl) (by kernel_rfl) (by kernel_rfl) (fun _ _ _ h => h) (Or.inl ⟨by rfl, ?hy12⟩) (by assumption) ?rest12
      case hy12 => (intro w99 hSw; (try dsimp only at hSw); go_simp; try with_reducible rfl)
      try simp only [Act.put, List.setIfInBounds_toArray, List.set_cons_zero, List.set_cons_succ]
      refine wpAnyH_done (by kernel_rfl) ?_ _

      have HFS := Lib.hid (first_st HP3.out.pr.st)
      have HMF := Lib.hid (mfirst_any HP3.out.pr.md)
      have HFL : Hid (t.first ≤ n) := Lib.hid (by have := SP.first_le (s := t); rw [HP3.out.pr.st.good.ls] at this; exact this)
      obtain ⟨f, hf⟩ : ∃ f, f = t.first := ⟨_, rfl⟩
      rw [← hf] at HFS HMF
      rw [fst_snd_dec] at HFS
      clear hf
      have HGT := Lib.hid HP3.out.pr.st.good
      have HN0 : Hid (t.isIn 0 = false ∧ t.isIn ((n : Int) + 1) = false ∧ t.score ((n : Int) + 1) = 0 ∧ t.score (-1) = 0) := Lib.hid (by
        have hl := HP3.out.pr.st.good.ls
        have v1 : t.isV 0 = false := by rw [Bool.eq_false_iff]; intro h; rw [SP.isV_iff] at h; omega
        have v2 : t.isV ((n : Int) + 1) = false := by rw [Bool.eq_false_iff]; intro h; rw [SP.isV_iff] at h; omega
        have v3 : t.isV (-1) = false := by rw [Bool.eq_false_iff]; intro h; rw [SP.isV_iff] at h; omega
        refine ⟨?_, ?_, ?_, ?_⟩
        · unfold SP.isIn; rw [v1]; rfl
        · unfold SP.isIn; rw [v2]; rfl
        · unfold SP.score; rw [v2]; rfl
        · unfold SP.score; rw [v3]; rfl)
      clear d0 d1 d2
      rcases (show f = 0 ∨ 0 < f by omega) with h0 | h0
      all_goals
        first
          | (subst h0; rw [show decide (0 < 0) = false by decide] at HFS)
          | (have h1 : (0 : Int) < (f : Int) := by omega
             rw [show decide (0 < f) = true by simp [h0]] at HFS)
        go_wp2_with fail
        with_reducible refine HFS.out.mono ?_
        rintro e w4 ⟨rfl, rfl⟩
        go_wp2_with fail
        with_reducible refine HMF.out.mono ?_
        rintro e w4 ⟨rfl, q, hq⟩
        have HP4 : Hid (Lp16 w w4 b m n t) := Lib.hid (by rw [hq]; exact HP3.out.drewN q)
        clear hq
        go_wp2_with fail
        go_loopg [13, 14] (n + 1) (fun gk kv iv wr => ∃ (j q : Nat), j ≤ n ∧ gk = n - j + 1 ∧ kv = .int .i64 (cntB t.inn j : Nat) ∧ iv = .int .i64 ((j : Int) + 1) ∧ wr = w4.drewN q)
        case atStart => exact ⟨0, 0, by omega, by omega, rfl, by go_num, rfl⟩
        case round =>
          obtain ⟨j, q, hj, rfl, rfl, rfl, hw⟩ := hrel
          obtain ⟨w5, rfl⟩ : ∃ w5 : World, w5 = wr := ⟨_, rfl⟩
          have HW5 := Lib.hid hw
          have HP5 : Hid (Lp16 w w5 b m n t) := Lib.hid (by rw [hw]; exact HP4.out.drewN q)
          clear hw
          have hcl := cntB_le t.inn j
          by_cases hlt2 : j < n
          · have HSC := Lib.hid (fun q => score_st (HP5.out.pr.st.drewN q) ((j : Int) + 1) (by omega))
            have HIN := Lib.hid (fun q => in_st (HP5.out.pr.st.drewN q) ((j : Int) + 1) (by omega))
            rw [SP.score_at (n := n) HGT.out.ls hlt2] at HSC
            rw [SP.isIn_at (n := n) HGT.out.ls hlt2] at HIN
            have HCS : Hid (cntB t.inn (j + 1) = cntB t.inn j + if t.inn.getD j false = true then 1 else 0) := Lib.hid (cntB_succ _ _)
            have g0 := HP5.out.pr.md.g0
            have g1 := HP5.out.pr.md.g1
            have cs := HP5.out.pr.md.cS hlt2
            have ci := HP5.out.pr.md.cI hlt2
            obtain ⟨x, hx⟩ : ∃ x, x = t.sc.getD j 0 := ⟨_, rfl⟩
            obtain ⟨z, hz⟩ : ∃ z, z = t.inn.getD j false := ⟨_, rfl⟩
            obtain ⟨cj, hcj⟩ : ∃ cj, cj = cntB t.inn j := ⟨_, rfl⟩
            rw [← hx] at HSC cs
            rw [← hz] at HIN ci HCS
            rw [← hcj] at HCS hcl ⊢
            have hjI : (j : Int) < (n : Int) := by omega
            have hjJ : (j : Int) + 1 < (n : Int) + 1 := by omega
            have hcjb : cj ≤ 20 := by omega
            clear hx hz hcj
            rcases z with _ | _
            · go_wp2_with fail
              go_quiet (first | (go_at_call 14; with_reducible exact quiet_left (HSC.out _)) | (go_at_call 15; with_reducible exact quiet_left (HIN.out _)))
              go_wp2_with fail
              go_roundg (n - j)
              case measure => omega
              case rel => exact ⟨j + 1, _, by omega, by omega, by rw [HCS.out]; simp, by go_num, by rw [HW5.out, World.drewN_drewN]⟩
            · go_wp2_with fail
              go_quiet (first | (go_at_call 14; with_reducible exact quiet_left (HSC.out _)) | (go_at_call 15; with_reducible exact quiet_left (HIN.out _)))
              go_wp2_with fail
              go_roundg (n - j)
              case measure => omega
              case rel => exact ⟨j + 1, _, by omega, by omega, by rw [HCS.out]; simp, by go_num, by rw [HW5.out, World.drewN_drewN]⟩
          · obtain rfl : n = j := by omega
            have HLEN : Hid (Calls Try.prog 16 #[.pointer (some ⟨b.g, 0, none⟩)] w5 fun e w' => e = .returned (.int .i64 (cntB t.inn n : Nat)) ∧ w5 = w') := Lib.hid (len_st HP5.out.pr.st)
            obtain ⟨cj, hcj⟩ : ∃ cj, cj = cntB t.inn n := ⟨_, rfl⟩
            rw [← hcj] at HLEN hcl ⊢
            clear hcj
            have I0 := Lib.hid (in_st HP5.out.pr.st 0 (by omega))
            have I1 := Lib.hid (in_st HP5.out.pr.st ((n : Int) + 1) (by omega))
            have I2 := Lib.hid (score_st HP5.out.pr.st ((n : Int) + 1) (by omega))
            have I3 := Lib.hid (score_st HP5.out.pr.st (-1) (by omega))
            rw [HN0.out.1] at I0
            rw [HN0.out.2.1] at I1
            rw [HN0.out.2.2.1] at I2
            rw [HN0.out.2.2.2] at I3
            go_wp2_with fail
            with_reducible refine HLEN.out.mono ?_
            rintro e w6 ⟨rfl, rfl⟩
            go_wp2_with fail
            with_reducible refine I0.out.mono ?_
            rintro e w6 ⟨rfl, rfl⟩
            go_wp2_with fail
            with_reducible refine I1.out.mono ?_
            rintro e w6 ⟨rfl, rfl⟩
            go_wp2_with fail
            with_reducible refine I2.out.mono ?_
            rintro e w6 ⟨rfl, rfl⟩
            go_wp2_with fail
            with_reducible refine I3.out.mono ?_
            rintro e w6 ⟨rfl, rfl⟩
            go_wp2_with fail
            go_roundg (ds.length - k)
            case measure => omega
            case rel => exact ⟨k + 1, t, by omega, by omega, by go_num, HP5⟩
    · go_wp2
      go_ret
      exact ⟨rfl, HP.out.fr⟩

open Go.ChangeShapes Go.WideShapes Go.ChangeAt Go.Deep Go.Joins in
theorem run_raw (a0 : Int) (A : Option Addr) (c : Nat) (ds : List DeedV) (W : World) (w0 : (Lit.int .u8 a0).wf = true) (hok : ∀ d ∈ ds, d.ok) (h : Deeds W W.heap.size A ds) :
    Calls Try.prog 3 #[.int .u8 a0, .slice A ds.length c] W fun e w' => e = .returned (.bool true) ∧ Below W.heap.size W w' := by
  have b0 := bounds_u8 w0
  obtain ⟨n0, rfl⟩ : ∃ n : Nat, a0 = n := ⟨a0.toNat, by omega⟩
  by_cases hm : 100 < ds.length
  · exact run_out n0 ds A c W hm
  · exact run_in n0 ds A c W (by omega) (by omega) hok h
end Go.Proofs.Ytnimmlfccgnneaa
