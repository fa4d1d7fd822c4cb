/- Is a trail as the statements' own has it, as far as a literal goes? -/
import Derived.Test.YtihljekdipengaaMod12c
namespace Go.Proofs.Ytihljekdipengaa
open Go.RowKit Go.Maps
set_option linter.unusedVariables false
set_option linter.unusedSimpArgs false

theorem zeroB12 (w : World) : (zeroValue 4).run Try.prog w = .ok (.bool false) w := by kernel_rfl
theorem plainElem_bool_inv {P : Program} {e : TypeId} (he : P.underlying e = some .bool) {v : Value} {z : DataW Unit × List MemPlace} (h : plainElem P e v = some z) : ∃ a, v = .bool a ∧ z = (.lit (.bool a), []) := by
  cases v with
  | bool b =>
    simp [plainElem, he] at h
    exact ⟨b, rfl, h.symm⟩
  | _ => simp [plainElem, he] at h
theorem look_bool {w : World} {mp k : Nat} {D : DataW Unit} (h : w.ownsMap Try.prog 3 (plainElem (H := Unit) Try.prog 4) mp k D) {x : Int} (hx : (Lit.int .i64 x).wf = true) {b : Bool} (hb : D.atKey (.int .i64 x) (.lit (.bool false)) = .lit (.bool b)) :
    (Instr.lookup 27 (.map (some mp)) (.int .i64 x) false).run Try.prog w = .ok (.bool b) w := by
  obtain ⟨v, ps, hrun, hv⟩ := h.lookup intLaw12 Try.underlying27 (zeroB12 w) (plainElem_bool Try.underlying4 false) (Maps.keyOf_int_mk Try.underlying3 hx)
  obtain ⟨a, rfl, hz⟩ := plainElem_bool_inv Try.underlying4 hv
  rw [hb] at hz
  simp only [Prod.mk.injEq] at hz
  have : b = a := by
    have := hz.1
    injection this with this
    injection this
  rw [this]
  exact hrun

set_option maxRecDepth 100000 in
set_option maxHeartbeats 8000000 in
theorem same_any {w : World} {bT bM g P q mp kb : Nat} {t : TS} (hT : Tr w bT g P t) (hM : Md w bM q mp kb t) (l : Int) (h0 : -9223372036854775808 ≤ l ∧ l ≤ 9223372036854775807) :
    Calls Try.prog 19 #[.pointer (some ⟨g, 0, none⟩), .pointer (some ⟨q, 0, none⟩), .int .i64 l] w fun e w' => e = .returned (.bool true) ∧ Gr w w' := by
  have HW := Lib.hid (mwhere_any hM l h0)
  have HR := Lib.hid (fun (w' : World) (h : Md w' bM q mp kb t) => mright_any h l)
  have HP := Lib.hid (fun (w' : World) (h : Tr w' bT g P t) => place_any h l h0)
  have HV := Lib.hid (fun (w' : World) (h : Tr w' bT g P t) => value_any h l h0)
  have HL := Lib.hid (fun (w' : World) (h : Tr w' bT g P t) => levelOf_any h l h0)
  have HY := Lib.hid (fun (w' : World) (h : Tr w' bT g P t) => reason_any h l h0)
  have HF := Lib.hid (fun (w' : World) (h : Tr w' bT g P t) => phase_any h l)
  have T0 := Lib.hid hT
  have M0 := Lib.hid hM
  clear hT hM
  have hfew := T0.out.good.few
  rcases hr : rightM t l with _ | _
  · have hnr : ¬ (l ≠ 0 ∧ l.natAbs ≤ t.ph.length) := by simpa [rightM] using hr
    have hfd : find t.recs l = none := find_none.2 fun r hr' ho => by
      have := T0.out.good.lit r hr'
      rw [Rec.of_abs] at ho
      omega
    have hpl : placeT t.recs l = -1 := by unfold placeT; rw [hfd]
    have hvl : valT t.recs l = 0 := valT_none.2 hfd
    have hll : levT t.recs l = -1 := by unfold levT; rw [hfd]
    have hyl : whyT t.recs l = -1 := by unfold whyT; rw [hfd]
    rw [hpl] at HW HP
    rw [hvl] at HV
    rw [hll] at HL
    rw [hyl] at HY
    have hpf : phT t.ph l = false := by
      unfold phT
      by_cases h1 : 1 ≤ l
      · rw [List.getD_eq_getElem?_getD, List.getElem?_eq_none (by omega)]; simp
      · simp [h1]
    rw [hpf] at HF
    rw [hr] at HR
    clear hr hnr hfd hpl hvl hll hyl hpf
    go_enter Try.func19, Try.ntmps19
    go_wp2_with fail
    refine HW.out.mono ?_
    rintro e w1 ⟨rfl, hg⟩
    have T1 := Lib.hid (T0.out.below hg.below)
    have M1 := Lib.hid (M0.out.below hg.below)
    have G1 := Lib.hid hg
    clear hg
    go_wp2_with fail
    refine (HR.out _ M1.out).mono ?_
    rintro e wq ⟨rfl, rfl⟩
    go_wp2_with fail
    refine (HP.out _ T1.out).mono ?_
    rintro e w2 ⟨rfl, hw⟩
    have T2 := Lib.hid (T1.out.drewE hw)
    have G2 := Lib.hid (G1.out.drewE hw)
    clear hw
    go_wp2_with fail
    refine (HV.out _ T2.out).mono ?_
    rintro e w3 ⟨rfl, hw⟩
    have T3 := Lib.hid (T2.out.drewE hw)
    have G3 := Lib.hid (G2.out.drewE hw)
    clear hw
    go_wp2_with fail
    refine (HL.out _ T3.out).mono ?_
    rintro e w4 ⟨rfl, hw⟩
    have T4 := Lib.hid (T3.out.drewE hw)
    have G4 := Lib.hid (G3.out.drewE hw)
    clear hw
    go_wp2_with fail
    refine (HY.out _ T4.out).mono ?_
    rintro e w5 ⟨rfl, hw⟩
    have T5 := Lib.hid (T4.out.drewE hw)
    have G5 := Lib.hid (G4.out.drewE hw)
    clear hw
    go_wp2_with fail
    refine (HF.out _ T5.out).mono ?_
    rintro e w6 ⟨rfl, hw⟩
    have T6 := Lib.hid (T5.out.drewE hw)
    have G6 := Lib.hid (G5.out.drewE hw)
    clear hw
    go_wp2
    go_ret
    exact ⟨rfl, G6.out⟩
  · have hir : l ≠ 0 ∧ l.natAbs ≤ t.ph.length := by simpa [rightM] using hr
    rw [hr] at HR
    have hlk : 0 < l → ∀ (w' : World), Md w' bM q mp kb t → (Instr.lookup 27 (.map (some mp)) (.int .i64 l) false).run Try.prog w' = .ok (.bool (phT t.ph l)) w' := fun hp w' h => by
      obtain ⟨k, D, m1, _, m3⟩ := h.map
      refine look_bool m1 (WalkArith.wf_i64 (by omega)) ?_
      have := m3 l.natAbs (by omega) (by omega)
      rw [show ((l.natAbs : Nat) : Int) = l by omega] at this
      rw [this]
      obtain ⟨j, rfl⟩ : ∃ j : Nat, l = (j : Int) + 1 := ⟨l.natAbs - 1, by omega⟩
      rw [phT_at, show ((j : Int) + 1).natAbs - 1 = j by omega]
    have HLK := Lib.hid hlk
    have h0l : (l == 0) = false := by simpa using hir.1
    clear hr hlk
    obtain ⟨b, hb⟩ : ∃ b, phT t.ph l = b := ⟨_, rfl⟩
    rw [hb] at HF HLK
    clear hb
    rcases hfd : find t.recs l with _ | ⟨i, r⟩
    · have hpl : placeT t.recs l = -1 := by unfold placeT; rw [hfd]
      have hvl : valT t.recs l = 0 := valT_none.2 hfd
      have hll : levT t.recs l = -1 := by unfold levT; rw [hfd]
      have hyl : whyT t.recs l = -1 := by unfold whyT; rw [hfd]
      rw [hpl] at HW HP
      rw [hvl] at HV
      rw [hll] at HL
      rw [hyl] at HY
      clear hpl hvl hll hyl hfd
      by_cases hp : 0 < l
      · go_enter Try.func19, Try.ntmps19
        go_wp2_with fail
        refine HW.out.mono ?_
        rintro e w1 ⟨rfl, hg⟩
        have T1 := Lib.hid (T0.out.below hg.below)
        have M1 := Lib.hid (M0.out.below hg.below)
        have G1 := Lib.hid hg
        clear hg
        go_wp2_with fail
        refine (HR.out _ M1.out).mono ?_
        rintro e wq ⟨rfl, rfl⟩
        have c3 : w1.cell? ⟨q, 3, none⟩ = some (.map (some mp)) := by
          obtain ⟨A, c, b1, _⟩ := M1.out.ex
          have := b1.cell 3
          simpa using this
        have hlq := fun (n : Nat) => HLK.out hp (w1.drewN n) (M1.out.drewE ⟨n, rfl⟩)
        have HFQ := Lib.hid (fun (n : Nat) => HF.out (w1.drewN n) (T1.out.drewN n))
        go_wp2_with fail
        go_quiet ((go_at_call 23; first | exact Calls.quiet_of (HFQ.out _) | exact quiet_add_of (HFQ.out _)))
        obtain ⟨w2, hw2⟩ : ∃ w2, w1.drewN nq = w2 := ⟨_, rfl⟩
        rw [hw2]
        have T2 := Lib.hid (T1.out.drewE ⟨nq, hw2.symm⟩)
        have M2 := Lib.hid (M1.out.drewE ⟨nq, hw2.symm⟩)
        have G2 := Lib.hid (G1.out.drewE ⟨nq, hw2.symm⟩)
        clear hw2
        clear c3 hlq
        go_wp2_with fail
        refine (HP.out _ T2.out).mono ?_
        rintro e w3 ⟨rfl, hw⟩
        have T3 := Lib.hid (T2.out.drewE hw)
        have G3 := Lib.hid (G2.out.drewE hw)
        clear hw
        go_wp2_with fail
        refine (HV.out _ T3.out).mono ?_
        rintro e w4 ⟨rfl, hw⟩
        have T4 := Lib.hid (T3.out.drewE hw)
        have G4 := Lib.hid (G3.out.drewE hw)
        clear hw
        go_wp2_with fail
        refine (HL.out _ T4.out).mono ?_
        rintro e w5 ⟨rfl, hw⟩
        have T5 := Lib.hid (T4.out.drewE hw)
        have G5 := Lib.hid (G4.out.drewE hw)
        clear hw
        go_wp2_with fail
        refine (HY.out _ T5.out).mono ?_
        rintro e w6 ⟨rfl, hw⟩
        have T6 := Lib.hid (T5.out.drewE hw)
        have G6 := Lib.hid (G5.out.drewE hw)
        clear hw
        go_wp2
        go_ret
        exact ⟨rfl, G6.out⟩
      · go_enter Try.func19, Try.ntmps19
        go_wp2_with fail
        refine HW.out.mono ?_
        rintro e w1 ⟨rfl, hg⟩
        have T1 := Lib.hid (T0.out.below hg.below)
        have M1 := Lib.hid (M0.out.below hg.below)
        have G1 := Lib.hid hg
        clear hg
        go_wp2_with fail
        refine (HR.out _ M1.out).mono ?_
        rintro e wq ⟨rfl, rfl⟩
        have hd0 : decide (0 < l) = false := by simp [hp]
        go_wp2_with fail
        go_quiet (fail)
        obtain ⟨w2, hw2⟩ : ∃ w2, w1.drewN nq = w2 := ⟨_, rfl⟩
        rw [hw2]
        have T2 := Lib.hid (T1.out.drewE ⟨nq, hw2.symm⟩)
        have M2 := Lib.hid (M1.out.drewE ⟨nq, hw2.symm⟩)
        have G2 := Lib.hid (G1.out.drewE ⟨nq, hw2.symm⟩)
        clear hw2
        go_wp2_with fail
        refine (HP.out _ T2.out).mono ?_
        rintro e w3 ⟨rfl, hw⟩
        have T3 := Lib.hid (T2.out.drewE hw)
        have G3 := Lib.hid (G2.out.drewE hw)
        clear hw
        go_wp2_with fail
        refine (HV.out _ T3.out).mono ?_
        rintro e w4 ⟨rfl, hw⟩
        have T4 := Lib.hid (T3.out.drewE hw)
        have G4 := Lib.hid (G3.out.drewE hw)
        clear hw
        go_wp2_with fail
        refine (HL.out _ T4.out).mono ?_
        rintro e w5 ⟨rfl, hw⟩
        have T5 := Lib.hid (T4.out.drewE hw)
        have G5 := Lib.hid (G4.out.drewE hw)
        clear hw
        go_wp2_with fail
        refine (HY.out _ T5.out).mono ?_
        rintro e w6 ⟨rfl, hw⟩
        have T6 := Lib.hid (T5.out.drewE hw)
        have G6 := Lib.hid (G5.out.drewE hw)
        clear hw
        go_wp2
        go_ret
        exact ⟨rfl, G6.out⟩
    · obtain ⟨hri, hro⟩ := find_some hfd
      have hpl : placeT t.recs l = (i : Nat) := by unfold placeT; rw [hfd]
      have hll : levT t.recs l = (r.lev : Nat) := by unfold levT; rw [hfd]
      have hyl : whyT t.recs l = r.rs := by unfold whyT; rw [hfd]
      have him : i < t.recs.length := (List.getElem?_eq_some_iff.1 hri).1
      have hml := T0.out.good.len
      rw [hpl] at HW HP
      rw [hll] at HL
      rw [hyl] at HY
      have hrl : r.l ≠ 0 := (T0.out.good.lit r (List.mem_of_getElem? hri)).1
      have HCELL := Lib.hid (fun (w' : World) (h : Md w' bM q mp kb t) => (show ∃ (A : Option Addr) (c G : Nat), A = some ⟨G, 0, none⟩ ∧ w'.cell? ⟨q, 2, none⟩ = some (.slice (some ⟨G, 0, none⟩) t.recs.length c) ∧ w'.cell? ⟨G, i * 3, none⟩ = some (.int .i64 r.l) ∧ w'.cell? ⟨G, i * 3 + 1, none⟩ = some (.int .i64 (r.lev : Nat)) ∧ w'.cell? ⟨G, i * 3 + 2, none⟩ = some (.int .i64 r.rs) from by
        obtain ⟨A, c, b1, b2⟩ := h.ex
        obtain ⟨G, rfl⟩ : ∃ G, A = some ⟨G, 0, none⟩ := by
          rcases b2.2 with ⟨hv, hz⟩ | ⟨G, cap, cur, hv, hb, hh, _⟩
          · omega
          · injection hv with hv
            exact ⟨G, hv⟩
        obtain ⟨s0, s1, s2⟩ := stepsV_get hri
        have c2 := b1.cell 2
        exact ⟨_, c, G, rfl, by simpa using c2, (World.ownsRow.cellAt b2 (i * 3) (by omega)).trans s0, (World.ownsRow.cellAt b2 (i * 3 + 1) (by omega)).trans s1, (World.ownsRow.cellAt b2 (i * 3 + 2) (by omega)).trans s2⟩))
      obtain ⟨m, hm⟩ : ∃ m, t.recs.length = m := ⟨_, rfl⟩
      obtain ⟨lev, hlev⟩ : ∃ lev, r.lev = lev := ⟨_, rfl⟩
      obtain ⟨rz, hrz⟩ : ∃ rz, r.rs = rz := ⟨_, rfl⟩
      rw [hm] at HCELL him hml
      rw [hlev] at HCELL HL
      rw [hrz] at HCELL HY
      have hv1 : valT t.recs l = if r.l = l then 1 else -1 := by unfold valT; rw [hfd]
      unfold Rec.of at hro
      have himI : (i : Int) < (m : Int) := by omega
      by_cases hs : r.l = l
      · rw [if_pos hs] at hv1
        rw [hv1] at HV
        rw [hs] at HCELL
        clear hfd hpl hll hyl hm hlev hrz hv1 hri hro hs hrl
        by_cases hp : 0 < l
        · go_enter Try.func19, Try.ntmps19
          go_wp2_with fail
          refine HW.out.mono ?_
          rintro e w1 ⟨rfl, hg⟩
          have T1 := Lib.hid (T0.out.below hg.below)
          have M1 := Lib.hid (M0.out.below hg.below)
          have G1 := Lib.hid hg
          clear hg
          go_wp2_with fail
          refine (HR.out _ M1.out).mono ?_
          rintro e wq ⟨rfl, rfl⟩
          have c3 : w1.cell? ⟨q, 3, none⟩ = some (.map (some mp)) := by
            obtain ⟨A, c, b1, _⟩ := M1.out.ex
            have := b1.cell 3
            simpa using this
          have hlq := fun (n : Nat) => HLK.out hp (w1.drewN n) (M1.out.drewE ⟨n, rfl⟩)
          have HFQ := Lib.hid (fun (n : Nat) => HF.out (w1.drewN n) (T1.out.drewN n))
          go_wp2_with fail
          go_quiet ((go_at_call 23; first | exact Calls.quiet_of (HFQ.out _) | exact quiet_add_of (HFQ.out _)))
          obtain ⟨w2, hw2⟩ : ∃ w2, w1.drewN nq = w2 := ⟨_, rfl⟩
          rw [hw2]
          have T2 := Lib.hid (T1.out.drewE ⟨nq, hw2.symm⟩)
          have M2 := Lib.hid (M1.out.drewE ⟨nq, hw2.symm⟩)
          have G2 := Lib.hid (G1.out.drewE ⟨nq, hw2.symm⟩)
          clear hw2
          clear c3 hlq
          obtain ⟨A9, c9, G9, hA9, y2, z0, z1, z2⟩ := HCELL.out w2 M2.out
          clear hA9
          have HPQ := Lib.hid (fun (n : Nat) => HP.out (w2.drewN n) (T2.out.drewN n))
          have HVQ := Lib.hid (fun (n : Nat) => HV.out (w2.drewN n) (T2.out.drewN n))
          have HLQ := Lib.hid (fun (n : Nat) => HL.out (w2.drewN n) (T2.out.drewN n))
          have HYQ := Lib.hid (fun (n : Nat) => HY.out (w2.drewN n) (T2.out.drewN n))
          go_wp2_with fail
          go_quiet (first
            | (go_at_call 24; first | exact Calls.quiet_of (HPQ.out _) | exact quiet_add_of (HPQ.out _))
            | (go_at_call 22; first | exact Calls.quiet_of (HVQ.out _) | exact quiet_add_of (HVQ.out _))
            | (go_at_call 21; first | exact Calls.quiet_of (HLQ.out _) | exact quiet_add_of (HLQ.out _))
            | (go_at_call 26; first | exact Calls.quiet_of (HYQ.out _) | exact quiet_add_of (HYQ.out _)))
          go_wp2
          go_ret
          exact ⟨rfl, G2.out.drewE ⟨_, rfl⟩⟩
        · go_enter Try.func19, Try.ntmps19
          go_wp2_with fail
          refine HW.out.mono ?_
          rintro e w1 ⟨rfl, hg⟩
          have T1 := Lib.hid (T0.out.below hg.below)
          have M1 := Lib.hid (M0.out.below hg.below)
          have G1 := Lib.hid hg
          clear hg
          go_wp2_with fail
          refine (HR.out _ M1.out).mono ?_
          rintro e wq ⟨rfl, rfl⟩
          have hd0 : decide (0 < l) = false := by simp [hp]
          go_wp2_with fail
          go_quiet (fail)
          obtain ⟨w2, hw2⟩ : ∃ w2, w1.drewN nq = w2 := ⟨_, rfl⟩
          rw [hw2]
          have T2 := Lib.hid (T1.out.drewE ⟨nq, hw2.symm⟩)
          have M2 := Lib.hid (M1.out.drewE ⟨nq, hw2.symm⟩)
          have G2 := Lib.hid (G1.out.drewE ⟨nq, hw2.symm⟩)
          clear hw2
          obtain ⟨A9, c9, G9, hA9, y2, z0, z1, z2⟩ := HCELL.out w2 M2.out
          clear hA9
          have HPQ := Lib.hid (fun (n : Nat) => HP.out (w2.drewN n) (T2.out.drewN n))
          have HVQ := Lib.hid (fun (n : Nat) => HV.out (w2.drewN n) (T2.out.drewN n))
          have HLQ := Lib.hid (fun (n : Nat) => HL.out (w2.drewN n) (T2.out.drewN n))
          have HYQ := Lib.hid (fun (n : Nat) => HY.out (w2.drewN n) (T2.out.drewN n))
          go_wp2_with fail
          go_quiet (first
            | (go_at_call 24; first | exact Calls.quiet_of (HPQ.out _) | exact quiet_add_of (HPQ.out _))
            | (go_at_call 22; first | exact Calls.quiet_of (HVQ.out _) | exact quiet_add_of (HVQ.out _))
            | (go_at_call 21; first | exact Calls.quiet_of (HLQ.out _) | exact quiet_add_of (HLQ.out _))
            | (go_at_call 26; first | exact Calls.quiet_of (HYQ.out _) | exact quiet_add_of (HYQ.out _)))
          go_wp2
          go_ret
          exact ⟨rfl, G2.out.drewE ⟨_, rfl⟩⟩
      · have hs2 : r.l = -l := by omega
        have hne : (-l == l) = false := by simp; omega
        have hne2 : (-l != l) = true := by simp; omega
        rw [if_neg hs] at hv1
        rw [hv1] at HV
        rw [hs2] at HCELL
        clear hfd hpl hll hyl hm hlev hrz hv1 hri hro hs hs2 hrl
        by_cases hp : 0 < l
        · go_enter Try.func19, Try.ntmps19
          go_wp2_with fail
          refine HW.out.mono ?_
          rintro e w1 ⟨rfl, hg⟩
          have T1 := Lib.hid (T0.out.below hg.below)
          have M1 := Lib.hid (M0.out.below hg.below)
          have G1 := Lib.hid hg
          clear hg
          go_wp2_with fail
          refine (HR.out _ M1.out).mono ?_
          rintro e wq ⟨rfl, rfl⟩
          have c3 : w1.cell? ⟨q, 3, none⟩ = some (.map (some mp)) := by
            obtain ⟨A, c, b1, _⟩ := M1.out.ex
            have := b1.cell 3
            simpa using this
          have hlq := fun (n : Nat) => HLK.out hp (w1.drewN n) (M1.out.drewE ⟨n, rfl⟩)
          have HFQ := Lib.hid (fun (n : Nat) => HF.out (w1.drewN n) (T1.out.drewN n))
          go_wp2_with fail
          go_quiet ((go_at_call 23; first | exact Calls.quiet_of (HFQ.out _) | exact quiet_add_of (HFQ.out _)))
          obtain ⟨w2, hw2⟩ : ∃ w2, w1.drewN nq = w2 := ⟨_, rfl⟩
          rw [hw2]
          have T2 := Lib.hid (T1.out.drewE ⟨nq, hw2.symm⟩)
          have M2 := Lib.hid (M1.out.drewE ⟨nq, hw2.symm⟩)
          have G2 := Lib.hid (G1.out.drewE ⟨nq, hw2.symm⟩)
          clear hw2
          clear c3 hlq
          obtain ⟨A9, c9, G9, hA9, y2, z0, z1, z2⟩ := HCELL.out w2 M2.out
          clear hA9
          have HPQ := Lib.hid (fun (n : Nat) => HP.out (w2.drewN n) (T2.out.drewN n))
          have HVQ := Lib.hid (fun (n : Nat) => HV.out (w2.drewN n) (T2.out.drewN n))
          have HLQ := Lib.hid (fun (n : Nat) => HL.out (w2.drewN n) (T2.out.drewN n))
          have HYQ := Lib.hid (fun (n : Nat) => HY.out (w2.drewN n) (T2.out.drewN n))
          go_wp2_with fail
          go_quiet (first
            | (go_at_call 24; first | exact Calls.quiet_of (HPQ.out _) | exact quiet_add_of (HPQ.out _))
            | (go_at_call 22; first | exact Calls.quiet_of (HVQ.out _) | exact quiet_add_of (HVQ.out _))
            | (go_at_call 21; first | exact Calls.quiet_of (HLQ.out _) | exact quiet_add_of (HLQ.out _))
            | (go_at_call 26; first | exact Calls.quiet_of (HYQ.out _) | exact quiet_add_of (HYQ.out _)))
          go_wp2
          go_ret
          exact ⟨rfl, G2.out.drewE ⟨_, rfl⟩⟩
        · go_enter Try.func19, Try.ntmps19
          go_wp2_with fail
          refine HW.out.mono ?_
          rintro e w1 ⟨rfl, hg⟩
          have T1 := Lib.hid (T0.out.below hg.below)
          have M1 := Lib.hid (M0.out.below hg.below)
          have G1 := Lib.hid hg
          clear hg
          go_wp2_with fail
          refine (HR.out _ M1.out).mono ?_
          rintro e wq ⟨rfl, rfl⟩
          have hd0 : decide (0 < l) = false := by simp [hp]
          go_wp2_with fail
          go_quiet (fail)
          obtain ⟨w2, hw2⟩ : ∃ w2, w1.drewN nq = w2 := ⟨_, rfl⟩
          rw [hw2]
          have T2 := Lib.hid (T1.out.drewE ⟨nq, hw2.symm⟩)
          have M2 := Lib.hid (M1.out.drewE ⟨nq, hw2.symm⟩)
          have G2 := Lib.hid (G1.out.drewE ⟨nq, hw2.symm⟩)
          clear hw2
          obtain ⟨A9, c9, G9, hA9, y2, z0, z1, z2⟩ := HCELL.out w2 M2.out
          clear hA9
          have HPQ := Lib.hid (fun (n : Nat) => HP.out (w2.drewN n) (T2.out.drewN n))
          have HVQ := Lib.hid (fun (n : Nat) => HV.out (w2.drewN n) (T2.out.drewN n))
          have HLQ := Lib.hid (fun (n : Nat) => HL.out (w2.drewN n) (T2.out.drewN n))
          have HYQ := Lib.hid (fun (n : Nat) => HY.out (w2.drewN n) (T2.out.drewN n))
          go_wp2_with fail
          go_quiet (first
            | (go_at_call 24; first | exact Calls.quiet_of (HPQ.out _) | exact quiet_add_of (HPQ.out _))
            | (go_at_call 22; first | exact Calls.quiet_of (HVQ.out _) | exact quiet_add_of (HVQ.out _))
            | (go_at_call 21; first | exact Calls.quiet_of (HLQ.out _) | exact quiet_add_of (HLQ.out _))
            | (go_at_call 26; first | exact Calls.quiet_of (HYQ.out _) | exact quiet_add_of (HYQ.out _)))
          go_wp2
          go_ret
          exact ⟨rfl, G2.out.drewE ⟨_, rfl⟩⟩
end Go.Proofs.Ytihljekdipengaa
