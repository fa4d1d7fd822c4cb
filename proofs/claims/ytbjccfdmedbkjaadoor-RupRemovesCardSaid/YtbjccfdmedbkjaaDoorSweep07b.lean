/- sweep, walked. -/
import Derived.Test.YtbjccfdmedbkjaaDoorSweep07
namespace Go.Proofs.YtbjccfdmedbkjaaDoor
open Go.RowKit
set_option linter.unusedVariables false
set_option linter.unusedSimpArgs false

/-- sweep's answer -/
def SweepP (base : Nat) (X : SX) (fo : List Bool) (W : World) (e : Ending) (W' : World) : Prop :=
  e = .returned (.tuple #[]) ∧ ∃ X' : SX, Rest7 W' base X' fo ∧ Tn base X W W' ∧ Later7 W X X' ∧ X'.s = X.s ∧ X'.V = X.V ∧ X'.cs = X.cs ∧ X'.ps.length ≤ X.ps.length ∧ X'.added = X.added ∧ X'.tk = X.tk
set_option maxRecDepth 100000 in
set_option maxHeartbeats 1000000 in
theorem sweep_any7 {W : World} {base : Nat} {X : SX} {fo : List Bool} (h : Rest7 W base X fo) :
    Calls Tryd.prog 38 #[.pointer (some ⟨X.s, 0, none⟩)] W (SweepP base X fo W) := by
  have hvb := h.sto.vb
  have hnum := h.sto.num.1
  have hps := h.wf.plen
  have hB : base ≤ W.heap.size := by have := h.sto.lo.1; have := h.sto.st.lt; omega
  have hcsl : X.cs.length ≤ 1000000000 := by
    have := List.length_filter_le (fun p => !(X.C p).gone) X.ps
    have e : X.cs.length = (X.ps.filter fun p => !(X.C p).gone).length := by simp [SX.cs, SX.live]
    omega
  have hng : X.ng ≤ 1000000000 := by have := h.shelf.ng; omega
  have HL := Lib.hid (fun n : Nat => len_any7 (h.below (below_drewN (Below.refl _ W) n)))
  obtain ⟨Aa, ca, hva, hoa⟩ := h.sto.pil.each (2 * X.V) (by omega)
  obtain ⟨As, cs, hvs, hos⟩ := h.sto.pil.each (2 * X.V + 1) (by omega)
  have s2 : W.cell? ⟨X.s, 2, none⟩ = some (.int .i64 X.ng) := h.sto.st.cell 2
  have s3 : W.cell? ⟨X.s, 3, none⟩ = some (.slice Aa (X.pss.getD (2 * X.V) []).length ca) := by rw [← hva]; exact h.sto.st.cell 3
  have s5 : W.cell? ⟨X.s, 5, none⟩ = some (.slice X.Aw (2 * X.V) X.cw) := h.sto.st.cell 5
  obtain ⟨N, hN⟩ : ∃ N, N = 2 * X.V := ⟨_, rfl⟩
  obtain ⟨nc, hnc⟩ : ∃ nc, nc = X.cs.length := ⟨_, rfl⟩
  obtain ⟨ng, hngg⟩ : ∃ ng, ng = X.ng := ⟨_, rfl⟩
  rw [← hN] at s5
  rw [← hnc] at HL hcsl
  rw [← hngg] at s2 hng
  have hw1 : IntKind.i64.wrap ((nc : Int) + (N : Int)) = (nc : Int) + (N : Int) := IntWalk.i64_in _ (by omega)
  have HN := Lib.hid hN
  have HNG := Lib.hid hngg
  have H := Lib.hid h
  by_cases hle : (ng : Int) ≤ (nc : Int) + (N : Int)
  · clear h hnum hva hoa hvs hos hN hnc hngg s3
    go_enter Tryd.func38, Tryd.ntmps38
    go_wp2
    go_quiet ((go_at_call 24; first | with_reducible exact quiet_add_more (HL.out _) | with_reducible exact quiet_more (HL.out _)))
    go_wp2
    go_end0
    exact ⟨rfl, X, H.out.below (below_drewN (Below.refl _ _) _), (Tn.refl base X W).drewN _, Later7.refl _ _, rfl, rfl, rfl, Nat.le_refl _, rfl, rfl⟩
  · have hsub0 : ∀ p, p ∈ X.pss.getD (2 * X.V) [] → p ∈ X.ps := fun p hp => by rw [h.shelf.all] at hp; exact hp
    have hlen0 : (X.pss.getD (2 * X.V) []).length ≤ 1000000000 := by rw [h.shelf.all]; exact hps
    have HD1 := Lib.hid (fun n : Nat => del_gone (h.sto.drewN n) (j := 2 * X.V) (by omega) hsub0 hlen0)
    rw [hva] at HD1
    have HOA := Lib.hid hoa
    have HVA := Lib.hid hva
    have HVS := Lib.hid hvs
    have HNUM := Lib.hid hnum
    obtain ⟨nA, hnA⟩ : ∃ nA, nA = (X.pss.getD (2 * X.V) []).length := ⟨_, rfl⟩
    rw [← hnA] at s3 HD1
    have HNA := Lib.hid hnA
    have hngt : ¬ (ng : Int) ≤ (nc : Int) + (N : Int) := hle
    clear h hnum hva hoa hvs hos hN hnc hngg hsub0 hlen0 hnA hle
    go_enter Tryd.func38, Tryd.ntmps38
    go_wp2
    go_quiet ((go_at_call 24; first | with_reducible exact quiet_add_more (HL.out _) | with_reducible exact quiet_more (HL.out _)))
    go_wp2_with fail
    refine (HD1.out _).mono ?_
    rintro e3 w3 hd1
    obtain ⟨A3, c3, n3, rfl, hbk3, Y1, hS1, hW1, hT1⟩ := del_s (d := 0) (H.out.sto.drewN _) Swept.refl (by omega) (by simp) HNUM.out hd1
    have s3' : w3.cell? ⟨X.s, 3, none⟩ = some (.slice Aa nA ca) := by rw [HNA.out, ← HVA.out]; exact hbk3.cell 3
    have f3' := hbk3.frozen 3
    have s4' : w3.cell? ⟨X.s, 4, none⟩ = some (.slice As (X.pss.getD (2 * X.V + 1) []).length cs) := by rw [← HVS.out]; exact hbk3.cell 4
    have hS1' : Sto (w3.setCell ⟨X.s, 3, none⟩ (.slice A3 n3 c3)) base Y1 fo := hS1
    have hT1' : Tn base X W (w3.setCell ⟨X.s, 3, none⟩ (.slice A3 n3 c3)) := Tn.undrew hT1
    have hp1 : Y1.pss.getD (2 * X.V + 1) [] = X.pss.getD (2 * X.V + 1) [] := hW1.no _ (by simp)
    have hv1 : Y1.vs.getD (2 * X.V + 1) undef = X.vs.getD (2 * X.V + 1) undef := hW1.vno _ (by simp)
    have HD2 := Lib.hid (del_gone hS1' (j := 2 * X.V + 1) (by rw [hW1.len]; have := HNUM.out; omega) (by rw [hp1, hW1.ps]; exact fun p hp => (H.out.short.1 p hp).1) (by rw [hp1]; exact H.out.shn))
    rw [hv1, HVS.out] at HD2
    obtain ⟨nS, hnS⟩ : ∃ nS, nS = (X.pss.getD (2 * X.V + 1) []).length := ⟨_, rfl⟩
    rw [← hnS] at s4' HD2
    have HNS := Lib.hid hnS
    have HS1 := Lib.hid hS1'
    have HW1 := Lib.hid hW1
    have HT1 := Lib.hid hT1'
    clear hd1 hbk3 hS1 hW1 hT1 hS1' hT1' hp1 hv1 hnS s2 s3
    go_wp2_with fail
    refine HD2.out.mono ?_
    rintro e5 w5 hd2
    obtain ⟨A5, c5, n5, rfl, hbk5, Y2, hS2, hW2, hT2⟩ := del_s (d := 1) HS1.out HW1.out (by omega) (by simp) HNUM.out hd2
    have s4'' : w5.cell? ⟨X.s, 4, none⟩ = some (.slice As nS cs) := (hbk5.cell 4).trans (show some (Y1.vs.getD (2 * Y1.V + 1) undef) = _ by rw [HW1.out.V, HW1.out.vno _ (by simp), HVS.out, HNS.out])
    have f4'' := hbk5.frozen 4
    have s5'' : w5.cell? ⟨X.s, 5, none⟩ = some (.slice X.Aw N X.cw) := (hbk5.cell 5).trans (show some (Value.slice Y1.Aw (2 * Y1.V) Y1.cw) = _ by rw [HW1.out.V, HW1.out.Aw.1, HW1.out.Aw.2, HN.out])
    have HS2 : Hid (Sto (w5.setCell ⟨X.s, 4, none⟩ (.slice A5 n5 c5)) base Y2 fo) := Lib.hid hS2
    have HW2 : Hid (Swept X Y2 (fun j => j < 0 ∨ j = 2 * X.V ∨ j = 2 * X.V + 1)) := Lib.hid (hW2.congr fun j => by simp)
    have HT2 : Hid (Tn base X W (w5.setCell ⟨X.s, 4, none⟩ (.slice A5 n5 c5))) := Lib.hid (HT1.out.trans hT2 ⟨HW1.out.fv.2, .inl (by rw [HW1.out.fv.1])⟩)
    clear hd2 hbk5 hS2 hW2 hT2 s3' f3' s4' s5
    go_wp2
    go_loopg [41] (N + 1) (fun gk i wr => ∃ (k : Nat) (Y : SX), k ≤ N ∧ gk = N - k + 1 ∧ i = .int .i64 k ∧ Hid (Sto wr base Y fo) ∧ Hid (Swept X Y (fun j => j < k ∨ j = 2 * X.V ∨ j = 2 * X.V + 1)) ∧ Hid (Tn base X W wr))
    case atStart => exact ⟨0, Y2, by omega, by omega, rfl, HS2, HW2, HT2⟩
    case round =>
      obtain ⟨k, Y, hk, rfl, rfl, HS, HW, HT⟩ := hrel
      by_cases hlt : k < N
      · have hkV : k < 2 * X.V := by rw [← HN.out]; exact hlt
        obtain ⟨go, hgo, hgo1, hgo2⟩ := own_addr H.out.sto.out (by omega)
        have hAY : Y.Aw = some ⟨go, 0, none⟩ := by rw [HW.out.Aw.1]; exact hgo
        obtain ⟨Z, hZ⟩ := HS.out.outblk hAY
        have hcell := HS.out.outcell hAY hZ (i := k) (by rw [HW.out.V]; exact hkV) hZ
        have hfz := hZ.frozen k
        obtain ⟨Ak, ck, hvk, hok⟩ := HS.out.pil.each k (by rw [HW.out.len]; have := HNUM.out; omega)
        rw [hvk] at hcell
        have hst5 : wr.cell? ⟨X.s, 5, none⟩ = some (.slice (some ⟨go, 0, none⟩) N X.cw) := by
          have h5 := HS.out.st.cell 5
          rw [HW.out.s] at h5
          exact h5.trans (show some (Value.slice Y.Aw (2 * Y.V) Y.cw) = _ by rw [HW.out.V, hAY, HW.out.Aw.2, HN.out])
        have hnp : ¬ (k < k ∨ k = 2 * X.V ∨ k = 2 * X.V + 1) := by omega
        have hpk : Y.pss.getD k [] = X.pss.getD k [] := HW.out.no k hnp
        obtain ⟨q1, q2, _⟩ := H.out.wf.pile k hkV
        have HD := Lib.hid (del_gone (HS.out.drewN 1) (j := k) (by rw [HW.out.len]; have := HNUM.out; omega) (by rw [hpk, HW.out.ps]; exact fun p hp => (q2 p hp).1) (by rw [hpk]; exact Nat.le_trans (nodup_len7 q1 fun x hx => (q2 x hx).1) H.out.wf.plen))
        rw [hvk] at HD
        have hgs : ¬ go = X.s := by have := hZ.ne_ HS.out.st (by decide); rw [HW.out.s] at this; exact this
        have hsg : ¬ X.s = go := fun e => hgs e.symm
        have HGO := Lib.hid hgo
        have HNP := Lib.hid hnp
        have HZZ := Lib.hid hZ
        obtain ⟨nk, hnk⟩ : ∃ nk, nk = (Y.pss.getD k []).length := ⟨_, rfl⟩
        rw [← hnk] at hcell HD
        clear hkV hgo hgo1 hgo2 hAY hZ hvk hok hnp hpk q1 q2 hnk s4'' f4'' s5''
        rw [HGO.out]
        go_wp2
        have HK0 : Hid (wr.cell? ⟨X.s, 5, none⟩ = some (.slice (some ⟨go, 0, none⟩) N X.cw)) := Lib.hid hst5
        have HC0 := Lib.hid hcell
        go_region_held3 (fun w' => w'.cell? ⟨X.s, 5, none⟩ = some (.slice (some ⟨go, 0, none⟩) N X.cw)) (first | exact KK1.out | exact HK0.out | go_keep)
          (first
            | (go_at_call 54
               refine HD.out.mono ?_
               rintro e3 w3 hd
               obtain ⟨A3, c3, n3, rfl, ⟨Zx, hz1, hz2⟩, hbk, Y', hS', hW', hT'⟩ := del_w (HS.out.drewN 1) HW.out (by rw [← HN.out]; exact hlt) HGO.out HNP.out HNUM.out hd
               have dC : w3.cell? ⟨go, k, none⟩ = some (.slice Ak nk ck) := (hz2.cell k).trans ((hz1.cell k).symm.trans HC0.out)
               have dF := hz2.frozen k
               have KK1 : Hid (w3.cell? ⟨X.s, 5, none⟩ = some (.slice (some ⟨go, 0, none⟩) N X.cw)) := Lib.hid ((hbk.cell 5).trans (show some (Value.slice Y.Aw (2 * Y.V) Y.cw) = _ by rw [HW.out.V, HW.out.Aw.1, HGO.out, HW.out.Aw.2, HN.out]))
               have HRES := Lib.hid (⟨hS', hW', hT'⟩ : _ ∧ _ ∧ _)
               clear hd hz1 hz2 hbk hS' hW' hT'))
        all_goals
          go_wp2_with fail
          rw [← HGO.out]
          go_roundg (N - k)
          case measure => omega
          case rel => exact ⟨k + 1, Y', by omega, by omega, by go_num, Lib.hid HRES.out.1, Lib.hid (HRES.out.2.1.congr fun j => by omega), Lib.hid (HT.out.trans (Tn.undrew HRES.out.2.2) ⟨HW.out.fv.2, .inl (by rw [HW.out.fv.1])⟩)⟩
      · obtain rfl : k = N := by omega
        obtain ⟨p1, p2⟩ := HS.out.swept
        have HWf : Hid (Swept X Y (fun j => j < 2 * X.V + 2)) := Lib.hid (HW.out.congr fun j => by rw [HN.out]; omega)
        have hrest := HWf.out.rest H.out p1
        have s2' : wr.cell? ⟨X.s, 2, none⟩ = some (.int .i64 ng) := by
          have h5 := HS.out.st.cell 2
          rw [HW.out.s] at h5
          exact h5.trans (show some (Value.int .i64 Y.ng) = _ by rw [show Y.ng = X.ng by rw [HW.out.eq], HNG.out])
        have f2' : wr.frozen? ⟨X.s, 2, none⟩ = false := by have := HS.out.st.frozen 2; rw [HW.out.s] at this; exact this
        rw [HW.out.s] at p1 p2 hrest
        have HFIN := Lib.hid (⟨hrest, p2⟩ : _ ∧ _)
        clear p1 p2 hrest
        go_wp2
        go_end0
        obtain ⟨⟨h1, h2⟩, h3⟩ := HFIN.out
        refine ⟨rfl, _, h1, HT.out.trans h3 ⟨HW.out.fv.2, .inl (by rw [HW.out.fv.1])⟩, ⟨HW.out.fv.2, .inl (by show Y.fv.ownBlock = _; rw [HW.out.fv.1])⟩, (by first | rfl | exact HW.out.s), HW.out.V, h2, ?_, ?_, ?_⟩
        · show Y.live.length ≤ _
          have : Y.live = X.live := by unfold SX.live; rw [HW.out.ps, HW.out.C]
          rw [this]; exact List.length_filter_le _ _
        · show Y.added = _
          rw [HW.out.eq]
        · show Y.tk = _
          rw [HW.out.eq]
end Go.Proofs.YtbjccfdmedbkjaaDoor
