/- What the propagator takes back, to level 0. -/
import Derived.Test.YtfmcgodgflpggaaLaw13
namespace Go.Proofs.Ytfmcgodgflpggaa
open Go.RowKit
set_option linter.unusedVariables false
set_option linter.unusedSimpArgs false

theorem back0_starts (t : TS) : (t.back 0).starts.length = 0 := by
  unfold TS.back
  rcases h : t.starts[(0 : Int).toNat]? with _ | s
  · simp at h
    simp [h]
  · simp
theorem back0_recs {t : TS} (h : t.recs.length = t.starts.length) (hg : t.Good) : (t.back 0).recs.length = 0 ∧ (t.gone 0).length = t.recs.length := by
  unfold TS.back TS.gone
  rcases e : t.starts[(0 : Int).toNat]? with _ | s
  · simp at e
    simp [e] at h
    simp [h]
  · have hs := hg.start s (List.mem_of_getElem? e)
    have hm := hg.mono
    have h0 : s = 0 := by
      have hge : ∀ k x, t.starts[k]? = some x → s + k ≤ x := fun k => by
        induction k with
        | zero => intro x hx; rw [show (0 : Int).toNat = 0 from rfl] at e; rw [e] at hx; injection hx with hx; omega
        | succ k ih =>
          intro x hx
          obtain ⟨hk, rfl⟩ := List.getElem?_eq_some_iff.1 hx
          have h1 := ih _ (List.getElem?_eq_getElem (show k < t.starts.length by omega))
          have h2 := List.pairwise_iff_getElem.1 hm k (k + 1) (by omega) hk (by omega)
          omega
      have hpos : 0 < t.starts.length := by
        rcases List.getElem?_eq_some_iff.1 e with ⟨hk, _⟩
        omega
      have h1 := hge (t.starts.length - 1) _ (List.getElem?_eq_getElem (by omega))
      have h2 := hg.start _ (List.getElem_mem (show t.starts.length - 1 < t.starts.length by omega))
      omega
    subst h0
    simp

set_option maxRecDepth 100000 in
set_option maxHeartbeats 4000000 in
theorem wback13_any {w : World} {base N : Nat} {px : Px} {G : Nat → Prop} {cs : List Cl} {t : TS} {s : WS} {hd : Nat → Value} (h : Ob w base px N G cs t s hd) (hg : t.Good) (hB : base ≤ w.heap.size) :
    Calls Try.prog 26 #[.pointer (some ⟨px.gW, 0, none⟩), .int .i64 0] w fun e w' => ∃ A c, e = .returned (.slice A (t.gone 0).length c) ∧ Tr w' base px.gT px.P (t.back 0) ∧ (∀ q ty X, Blk w q ty X → ty ∉ [83, 77, 72] → q ≠ px.P → Blk w' q ty X) ∧ Below base w w' := by
  have hTr := h.tr hg
  obtain ⟨FT, FW, har, htr, hwm, d1, d2, d3, d4⟩ := h.ex
  have hgW := (h.bd px.gW (d4 _ (.inr (.inr hwm.inF.1)))).1
  obtain ⟨Af, Ah, cf, ch, b1, b2, b3, b4, b5, b6⟩ := hwm.ex
  have hPW : px.gW ≠ px.P := b1.ne_ htr.phs (by decide)
  have c1 := b1.cell 1
  simp [wcells] at c1
  have hgl := b1.lt
  have CB := Lib.hid (back_any hTr hB 0)
  have HF5 := Lib.hid (fun w5 (hTn : Tn [83, 77] base px.P w w5) => (show Blk w5 px.gW 72 (wcells px N s Af cf Ah ch) ∧ w5.ownsRow 0 3 1 (.slice Ah s.heads.length ch) s.heads.length (startsV s.heads) from by
    refine ⟨hTn.blk b1 (by decide) hPW, b3.1, ?_⟩
    rcases b3.2 with hn | ⟨q, cap, cur, hv, hq, hh, rest⟩
    · exact .inl hn
    · exact .inr ⟨q, cap, cur, hv, hq, hTn.blk (show Blk w q 3 cur from hh) (by decide) ((show Blk w q 3 cur from hh).ne_ htr.phs (by decide)), rest⟩))
  have HL0 := Lib.hid (back0_starts t)
  have HPW := Lib.hid hPW
  clear hTr har htr hwm d1 d2 d3 d4 b1 b2 b3 b4 b5 b6 h hPW
  go_enter Try.func26, Try.ntmps26
  go_wp2_with fail
  refine CB.out.mono ?_
  rintro e w5 ⟨A5, c5, rfl, ho5, hT5, hTn⟩
  obtain ⟨bk, hrow⟩ := HF5.out w5 hTn
  have HTR := Lib.hid hT5
  have HTN := Lib.hid hTn
  have HBK := Lib.hid bk
  have CL := Lib.hid (HL0.out ▸ level_any hT5)
  have c1 := bk.cell 1
  have c5' := bk.cell 5
  have c6 := bk.cell 6
  have cf6 := bk.frozen
  simp [wcells] at c1 c5' c6 cf6
  have hgl5 := bk.lt
  have hs5 := hTn.low.size
  obtain ⟨gn, hgn⟩ : ∃ gn, (t.gone 0).length = gn := ⟨_, rfl⟩
  rw [hgn] at ho5 ⊢
  clear CB bk hT5 hTn HF5 hgl ho5
  go_wp2_with fail
  refine CL.out.mono ?_
  rintro e w6 ⟨rfl, rfl⟩
  have HEND := Lib.hid (fun w7 (h7 : Tn [] base px.gW w5 w7) => (show Tr w7 base px.gT px.P (t.back 0) ∧ (∀ q ty X, Blk w q ty X → ty ∉ [83, 77, 72] → q ≠ px.P → Blk w7 q ty X) ∧ Below base w w7 from by
    refine ⟨HTR.out.keep fun q ty X hq hX hty => h7.blk hX (by simp) ?_, fun q ty X hX hty hP => h7.blk (HTN.out.blk hX (fun e => hty (by simp at e ⊢; rcases e with e | e <;> simp [e])) hP) (by simp) ?_, HTN.out.low.trans h7.low⟩
    · rintro rfl
      rcases hty with hty | hty
      · have e := HBK.out
        unfold Blk at e hX
        rw [e] at hX
        injection hX with hX
        injection hX with _ hX
        rw [← hX] at hty
        revert hty
        decide
      · exact HPW.out hty
    · rintro rfl
      have e := HBK.out
      have hX5 := HTN.out.blk hX (fun e => hty (by simp at e ⊢; rcases e with e | e <;> simp [e])) hP
      unfold Blk at e hX5
      rw [e] at hX5
      injection hX5 with hX5
      injection hX5 with _ hX5
      exact hty (by simp [← hX5])))
  clear CL HL0
  by_cases hh : s.heads.length = 0
  · go_wp2_with fail
    go_ret
    exact ⟨A5, c5, by rw [hgn]; rfl, HEND.out _ (Tn.refl _)⟩
  · obtain ⟨q, rfl, hq1, hq2⟩ := own_addr hrow (by omega)
    have q0 := World.ownsRow.cellAt hrow 0 (by omega)
    obtain ⟨h0, hh0⟩ : ∃ h0, (startsV s.heads)[0]? = some (.int .i64 ((h0 : Nat) : Int)) := by
      rcases e : s.heads with _ | ⟨a, r⟩
      · rw [e] at hh; simp at hh
      · exact ⟨a, by simp [startsV]⟩
    rw [hh0] at q0
    obtain ⟨n, hn⟩ : ∃ n, s.heads.length = n := ⟨_, rfl⟩
    rw [hn] at c6 hh
    have hsl : ∀ w, (Instr.slice 33 (.slice (some ⟨q, 0, none⟩) n ch) none (some (.int .i64 0)) none).run Try.prog w = .ok (.slice (some ⟨q, 0, none⟩) 0 ch) w := fun w => run_front12 Try.underlying33 w (szI13 w) q 0 n ch 0 (Nat.zero_le _)
    have hsl2 : ∀ w, (Instr.sliceAt 33 (.slice (some ⟨q, 0, none⟩) n ch) none (some (.int .i64 0)) none).run Try.prog w = .ok (.slice (some ⟨q, 0, none⟩) 0 ch) w := fun w => (run_sliceAt_slice (P := Try.prog) w _ _ _ _ _ (by kernel_rfl)).trans (hsl w)
    have HE := Lib.hid (HEND.out _ (((Tn.refl w5).set HBK.out (.inr rfl) hgW 5 (.int .i64 (h0 : Nat))).set (HBK.out.set_ 5 (.int .i64 (h0 : Nat))) (.inr rfl) hgW 6 (.slice (some ⟨q, 0, none⟩) 0 ch)))
    have hnp : (0 : Int) < (n : Int) := by omega
    clear hrow hn hh0 hsl HEND
    go_wp2_with fail
    go_ret
    exact ⟨A5, c5, by rw [hgn]; rfl, HE.out⟩
end Go.Proofs.Ytfmcgodgflpggaa
