/- local's state: compare, Best, Make. -/
import Derived.Test.YtllgepabjglnaaaLoc6
namespace Go.Proofs.Ytllgepabjglnaaa
open Go.RowKit
set_option linter.unusedVariables false
set_option linter.unusedSimpArgs false

section
variable {w : World} {ρ : Nat → Nat} {p : Lx} {m : MS}
set_option maxRecDepth 100000 in
set_option maxHeartbeats 1000000 in
theorem compare_any14 (h : LM w ρ p m) (hz : m.z.length ≤ 1000) (hr : m.row.length ≤ 1000) (hf : m.b.fewest ≤ 1000) {v : Nat} (h1 : 1 ≤ v) (h2 : v ≤ m.z.length) (hv : ∀ v ∈ m.b.since, 1 ≤ v ∧ v ≤ m.z.length) (hs : m.b.since.length ≤ m.z.length) :
    Calls Try.prog 72 #[.pointer (some ⟨p.g, 0, none⟩), .int .i64 (v : Nat)] w fun e w' => e = .returned (.tuple #[]) ∧ ∃ ρ' A' c' E' d', LM w' ρ' { p with sA := A', sc := c', eA := E', ec := d' } { m with b := m.b.cmp m.row.length v m.z } ∧ LStep w ρ w' ρ' := by
  have c3 := h.cells.2.2.2.1
  have c6 := h.cells.2.2.2.2.2.2.1
  have HG := Lib.hid (And.intro h (And.intro hv hs))
  have f6 := h.frozen 6
  obtain ⟨u, hu⟩ : ∃ u, m.row.length = u := ⟨_, rfl⟩
  obtain ⟨fw, hfw⟩ : ∃ fw, m.b.fewest = fw := ⟨_, rfl⟩
  rw [hu] at c3 hr ⊢
  rw [hfw] at c6 hf
  have HU := Lib.hid (And.intro hu hfw)
  clear h hv hs hu hfw
  by_cases hlt : u < fw
  · -- a new best one
    have hltI : (u : Int) < (fw : Int) := by omega
    have c7 := HG.out.1.cells.2.2.2.2.2.2.2.1
    have c8 := HG.out.1.cells.2.2.2.2.2.2.2.2
    have f7 := HG.out.1.frozen 7
    have f8 := HG.out.1.frozen 8
    have ho := HG.out.1.sw
    have HCM : Hid (m.b.cmp u v m.z = { m.b with fewest := u, since := [], best := none }) := Lib.hid (by unfold BS.cmp; rw [HU.out.2, if_pos hlt])
    have HF := Lib.hid (fun j => ((HG.out.1.drewN j).setFew u).1.since0)
    have HF2 := Lib.hid (fun j => ((HG.out.1.drewN j).setFew u).2)
    have HST := Lib.hid (fun j => show LStep w ρ (w.drewN j) ρ from LStep.gr ((Gr.refl w).drewE ⟨j, rfl⟩))
    obtain ⟨n, hn⟩ : ∃ n, m.b.since.length = n := ⟨_, rfl⟩
    rw [hn] at c7
    rcases hA : p.sA with _ | ⟨a, o, t⟩
    · rw [hA] at c7 HF ho
      obtain ⟨e1, e2⟩ := own_none ho.1
      rw [hn] at e1
      rw [e1, e2] at c7
      rw [e2] at HF
      have hsl : ∀ w, (Instr.sliceAt 48 (.slice none 0 0) none (some (.int .i64 0)) none).run Try.prog w = .ok (.slice none 0 0) w := fun w =>
        (run_sliceAt_slice (P := Try.prog) w _ _ _ _ _ (by kernel_rfl)).trans (run_front_nil Try.underlying48 w (szI14 w))
      clear ho e1 e2 hn hlt hA
      go_enter Try.func72, Try.ntmps72
      go_wp2_with fail
      go_quiet (fail)
      go_wp2
      go_end0
      exact ⟨rfl, ρ, _, _, _, _, by rw [HCM.out]; exact (HF.out _).1, ((HST.out _).trans (HF2.out _)).trans (HF.out _).2⟩
    · obtain ⟨q, eq, _⟩ : ∃ q, (⟨a, o, t⟩ : Addr) = ⟨q, 0, none⟩ ∧ True := by
        rcases ho.1.2 with ⟨hvv, _⟩ | ⟨g, cap, cur, hvv, _⟩
        · rw [hA] at hvv; cases hvv
        · rw [hA] at hvv
          injection hvv with hvv
          injection hvv with hvv
          exact ⟨g, hvv, trivial⟩
      rw [hA, eq] at c7 HF
      have hsl : ∀ w, (Instr.sliceAt 48 (.slice (some ⟨q, 0, none⟩) n p.sc) none (some (.int .i64 0)) none).run Try.prog w = .ok (.slice (some ⟨q, 0, none⟩) 0 p.sc) w := fun w =>
        (run_sliceAt_slice (P := Try.prog) w _ _ _ _ _ (by kernel_rfl)).trans (run_front14 Try.underlying48 w (szI14 w) q 0 n p.sc 0 (Nat.zero_le _))
      clear ho hn hlt hA eq
      go_enter Try.func72, Try.ntmps72
      go_wp2_with fail
      go_quiet (fail)
      go_wp2
      go_end0
      exact ⟨rfl, ρ, _, _, _, _, by rw [HCM.out]; exact (HF.out _).1, ((HST.out _).trans (HF2.out _)).trans (HF.out _).2⟩
  · -- none
    have hltI : ¬ (u : Int) < (fw : Int) := by omega
    have hltD : decide ((u : Int) < (fw : Int)) = false := decide_eq_false hltI
    have hnil := fun (w : World) (a : Option Addr) (n c : Nat) => Lib.run_eql_slice_nil (P := Try.prog) w 34 4 a n c 0 0 Try.underlying34
    have c8 := HG.out.1.cells.2.2.2.2.2.2.2.2
    have HST := Lib.hid (fun j => show LStep w ρ (w.drewN j) ρ from LStep.gr ((Gr.refl w).drewE ⟨j, rfl⟩))
    have HNF : Hid (¬ u < m.b.fewest) := Lib.hid (by rw [HU.out.2]; exact hlt)
    rcases hb : m.b.best with _ | a
    · obtain ⟨e1, e2⟩ := HG.out.1.e0 hb
      rw [hb, e1, e2] at c8
      simp only [Option.getD_none, List.length_nil] at c8
      have HCM : Hid (m.b.cmp u v m.z = { m.b with since := m.b.since ++ [v], best := if m.z.length ≤ m.b.since.length + 1 then some (undo m.z (m.b.since ++ [v])) else none }) := Lib.hid (by unfold BS.cmp; rw [if_neg HNF.out, hb])
      have HBN := Lib.hid hb
      obtain ⟨i0, hi0, hz0, hz1, hz2⟩ := info_parts infoCI
      clear hb e1 e2 hlt
      go_enter Try.func72, Try.ntmps72
      go_wp2_with fail
      go_quiet (fail)
      have HSTn := Lib.hid (HST.out nq)
      have h1 := HG.out.1.drewN nq
      obtain ⟨w1, hw1⟩ : ∃ w1, w1 = w.drewN nq := ⟨_, rfl⟩
      rw [← hw1] at h1 HSTn ⊢
      have c8' : w1.cell? ⟨p.g, 8, none⟩ = some (.slice none 0 0) := by rw [hw1]; exact c8
      clear c3 c6 f6 c8 hw1 HST
      have c7 := h1.cells.2.2.2.2.2.2.2.1
      obtain ⟨wa, hwa⟩ : ∃ wa, wa = w1.alloc (.cells #[.int .i64 (v : Nat)] 3) := ⟨_, rfl⟩
      have hba : Below w1.heap.size w1 wa := by rw [hwa]; exact (Below.refl _ _).alloc (Nat.le_refl _) _
      have ra := Stay.oz (Stay.refl.below hba) h1.sw (rs := []) (w' := wa) (by decide)
      have ba : wa.cell? ⟨w1.heap.size, 0, none⟩ = some (.int .i64 (v : Nat)) := by rw [hwa]; exact (Blk.new w1 3 #[.int .i64 (v : Nat)]).cell 0
      have HB9 := Lib.hid (fun (w9 : World) (hg : wa.grownBy w9 (Value.slice p.sA m.b.since.length p.sc).ownBlock) => show w9.frozen? ⟨p.g, 7, none⟩ = false ∧ ∃ u, w9.cell? ⟨p.g, 7, none⟩ = some u from by
        have b2 : Blk w9 p.g 75 (stC p m) := (h1.str.below hba h1.lt).grown hg fun e => by
          have := h1.sw.2 _ e.symm
          rw [h1.sr] at this
          cases this
        exact ⟨b2.frozen 7, by rw [b2.cell]; exact ⟨_, rfl⟩⟩)
      have FIN := Lib.hid (fun (w9 : World) (A' : Option Addr) (c' : Nat) ho hg hv => h1.sinceOn (v := v) (wa := wa) (w9 := w9) (A' := A') (c' := c') hba ho hg hv)
      have hgl := h1.lt
      obtain ⟨n, hn⟩ : ∃ n, m.b.since.length = n := ⟨_, rfl⟩
      have HLS := Lib.hid (And.intro HG.out.2.2 hn)
      have hn1000 : n ≤ 1000 := by have := HG.out.2.2; omega
      rw [hn] at c7 ra HB9
      simp only [hn] at FIN
      have HRA := Lib.hid ra.1
      have HBA := Lib.hid ba
      have HWA := Lib.hid hwa
      clear hba ra ba hn hwa h1
      go_wp2_with (at_builtin; rw [← HWA.out]; refine wpList_append1 _ rfl _ _ 48 rfl 0 3 i0 (.int .i64 0) 8 Try.underlying48 hi0 hz0 hz1 hz2 rfl _ n (natsV m.b.since) rfl HRA.out (.int .i64 (v : Nat)) w1.heap.size rfl HBA.out rfl (by unfold maxLen; omega) (by omega) (Nat.zero_le _) ?_)
      intro v' w9 ho hg hv
      obtain ⟨A', c', rfl, _⟩ := own_slice ho
      obtain ⟨ρ', hm2, hs2⟩ := FIN.out w9 A' c' ho hg hv
      obtain ⟨f9, u9, k9⟩ := HB9.out w9 hg
      clear ho hg hv FIN HB9 c7 c8' HRA HBA HWA
      have HM2 := Lib.hid hm2
      have HS2 := Lib.hid hs2
      clear hm2 hs2
      go_wp2_with fail
      clear f9 k9
      obtain ⟨w2, hw2⟩ : ∃ w2, w2 = w9.setCell ⟨p.g, 7, none⟩ (.slice A' (n + 1) c') := ⟨_, rfl⟩
      rw [← hw2] at HM2 HS2 ⊢
      clear hw2
      have d7 := HM2.out.cells.2.2.2.2.2.2.2.1
      have d0 := HM2.out.cells.1
      change w2.cell? ⟨p.g, 0, none⟩ = some (.slice p.vA m.z.length p.vc) at d0
      change w2.cell? ⟨p.g, 7, none⟩ = some (.slice A' (m.b.since ++ [v]).length c') at d7
      rw [show (m.b.since ++ [v]).length = n + 1 by simp [HLS.out.2]] at d7
      obtain ⟨nz, hnz⟩ : ∃ nz, m.z.length = nz := ⟨_, rfl⟩
      have HNZ := Lib.hid hnz
      rw [hnz] at d0 hz h2
      clear hnz
      by_cases hge : nz ≤ n + 1
      · have hgeI : (nz : Int) ≤ (n : Int) + 1 := by omega
        go_quiet (fail)
        have h3 := HM2.out.drewN nq
        have HS3 : Hid (LStep w2 ρ' (w2.drewN nq) ρ') := Lib.hid (LStep.gr ((Gr.refl w2).drewE ⟨nq, rfl⟩))
        obtain ⟨w3, hw3⟩ : ∃ w3, w3 = w2.drewN nq := ⟨_, rfl⟩
        rw [← hw3] at h3 HS3 ⊢
        clear hw3 d0 d7
        obtain ⟨a, ha⟩ : ∃ a, undo m.z (m.b.since ++ [v]) = a := ⟨_, rfl⟩
        have hal : a.length = nz := by rw [← ha, undo_len, HNZ.out]
        have hlb := lookback_any h3 (show m.z.length ≤ 1000 by rw [HNZ.out]; exact hz) (fun x hx => by
          rcases List.mem_append.1 hx with hx | hx
          · exact HG.out.2.1 x hx
          · obtain rfl : x = v := by simpa using hx
            exact ⟨h1, by show x ≤ m.z.length; rw [HNZ.out]; exact h2⟩) (show (m.b.since ++ [v]).length ≤ 2000 by rw [List.length_append, HLS.out.2]; have := HLS.out.1; rw [HLS.out.2, HNZ.out] at this; simp only [List.length_cons, List.length_nil]; omega)
        change Calls _ _ _ _ (fun e w' => ∃ A c, e = .returned (.slice A m.z.length c) ∧ w'.ownsRow w3.heap.size 4 1 (.slice A m.z.length c) m.z.length ((undo m.z (m.b.since ++ [v])).map .bool) ∧ Below w3.heap.size w3 w') at hlb
        rw [ha, HNZ.out] at hlb
        have HA := Lib.hid (And.intro ha hal)
        have HH3 := Lib.hid h3
        clear ha hal h3
        go_wp2_with fail
        refine hlb.mono ?_
        rintro e w4 ⟨A4, c4, rfl, ho, hb⟩
        have k8 : ∃ x, w4.cell? ⟨p.g, 8, none⟩ = some x := ⟨_, (hb.cell HH3.out.lt).trans HH3.out.cells.2.2.2.2.2.2.2.2⟩
        have f8 : w4.frozen? ⟨p.g, 8, none⟩ = false := (HH3.out.below hb).frozen 8
        obtain ⟨x8, k8⟩ := k8
        obtain ⟨ρ4, hm4, hs4⟩ := HH3.out.bestOn (a := a) (w9 := w4) (A' := A4) (c' := c4) (by rw [HA.out.2]; omega) hb (by rw [HA.out.2]; exact ho)
        rw [HA.out.2] at hm4 hs4
        have HE := Lib.hid (And.intro hm4 hs4)
        clear hm4 hs4 ho hb hlb
        go_wp2
        go_end0
        refine ⟨rfl, ρ4, A', c', A4, c4, ?_, ((HSTn.out.trans HS2.out).trans HS3.out).trans HE.out.2⟩
        rw [HCM.out, if_pos (by rw [HNZ.out, HLS.out.2]; exact hge), HA.out.1]
        exact HE.out.1
      · have hgeI : ¬ (nz : Int) ≤ (n : Int) + 1 := by omega
        have hgeD : decide ((nz : Int) ≤ (n : Int) + 1) = false := decide_eq_false hgeI
        go_quiet (fail)
        have HLL : Hid (LM (w2.drewN nq) ρ' { p with sA := A', sc := c', eA := p.eA, ec := p.ec } { m with b := m.b.cmp u v m.z }) := Lib.hid (by
          rw [HCM.out, if_neg (by rw [HNZ.out, HLS.out.2]; exact hge)]
          have := HM2.out.drewN nq
          rw [HBN.out] at this
          exact this)
        have HSS : Hid (LStep w ρ (w2.drewN nq) ρ') := Lib.hid ((HSTn.out.trans HS2.out).trans (LStep.gr ((Gr.refl w2).drewE ⟨_, rfl⟩)))
        go_wp2
        go_end0
        first
          | exact ⟨rfl, ρ', A', c', p.eA, p.ec, HLL.out, HSS.out⟩
          | exact ⟨rfl, ρ', ⟨A', c', p.eA, p.ec, HLL.out⟩, HSS.out⟩
    · obtain ⟨h0, ho⟩ := HG.out.1.ew a hb
      obtain ⟨q, eq, _⟩ := ho.at_ (by omega)
      rw [hb, eq] at c8
      simp only [Option.getD_some] at c8
      obtain ⟨n, hn⟩ : ∃ n, a.length = n := ⟨_, rfl⟩
      rw [hn] at c8
      have HCM : Hid (m.b.cmp u v m.z = m.b) := Lib.hid (by unfold BS.cmp; rw [if_neg HNF.out, hb])
      clear hb h0 ho eq hn hlt
      go_enter Try.func72, Try.ntmps72
      go_wp2_with fail
      go_quiet (fail)
      go_wp2
      go_end0
      exact ⟨rfl, ρ, p.sA, p.sc, p.eA, p.ec, by rw [HCM.out]; exact HG.out.1.drewN _, HST.out _⟩
end
end Go.Proofs.Ytllgepabjglnaaa
