/- local's state: a literal that holds from now on: the walk. -/
import Derived.Test.YtllgepabjglnaaaLoc3
import Derived.Deep.QuietTactic
import Derived.BigQuiet
import Derived.Deep.LoopGhost
import Derived.Deep.DeepCutAuto
namespace Go.Proofs.Ytllgepabjglnaaa
open Go.RowKit
set_option linter.unusedVariables false
set_option linter.unusedSimpArgs false

/-- a round of gain: what is there, and what comes of it -/
theorem gain_math {s : LS} {n : Nat} (hg : s.Good n) {l : Int} (hl0 : l ≠ 0) {is : List Nat} (hnd : is.Nodup) (hall : ∀ i ∈ is, l ∈ s.cls.getD i [] ∧ l ∉ s.hss.getD i []) {j : Nat} (hj : j < is.length) :
    (s.gains l (is.take j)).Good n ∧ (s.gains l (is.take j)).cls = s.cls ∧ is.getD j 0 < s.cls.length ∧ l ∉ (s.gains l (is.take j)).hss.getD (is.getD j 0) [] ∧ l ∈ s.cls.getD (is.getD j 0) [] ∧ s.gains l (is.take (j + 1)) = (s.gains l (is.take j)).gainAt l (is.getD j 0) := by
  have hsub : ∀ i ∈ is.take j, i ∈ is := fun i hi => List.mem_of_mem_take hi
  have e : is.getD j 0 = is[j] := by simp [List.getD, hj]
  have hmem : is.getD j 0 ∈ is := by rw [e]; exact List.getElem_mem hj
  obtain ⟨g1, g2, g3⟩ := gains_spec hg (l := l) _ (is.take j) rfl (hnd.sublist (List.take_sublist j is)) fun i hi => hall i (hsub i hi)
  have hnot : is.getD j 0 ∉ is.take j := by
    intro hm
    obtain ⟨k, hk⟩ := List.getElem?_of_mem hm
    rw [List.getElem?_take] at hk
    split at hk
    · rename_i hkj
      have hkl : k < is.length := by omega
      rw [List.getElem?_eq_getElem hkl, e] at hk
      injection hk with hk
      have := List.pairwise_iff_getElem.1 hnd k j hkl hj hkj
      exact this hk
    · cases hk
  refine ⟨g1, g2, hg.lt (hall _ hmem).1, ?_, (hall _ hmem).1, ?_⟩
  · rw [g3, if_neg hnot]
    exact (hall _ hmem).2
  · rw [List.take_succ_eq_append_getElem hj, gains_snoc, e]
/-- the ends of the three ways -/
theorem gain_end0 {w1 : World} {ρ : Nat → Nat} {p : Lx} {z : List Bool} {s : LS} {b : BS} {c K i : Nat} {l : Int} (h1 : LM w1 ρ p { MS.of z s b with row := leaveK s.row (s.row.idxOf i) }) (hg : s.Good z.length) (hi : i < s.cls.length) (h0 : s.hss.getD i [] = []) (hC : p.cA = some ⟨c, 0, none⟩) (hK : p.kA = some ⟨K, 0, none⟩) (hl0 : l ≠ 0) (hl : l.natAbs ≤ z.length) :
    LM (((w1.setCell ⟨K, l.natAbs - 1, none⟩ (.int .i64 (brk s.hss l.natAbs + 1 : Nat))).setCell ⟨c, i * 4 + 1, none⟩ (.int .i64 ((l :: s.hss.getD i []).length : Nat))).setCell ⟨c, i * 4 + 2, none⟩ (.int .i64 (xr (l :: s.hss.getD i []) : Nat))) ρ p (MS.of z (s.gainAt l i) b) ∧
    LStep w1 ρ (((w1.setCell ⟨K, l.natAbs - 1, none⟩ (.int .i64 (brk s.hss l.natAbs + 1 : Nat))).setCell ⟨c, i * 4 + 1, none⟩ (.int .i64 ((l :: s.hss.getD i []).length : Nat))).setCell ⟨c, i * 4 + 2, none⟩ (.int .i64 (xr (l :: s.hss.getD i []) : Nat))) ρ := by
  obtain ⟨k1, k2⟩ := h1.setBk (k := l.natAbs - 1) (show l.natAbs - 1 < z.length by omega) hK (brk s.hss l.natAbs + 1)
  obtain ⟨k3, k4⟩ := k1.setH (i := i) hi hC hg.len (l :: s.hss.getD i [])
  refine ⟨?_, k2.trans k4⟩
  have k5 := k3.bkCongr (f := brk (s.hss.set i (l :: s.hss.getD i []))) fun v hv1 hv2 => by
    rw [brk_gain0 (by rw [hg.len]; exact hi) h0]
    show (if v = l.natAbs - 1 + 1 then brk s.hss l.natAbs + 1 else brk s.hss v) = _
    by_cases e : v = l.natAbs
    · rw [if_pos (by omega), if_pos e, e]
    · rw [if_neg (by omega), if_neg e]
  have e : MS.of z (s.gainAt l i) b = ⟨z, s.cls, s.hss.set i (l :: s.hss.getD i []), leaveK s.row (s.row.idxOf i), havs z.length s.cls, brk (s.hss.set i (l :: s.hss.getD i [])), b⟩ := by
    unfold MS.of
    rw [gainAt_cls, gainAt_hss]
    have : (s.gainAt l i).row = leaveK s.row (s.row.idxOf i) := by unfold LS.gainAt LS.setH LS.rowOff; rw [if_pos h0]
    rw [this]
  rw [e]
  exact k5
theorem gain_end1 {w : World} {ρ : Nat → Nat} {p : Lx} {z : List Bool} {s : LS} {b : BS} {c K i : Nat} {l x : Int} (h : LM w ρ p (MS.of z s b)) (hg : s.Good z.length) (hi : i < s.cls.length) (h0 : s.hss.getD i [] = [x]) (hC : p.cA = some ⟨c, 0, none⟩) (hK : p.kA = some ⟨K, 0, none⟩) (hx0 : x ≠ 0) (hx : x.natAbs ≤ z.length) :
    LM (((w.setCell ⟨K, x.natAbs - 1, none⟩ (.int .i64 (brk s.hss x.natAbs - 1 : Nat))).drew.setCell ⟨c, i * 4 + 1, none⟩ (.int .i64 ((l :: s.hss.getD i []).length : Nat))).setCell ⟨c, i * 4 + 2, none⟩ (.int .i64 (xr (l :: s.hss.getD i []) : Nat))) ρ p (MS.of z (s.gainAt l i) b) ∧
    LStep w ρ (((w.setCell ⟨K, x.natAbs - 1, none⟩ (.int .i64 (brk s.hss x.natAbs - 1 : Nat))).drew.setCell ⟨c, i * 4 + 1, none⟩ (.int .i64 ((l :: s.hss.getD i []).length : Nat))).setCell ⟨c, i * 4 + 2, none⟩ (.int .i64 (xr (l :: s.hss.getD i []) : Nat))) ρ := by
  obtain ⟨k1, k2⟩ := h.setBk (k := x.natAbs - 1) (show x.natAbs - 1 < z.length by omega) hK (brk s.hss x.natAbs - 1)
  obtain ⟨k3, k4⟩ := k1.drew.setH (i := i) hi hC hg.len (l :: s.hss.getD i [])
  refine ⟨?_, (k2.trans LStep.drew).trans k4⟩
  have k5 := k3.bkCongr (f := brk (s.hss.set i (l :: s.hss.getD i []))) fun v hv1 hv2 => by
    rw [brk_gain1 (by rw [hg.len]; exact hi) h0]
    show (if v = x.natAbs - 1 + 1 then brk s.hss x.natAbs - 1 else brk s.hss v) = _
    by_cases e : v = x.natAbs
    · rw [if_pos (by omega), if_pos e, e]
    · rw [if_neg (by omega), if_neg e]
  have e : MS.of z (s.gainAt l i) b = ⟨z, s.cls, s.hss.set i (l :: s.hss.getD i []), s.row, havs z.length s.cls, brk (s.hss.set i (l :: s.hss.getD i [])), b⟩ := by
    unfold MS.of
    rw [gainAt_cls, gainAt_hss]
    have : (s.gainAt l i).row = s.row := by unfold LS.gainAt LS.setH LS.rowOff; rw [if_neg (by rw [h0]; simp)]
    rw [this]
  rw [e]
  exact k5
theorem gain_end2 {w : World} {ρ : Nat → Nat} {p : Lx} {z : List Bool} {s : LS} {b : BS} {c i : Nat} {l : Int} (h : LM w ρ p (MS.of z s b)) (hg : s.Good z.length) (hi : i < s.cls.length) (h0 : 2 ≤ (s.hss.getD i []).length) (hC : p.cA = some ⟨c, 0, none⟩) :
    LM ((w.setCell ⟨c, i * 4 + 1, none⟩ (.int .i64 ((l :: s.hss.getD i []).length : Nat))).setCell ⟨c, i * 4 + 2, none⟩ (.int .i64 (xr (l :: s.hss.getD i []) : Nat))) ρ p (MS.of z (s.gainAt l i) b) ∧
    LStep w ρ ((w.setCell ⟨c, i * 4 + 1, none⟩ (.int .i64 ((l :: s.hss.getD i []).length : Nat))).setCell ⟨c, i * 4 + 2, none⟩ (.int .i64 (xr (l :: s.hss.getD i []) : Nat))) ρ := by
  obtain ⟨k3, k4⟩ := h.setH (i := i) hi hC hg.len (l :: s.hss.getD i [])
  refine ⟨?_, k4⟩
  have k5 := k3.bkCongr (f := brk (s.hss.set i (l :: s.hss.getD i []))) fun v hv1 hv2 => by
    rw [brk_gain2 (by rw [hg.len]; exact hi) h0]
    rfl
  have e : MS.of z (s.gainAt l i) b = ⟨z, s.cls, s.hss.set i (l :: s.hss.getD i []), s.row, havs z.length s.cls, brk (s.hss.set i (l :: s.hss.getD i [])), b⟩ := by
    unfold MS.of
    rw [gainAt_cls, gainAt_hss]
    have : (s.gainAt l i).row = s.row := by unfold LS.gainAt LS.setH LS.rowOff; rw [if_neg (by rintro e; rw [e] at h0; simp at h0)]
    rw [this]
  rw [e]
  exact k5
/-- the same, with the values as the walk has them -/
theorem gain_fin0 {w1 : World} {ρ : Nat → Nat} {p : Lx} {z : List Bool} {s : LS} {b : BS} {c K i k : Nat} {l : Int} (h1 : LM w1 ρ p { MS.of z s b with row := leaveK s.row (s.row.idxOf i) }) (hg : s.Good z.length) (hi : i < s.cls.length) (h0 : s.hss.getD i [] = []) (hC : p.cA = some ⟨c, 0, none⟩) (hK : p.kA = some ⟨K, 0, none⟩) (hl0 : l ≠ 0) (hl : l.natAbs ≤ z.length) (hk : l.natAbs = k + 1)
    (x y u : Int) (hx : x = (brk s.hss (k + 1) + 1 : Nat)) (hy : y = 1) (hu : u = (k + 1 : Nat)) :
    LM (((w1.setCell ⟨K, k, none⟩ (.int .i64 x)).setCell ⟨c, i * 4 + 1, none⟩ (.int .i64 y)).setCell ⟨c, i * 4 + 2, none⟩ (.int .i64 u)) ρ p (MS.of z (s.gainAt l i) b) ∧
    LStep w1 ρ (((w1.setCell ⟨K, k, none⟩ (.int .i64 x)).setCell ⟨c, i * 4 + 1, none⟩ (.int .i64 y)).setCell ⟨c, i * 4 + 2, none⟩ (.int .i64 u)) ρ := by
  have := gain_end0 h1 hg hi h0 hC hK hl0 hl
  rw [hk, h0, Nat.add_sub_cancel] at this
  rw [hx, hy, hu]
  have e : xr [l] = k + 1 := by simp [xr, hk]
  rw [e] at this
  exact this
theorem gain_fin1 {w : World} {ρ : Nat → Nat} {p : Lx} {z : List Bool} {s : LS} {b : BS} {c K i k m : Nat} {l x1 : Int} (h : LM w ρ p (MS.of z s b)) (hg : s.Good z.length) (hi : i < s.cls.length) (h0 : s.hss.getD i [] = [x1]) (hC : p.cA = some ⟨c, 0, none⟩) (hK : p.kA = some ⟨K, 0, none⟩) (hx0 : x1 ≠ 0) (hxl : x1.natAbs ≤ z.length) (hk : x1.natAbs = k + 1) (hm : l.natAbs = m)
    (x y u : Int) (hx : x = (brk s.hss (k + 1) - 1 : Nat)) (hy : y = 2) (hu : u = ((k + 1) ^^^ m : Nat)) :
    LM (((w.setCell ⟨K, k, none⟩ (.int .i64 x)).drew.setCell ⟨c, i * 4 + 1, none⟩ (.int .i64 y)).setCell ⟨c, i * 4 + 2, none⟩ (.int .i64 u)) ρ p (MS.of z (s.gainAt l i) b) ∧
    LStep w ρ (((w.setCell ⟨K, k, none⟩ (.int .i64 x)).drew.setCell ⟨c, i * 4 + 1, none⟩ (.int .i64 y)).setCell ⟨c, i * 4 + 2, none⟩ (.int .i64 u)) ρ := by
  have := gain_end1 (l := l) h hg hi h0 hC hK hx0 hxl
  rw [hk, h0, Nat.add_sub_cancel] at this
  rw [hx, hy, hu]
  have e : xr [l, x1] = (k + 1) ^^^ m := by simp [xr, hk, hm]
  rw [e] at this
  exact this
theorem gain_fin2 {w : World} {ρ : Nat → Nat} {p : Lx} {z : List Bool} {s : LS} {b : BS} {c i m : Nat} {l : Int} (h : LM w ρ p (MS.of z s b)) (hg : s.Good z.length) (hi : i < s.cls.length) (h0 : 2 ≤ (s.hss.getD i []).length) (hC : p.cA = some ⟨c, 0, none⟩) (hm : l.natAbs = m)
    (y u : Int) (hy : y = ((s.hss.getD i []).length + 1 : Nat)) (hu : u = (xr (s.hss.getD i []) ^^^ m : Nat)) :
    LM ((w.setCell ⟨c, i * 4 + 1, none⟩ (.int .i64 y)).setCell ⟨c, i * 4 + 2, none⟩ (.int .i64 u)) ρ p (MS.of z (s.gainAt l i) b) ∧
    LStep w ρ ((w.setCell ⟨c, i * 4 + 1, none⟩ (.int .i64 y)).setCell ⟨c, i * 4 + 2, none⟩ (.int .i64 u)) ρ := by
  have := gain_end2 (l := l) h hg hi h0 hC
  rw [hy, hu, ← hm]
  exact this
section
variable {w : World} {ρ : Nat → Nat} {p : Lx} {z : List Bool} {s : LS} {b : BS}
set_option maxRecDepth 100000 in
set_option maxHeartbeats 4000000 in
theorem gain_any (h : LM w ρ p (MS.of z s b)) (hg : s.Good z.length) {l : Int} (hl0 : l ≠ 0) (hl : l.natAbs ≤ z.length) (hno : ∀ i, l ∉ s.hss.getD i []) :
    Calls Try.prog 33 #[.pointer (some ⟨p.g, 0, none⟩), .int .i64 l] w fun e w' => e = .returned (.tuple #[]) ∧ LM w' ρ p (MS.of z (s.gains l (hav s.cls l)) b) ∧ LStep w ρ w' ρ := by
  have hzn := hg.vars
  have hb := litIndex_bd (l := l) (b := z.length) (by omega) (by omega) hl0
  obtain ⟨x, hx⟩ : ∃ x : Nat, litIndex l = (x : Int) := ⟨(litIndex l).toNat, by omega⟩
  have hx2 : x < 2 * z.length := by omega
  obtain ⟨vv, hvv⟩ : ∃ vv : Nat, l.natAbs = vv := ⟨_, rfl⟩
  have hlv : litVar l = (vv : Int) := by unfold litVar; split <;> omega
  have HV := Lib.hid (fun w => hlv ▸ var_any l w (by omega) (by omega))
  have HI := Lib.hid (fun w => hx ▸ index_any l w (by omega) (by omega))
  obtain ⟨H, A, c, eH, cH, hvx⟩ := h.havHd (x := x) hx2
  have ehav : (havs z.length s.cls).getD x [] = hav s.cls l := havs_at hx2 hx
  have c2 := h.cells.2.2.1
  change w.cell? ⟨H, x, none⟩ = some (.slice A ((havs z.length s.cls).getD x []).length c) at cH
  change p.hvV[x]? = some (.slice A ((havs z.length s.cls).getD x []).length c) at hvx
  change w.cell? ⟨p.g, 2, none⟩ = some (.slice p.hA (2 * z.length) p.hc) at c2
  rw [ehav] at cH hvx
  rw [eH] at c2
  have HM := fun j hj => gain_math hg hl0 (hav_nodup s.cls l) (fun i hi => ⟨mem_hav.1 hi, hno i⟩) (j := j) hj
  have hlen := hav_len s.cls l
  have hfew := hg.few
  obtain ⟨is, his⟩ : ∃ is, hav s.cls l = is := ⟨_, rfl⟩
  rw [his] at cH hvx HM hlen ehav ⊢
  obtain ⟨M, hM⟩ : ∃ M, 2 * z.length = M := ⟨_, rfl⟩
  have hxM : (x : Int) < (M : Int) := by omega
  rw [hM] at c2
  obtain ⟨k0, hk0⟩ : ∃ k0 : Nat, vv = k0 + 1 := ⟨vv - 1, by omega⟩
  have HL := Lib.hid (And.intro h (And.intro hg (And.intro ehav (And.intro hvx (And.intro hvv (And.intro hl (And.intro hl0 (And.intro hx2 HM))))))))
  have hlen2 : is.length ≤ 100 := by omega
  have hwi : IntKind.i64.wrap (vv : Int) = (vv : Int) := i64_ok14 (by omega)
  subst hk0
  clear h hg hb hx hlv ehav HM hno his hM hvx eH hvv hl hl0 hx2 hlen hfew
  go_enter Try.func33, Try.ntmps33
  go_wp2_with fail
  refine (HV.out _).mono ?_
  rintro e w1 ⟨rfl, rfl⟩
  go_wp2_with fail
  go_quiet ((go_at_call 50; with_reducible exact quiet_left (HI.out _)))
  go_wp2
  go_loopg [19] (is.length + 1) (fun gk ti wr => ∃ j : Nat, j ≤ is.length ∧ gk = is.length - j + 1 ∧ ti = .int .i64 (j : Nat) ∧ Hid (LM wr ρ p (MS.of z (s.gains l (is.take j)) b)) ∧ Hid (LStep w ρ wr ρ))
  case atStart => exact ⟨0, by omega, by omega, rfl, Lib.hid (HL.out.1.drewN _), Lib.hid (LStep.gr ((Gr.refl w).drewE ⟨_, rfl⟩))⟩
  case round =>
    obtain ⟨j, hj, rfl, rfl, HLM, HST⟩ := hrel
    clear cH c2
    by_cases hlt : j < is.length
    · obtain ⟨h, hg, ehav, hvx, hvv, hl, hl0, hx2, HMM⟩ := HL.out
      obtain ⟨g1, g2, hi, hn, hmem, e1⟩ := HMM j hlt
      obtain ⟨si, hsi⟩ : ∃ si, s.gains l (is.take j) = si := ⟨_, rfl⟩
      rw [hsi] at g1 g2 hn e1 HLM
      have ehv : (MS.of z si b).hv.getD x [] = is := by
        show (havs z.length si.cls).getD x [] = is
        rw [g2, ehav]
      obtain ⟨ba, eA, cA⟩ := HLM.out.havAt hx2 hvx hlt (by rw [ehv])
      rw [ehv] at cA
      obtain ⟨i, hii⟩ : ∃ i, is.getD j 0 = i := ⟨_, rfl⟩
      rw [hii] at hi hn e1 cA
      have hi2 : i < (MS.of z si b).cls.length := by show i < si.cls.length; rw [g2]; exact hi
      obtain ⟨C, K, eC, eK, rC, rK⟩ := HLM.out.names (by omega) (show 0 < z.length by omega)
      obtain ⟨k1, k2, kf, kl⟩ := HLM.out.clAt hi2 eC
      change wr.cell? ⟨C, i * 4 + 1, none⟩ = some (.int .i64 ((si.hss.getD i []).length : Nat)) at k1
      change wr.cell? ⟨C, i * 4 + 2, none⟩ = some (.int .i64 (xr (si.hss.getD i []) : Nat)) at k2
      have kf1 := kf (i * 4 + 1)
      have kf2 := kf (i * 4 + 2)
      have c1 := HLM.out.cells.2.1
      have c4 := HLM.out.cells.2.2.2.2.1
      change wr.cell? ⟨p.g, 1, none⟩ = some (.slice p.cA si.cls.length p.cc) at c1
      change wr.cell? ⟨p.g, 4, none⟩ = some (.slice p.kA z.length p.kc) at c4
      rw [eC, g2] at c1
      rw [eK] at c4
      subst eA
      have gC : p.g ≠ C := fun e => by have := HLM.out.sr; rw [e, rC] at this; cases this
      have gK : p.g ≠ K := fun e => by have := HLM.out.sr; rw [e, rK] at this; cases this
      have KC : K ≠ C := fun e => by rw [e, rC] at rK; cases rK
      have CK : C ≠ K := Ne.symm KC
      obtain ⟨N, hN⟩ : ∃ N, s.cls.length = N := ⟨_, rfl⟩
      obtain ⟨nz, hnz⟩ : ∃ nz, z.length = nz := ⟨_, rfl⟩
      have hfew := g1.few
      rw [g2] at hfew
      rw [hN] at hi c1 hfew
      have hiN : (i : Int) < (N : Int) := by omega
      have hkz : (k0 : Int) < (nz : Int) := by omega
      have hnzb : nz ≤ 1000 := by omega
      have hk0b : (k0 : Int) ≤ 1000 := by omega
      have hjl : (j : Int) < (is.length : Int) := by omega
      have hxl := g1.xlt i
      have hhl := g1.hlen i
      have hrl := g1.rlen
      have hx62 : xr (si.hss.getD i []) < 4611686018427387904 := by omega
      have hxor := i64_xor_nat (xr (si.hss.getD i [])) (k0 + 1) hx62 (by omega)
      have HG1 := Lib.hid (And.intro g1 (And.intro hi2 (And.intro e1 (And.intro hrl (And.intro g2 (And.intro hmem hvv))))))
      have HNM := Lib.hid (And.intro eC (And.intro eK (And.intro hl0 (And.intro hl (And.intro hnz hN)))))
      rw [hnz] at c4
      clear h hg ehav hvx hvv hl hl0 hx2 HMM g1 g2 hn hmem e1 hsi ehv hi2 hii eC eK hnz hN kf hrl hx62
      rcases hhe : si.hss.getD i [] with _ | ⟨x1, r1⟩
      · have HE := Lib.hid (fun (w1 : World) (h1 : LM w1 ρ p { MS.of z si b with row := leaveK si.row (si.row.idxOf i) }) => gain_fin0 (l := l) (k := k0) h1 HG1.out.1 HG1.out.2.1 hhe HNM.out.1 HNM.out.2.1 HNM.out.2.2.1 HNM.out.2.2.2.1 HG1.out.2.2.2.2.2.2)
        have HLV := Lib.hid (leave_any HLM.out HG1.out.1.rinj (HG1.out.1.at_ HG1.out.2.1 hhe) (show si.cls.length ≤ 1000 by rw [HG1.out.2.2.2.2.1]; rw [HNM.out.2.2.2.2.2]; omega) (show si.row.length ≤ 1000 by have := HG1.out.2.2.2.1; rw [HG1.out.2.2.2.2.1, HNM.out.2.2.2.2.2] at this; omega))
        rw [hhe] at k1 k2 hxor
        simp only [List.length_nil, xr, Nat.zero_xor] at k1 k2 hxor
        push_cast at hxor
        have HHE := Lib.hid hhe
        clear hhe
        go_wp2_with fail
        refine HLV.out.mono ?_
        rintro e w1 ⟨rfl, hm1, hs1⟩
        have d4 := hm1.cells.2.2.2.2.1
        obtain ⟨b1, b2, _⟩ := hm1.bkAt (k := k0) (show k0 < z.length by rw [HNM.out.2.2.2.2.1]; omega) HNM.out.2.1
        obtain ⟨q1, q2, qf, _⟩ := hm1.clAt HG1.out.2.1 HNM.out.1
        have qf1 := qf (i * 4 + 1)
        have qf2 := qf (i * 4 + 2)
        change w1.cell? ⟨p.g, 4, none⟩ = some (.slice p.kA z.length p.kc) at d4
        change w1.cell? ⟨K, k0, none⟩ = some (.int .i64 (brk si.hss (k0 + 1) : Nat)) at b1
        change w1.cell? ⟨C, i * 4 + 1, none⟩ = some (.int .i64 ((si.hss.getD i []).length : Nat)) at q1
        change w1.cell? ⟨C, i * 4 + 2, none⟩ = some (.int .i64 (xr (si.hss.getD i []) : Nat)) at q2
        rw [HNM.out.2.1, HNM.out.2.2.2.2.1] at d4
        rw [HHE.out] at q1 q2
        simp only [List.length_nil, xr] at q1 q2
        have hbl := brk_le si.hss (k0 + 1)
        rw [HG1.out.1.len, HG1.out.2.2.2.2.1, HNM.out.2.2.2.2.2] at hbl
        have HE2 := Lib.hid (HE.out w1 hm1)
        have HS1 := Lib.hid hs1
        obtain ⟨bv, hbv⟩ : ∃ bv, brk si.hss (k0 + 1) = bv := ⟨_, rfl⟩
        rw [hbv] at b1 hbl HE2
        clear hm1 qf HE HLV c1 c4 k1 k2 kf1 kf2 hbv hs1 cA
        go_wp2
        go_roundg (is.length - j)
        case measure => omega
        case rel => exact ⟨j + 1, by omega, by omega, by go_num, Lib.hid (by rw [HG1.out.2.2.1]; refine (HE2.out _ _ _ ?_ ?_ ?_).1 <;> omega), Lib.hid ((HST.out.trans HS1.out).trans (by refine (HE2.out _ _ _ ?_ ?_ ?_).2 <;> omega))⟩
      · rcases r1 with _ | ⟨x2, r2⟩
        · have hx1 := HG1.out.1.lits i x1 (HG1.out.1.sub i x1 (by rw [hhe]; simp))
          obtain ⟨k1', hk1⟩ : ∃ k1', x1.natAbs = k1' + 1 := ⟨x1.natAbs - 1, by omega⟩
          obtain ⟨b1, b2, _⟩ := HLM.out.bkAt (k := k1') (show k1' < z.length by omega) HNM.out.2.1
          change wr.cell? ⟨K, k1', none⟩ = some (.int .i64 (brk si.hss (k1' + 1) : Nat)) at b1
          have hbl := brk_le si.hss (k1' + 1)
          rw [HG1.out.1.len, HG1.out.2.2.2.2.1, HNM.out.2.2.2.2.2] at hbl
          have hbp : 0 < brk si.hss (k1' + 1) := brk_pos (i := i) (by rw [HG1.out.1.len]; exact HG1.out.2.1) (by rw [hhe, sole_one, hk1]; simp)
          have hkz1 : (k1' : Int) < (nz : Int) := by rw [← HNM.out.2.2.2.2.1]; omega
          have hk1b : (k1' : Int) ≤ 1000 := by omega
          have HE2 := Lib.hid (gain_fin1 (l := l) HLM.out HG1.out.1 HG1.out.2.1 hhe HNM.out.1 HNM.out.2.1 hx1.1 hx1.2 hk1 HG1.out.2.2.2.2.2.2)
          rw [hhe] at k1 k2 hxor
          simp only [List.length_cons, List.length_nil, xr, Nat.zero_xor, hk1] at k1 k2 hxor
          obtain ⟨bv, hbv⟩ : ∃ bv, brk si.hss (k1' + 1) = bv := ⟨_, rfl⟩
          rw [hbv] at b1 hbl HE2 hbp
          obtain ⟨X, hX⟩ : ∃ X, (k1' + 1) ^^^ (k0 + 1) = X := ⟨_, rfl⟩
          rw [hX] at hxor HE2
          push_cast at hxor
          have hwk : IntKind.i64.wrap ((k1' : Int) + 1) = (k1' : Int) + 1 := i64_ok14 (by omega)
          clear hhe hk1 hbv hx1 hX
          go_wp2_with fail
          go_region
          go_wp2
          go_roundg (is.length - j)
          case measure => omega
          case rel => exact ⟨j + 1, by omega, by omega, by go_num, Lib.hid (by rw [HG1.out.2.2.1]; refine (HE2.out _ _ _ ?_ ?_ ?_).1 <;> omega), Lib.hid (HST.out.trans (by refine (HE2.out _ _ _ ?_ ?_ ?_).2 <;> omega))⟩
        · have HE2 := Lib.hid (gain_fin2 (l := l) HLM.out HG1.out.1 HG1.out.2.1 (by rw [hhe]; simp) HNM.out.1 HG1.out.2.2.2.2.2.2)
          obtain ⟨L, hL⟩ : ∃ L, (si.hss.getD i []).length = L := ⟨_, rfl⟩
          have hL2 : 2 ≤ L := by rw [← hL, hhe]; simp
          obtain ⟨X, hX⟩ : ∃ X, xr (si.hss.getD i []) = X := ⟨_, rfl⟩
          rw [hL] at k1 hhl HE2
          rw [hX] at k2 hxor HE2 hxl
          obtain ⟨Y, hY⟩ : ∃ Y, X ^^^ (k0 + 1) = Y := ⟨_, rfl⟩
          rw [hY] at hxor HE2
          push_cast at hxor
          clear hhe hL hX hY
          go_wp2
          go_roundg (is.length - j)
          case measure => omega
          case rel => exact ⟨j + 1, by omega, by omega, by go_num, Lib.hid (by rw [HG1.out.2.2.1]; refine (HE2.out _ _ ?_ ?_).1 <;> omega), Lib.hid (HST.out.trans (by refine (HE2.out _ _ ?_ ?_).2 <;> omega))⟩
    · have hjl : is.length = j := by omega
      subst hjl
      rw [List.take_length] at HLM
      clear hlt hj
      go_wp2
      go_end0
      exact ⟨rfl, HLM.out, HST.out⟩
end
end Go.Proofs.Ytllgepabjglnaaa
