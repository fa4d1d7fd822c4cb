/- local's state: a literal that does not hold any more: the walk. -/
import Derived.Test.YtllgepabjglnaaaLoc4
namespace Go.Proofs.Ytllgepabjglnaaa
open Go.RowKit
set_option linter.unusedVariables false
set_option linter.unusedSimpArgs false

theorem lose_math {s : LS} {n : Nat} (hg : s.Good n) {l : Int} (hl0 : l ≠ 0) {is : List Nat} (hnd : is.Nodup) (hall : ∀ i ∈ is, l ∈ s.hss.getD i []) {j : Nat} (hj : j < is.length) :
    (s.loses l (is.take j)).Good n ∧ (s.loses l (is.take j)).cls = s.cls ∧ is.getD j 0 < s.cls.length ∧ l ∈ (s.loses l (is.take j)).hss.getD (is.getD j 0) [] ∧ s.loses l (is.take (j + 1)) = (s.loses l (is.take j)).loseAt l (is.getD j 0) := by
  have hsub : ∀ i ∈ is.take j, i ∈ is := fun i hi => List.mem_of_mem_take hi
  have e : is.getD j 0 = is[j] := by simp [List.getD, hj]
  have hmem : is.getD j 0 ∈ is := by rw [e]; exact List.getElem_mem hj
  obtain ⟨g1, g2, g3⟩ := loses_spec hg (l := l) _ (is.take j) rfl (hnd.sublist (List.take_sublist j is)) fun i hi => hall i (hsub i hi)
  have hnot : is.getD j 0 ∉ is.take j := by
    intro hm
    obtain ⟨k, hk⟩ := List.getElem?_of_mem hm
    rw [List.getElem?_take] at hk
    split at hk
    · rename_i hkj
      have hkl : k < is.length := by omega
      rw [List.getElem?_eq_getElem hkl, e] at hk
      injection hk with hk
      have := List.pairwise_iff_getElem.1 hnd k j hkl hj hkj
      exact this hk
    · cases hk
  refine ⟨g1, g2, hg.lt (hg.sub _ _ (hall _ hmem)), ?_, ?_⟩
  · rw [g3, if_neg hnot]
    exact hall _ hmem
  · rw [List.take_succ_eq_append_getElem hj, loses_snoc, e]
/-- what the breaks become where a literal less holds -/
theorem brk_lose0 {hss : List (List Int)} {i : Nat} (hi : i < hss.length) {l : Int} (h0 : hss.getD i [] = [l]) (v : Nat) : brk (hss.set i []) v = if v = l.natAbs then brk hss v - 1 else brk hss v := by
  have := brk_set hi [] v
  rw [h0, sole_one, sole_ne (by simp)] at this
  by_cases e : l.natAbs = v
  · rw [if_pos e.symm]
    simp [e] at this
    omega
  · rw [if_neg (Ne.symm e)]
    simp [e] at this
    omega
theorem brk_lose1 {hss : List (List Int)} {i : Nat} (hi : i < hss.length) {x : Int} (h0 : (hss.getD i []).length = 2) (v : Nat) : brk (hss.set i [x]) v = if v = x.natAbs then brk hss v + 1 else brk hss v := by
  have := brk_set hi [x] v
  rw [sole_one, sole_ne (h := hss.getD i []) (by omega)] at this
  by_cases e : x.natAbs = v
  · rw [if_pos e.symm]
    simp [e] at this
    omega
  · rw [if_neg (Ne.symm e)]
    simp [e] at this
    omega
theorem brk_lose2 {hss : List (List Int)} {i : Nat} (hi : i < hss.length) {h' : List Int} (h0 : 2 ≤ h'.length) (h1 : 2 ≤ (hss.getD i []).length) (v : Nat) : brk (hss.set i h') v = brk hss v := by
  have := brk_set hi h' v
  have e1 : soleOf v h' = false := sole_ne (by omega) v
  have e2 : soleOf v (hss.getD i []) = false := sole_ne (by omega) v
  rw [e1, e2] at this
  simpa using this
section
variable {w : World} {ρ : Nat → Nat} {p : Lx} {z : List Bool} {s : LS} {b : BS} {c K i k : Nat} {l : Int}
theorem setH_fin {m : MS} (h : LM w ρ p m) (hi : i < m.cls.length) (hC : p.cA = some ⟨c, 0, none⟩) (hlen : m.hss.length = m.cls.length) (h' : List Int) (y u : Int) (hy : y = (h'.length : Nat)) (hu : u = (xr h' : Nat)) :
    LM ((w.setCell ⟨c, i * 4 + 1, none⟩ (.int .i64 y)).setCell ⟨c, i * 4 + 2, none⟩ (.int .i64 u)) ρ p { m with hss := m.hss.set i h' } ∧
    LStep w ρ ((w.setCell ⟨c, i * 4 + 1, none⟩ (.int .i64 y)).setCell ⟨c, i * 4 + 2, none⟩ (.int .i64 u)) ρ := by
  rw [hy, hu]
  exact h.setH hi hC hlen h'
theorem lose_fin0 (h1 : LM w ρ p { MS.of z s b with hss := s.hss.set i [], row := s.row ++ [i] }) (hg : s.Good z.length) (hi : i < s.cls.length) (h0 : s.hss.getD i [] = [l]) (hK : p.kA = some ⟨K, 0, none⟩) (hl : l.natAbs ≤ z.length) (hk : l.natAbs = k + 1) (x : Int) (hx : x = (brk s.hss (k + 1) - 1 : Nat)) :
    LM (w.setCell ⟨K, k, none⟩ (.int .i64 x)) ρ p (MS.of z (s.loseAt l i) b) ∧ LStep w ρ (w.setCell ⟨K, k, none⟩ (.int .i64 x)) ρ := by
  obtain ⟨k1, k2⟩ := h1.setBk (k := k) (show k < z.length by omega) hK (brk s.hss (k + 1) - 1)
  rw [hx]
  refine ⟨?_, k2⟩
  have k5 := k1.bkCongr (f := brk (s.hss.set i [])) fun v hv1 hv2 => by
    rw [brk_lose0 (by rw [hg.len]; exact hi) h0]
    show (if v = k + 1 then brk s.hss (k + 1) - 1 else brk s.hss v) = _
    by_cases e : v = l.natAbs
    · rw [if_pos (by omega), if_pos e, e, hk]
    · rw [if_neg (by omega), if_neg e]
  have e : MS.of z (s.loseAt l i) b = ⟨z, s.cls, s.hss.set i [], s.row ++ [i], havs z.length s.cls, brk (s.hss.set i []), b⟩ := by
    unfold LS.loseAt
    rw [if_pos (by rw [h0]; rfl)]
    rfl
  rw [e]
  exact k5
theorem lose_fin1 {x1 : Int} (h1 : LM w ρ p { MS.of z s b with hss := s.hss.set i ((s.hss.getD i []).erase l) }) (hg : s.Good z.length) (hi : i < s.cls.length) (h0 : (s.hss.getD i []).length = 2) (he : (s.hss.getD i []).erase l = [x1]) (hK : p.kA = some ⟨K, 0, none⟩) (hl : x1.natAbs ≤ z.length) (hk : x1.natAbs = k + 1) (x : Int) (hx : x = (brk s.hss (k + 1) + 1 : Nat)) :
    LM (w.setCell ⟨K, k, none⟩ (.int .i64 x)).drew ρ p (MS.of z (s.loseAt l i) b) ∧ LStep w ρ (w.setCell ⟨K, k, none⟩ (.int .i64 x)).drew ρ := by
  rw [he] at h1
  obtain ⟨k1, k2⟩ := h1.setBk (k := k) (show k < z.length by omega) hK (brk s.hss (k + 1) + 1)
  rw [hx]
  refine ⟨?_, k2.trans LStep.drew⟩
  have k5 := k1.bkCongr (f := brk (s.hss.set i [x1])) fun v hv1 hv2 => by
    rw [brk_lose1 (by rw [hg.len]; exact hi) h0]
    show (if v = k + 1 then brk s.hss (k + 1) + 1 else brk s.hss v) = _
    by_cases e : v = x1.natAbs
    · rw [if_pos (by omega), if_pos e, e, hk]
    · rw [if_neg (by omega), if_neg e]
  have e : MS.of z (s.loseAt l i) b = ⟨z, s.cls, s.hss.set i [x1], s.row, havs z.length s.cls, brk (s.hss.set i [x1]), b⟩ := by
    unfold LS.loseAt
    rw [if_neg (by omega), he]
    rfl
  rw [e]
  exact k5.drew
theorem lose_fin2 (h1 : LM w ρ p { MS.of z s b with hss := s.hss.set i ((s.hss.getD i []).erase l) }) (hg : s.Good z.length) (hi : i < s.cls.length) (h0 : 3 ≤ (s.hss.getD i []).length) (hm : l ∈ s.hss.getD i []) : LM w ρ p (MS.of z (s.loseAt l i) b) := by
  have hle := List.length_erase_of_mem hm
  have k5 := h1.bkCongr (f := brk (s.hss.set i ((s.hss.getD i []).erase l))) fun v hv1 hv2 => by
    rw [brk_lose2 (by rw [hg.len]; exact hi) (by omega) (by omega)]
    rfl
  have e : MS.of z (s.loseAt l i) b = ⟨z, s.cls, s.hss.set i ((s.hss.getD i []).erase l), s.row, havs z.length s.cls, brk (s.hss.set i ((s.hss.getD i []).erase l)), b⟩ := by
    unfold LS.loseAt
    rw [if_neg (by omega)]
    rfl
  rw [e]
  exact k5
end
section
variable {w : World} {ρ : Nat → Nat} {p : Lx} {z : List Bool} {s : LS} {b : BS}
set_option maxRecDepth 100000 in
set_option maxHeartbeats 4000000 in
theorem lose_any (h : LM w ρ p (MS.of z s b)) (hg : s.Good z.length) {l : Int} (hl0 : l ≠ 0) (hl : l.natAbs ≤ z.length) (hyes : ∀ i ∈ hav s.cls l, l ∈ s.hss.getD i []) :
    Calls Try.prog 71 #[.pointer (some ⟨p.g, 0, none⟩), .int .i64 l] w fun e w' => e = .returned (.tuple #[]) ∧ ∃ ρ' A' c', LM w' ρ' { p with rA := A', rc := c' } (MS.of z (s.loses l (hav s.cls l)) b) ∧ LStep w ρ w' ρ' := by
  have hzn := hg.vars
  have hb := litIndex_bd (l := l) (b := z.length) (by omega) (by omega) hl0
  obtain ⟨x, hx⟩ : ∃ x : Nat, litIndex l = (x : Int) := ⟨(litIndex l).toNat, by omega⟩
  have hx2 : x < 2 * z.length := by omega
  obtain ⟨vv, hvv⟩ : ∃ vv : Nat, l.natAbs = vv := ⟨_, rfl⟩
  have hlv : litVar l = (vv : Int) := by unfold litVar; split <;> omega
  have HV := Lib.hid (fun w => hlv ▸ var_any l w (by omega) (by omega))
  have HI := Lib.hid (fun w => hx ▸ index_any l w (by omega) (by omega))
  obtain ⟨H, A, c, eH, cH, hvx⟩ := h.havHd (x := x) hx2
  have ehav : (havs z.length s.cls).getD x [] = hav s.cls l := havs_at hx2 hx
  have c2 := h.cells.2.2.1
  change w.cell? ⟨H, x, none⟩ = some (.slice A ((havs z.length s.cls).getD x []).length c) at cH
  change p.hvV[x]? = some (.slice A ((havs z.length s.cls).getD x []).length c) at hvx
  change w.cell? ⟨p.g, 2, none⟩ = some (.slice p.hA (2 * z.length) p.hc) at c2
  rw [ehav] at cH hvx
  rw [eH] at c2
  have HM := fun j hj => lose_math hg hl0 (hav_nodup s.cls l) hyes (j := j) hj
  have hlen := hav_len s.cls l
  have hfew := hg.few
  obtain ⟨is, his⟩ : ∃ is, hav s.cls l = is := ⟨_, rfl⟩
  rw [his] at cH hvx HM hlen ehav ⊢
  obtain ⟨M, hM⟩ : ∃ M, 2 * z.length = M := ⟨_, rfl⟩
  have hxM : (x : Int) < (M : Int) := by omega
  rw [hM] at c2
  obtain ⟨k0, hk0⟩ : ∃ k0 : Nat, vv = k0 + 1 := ⟨vv - 1, by omega⟩
  have HL := Lib.hid (And.intro h (And.intro hg (And.intro ehav (And.intro hvx (And.intro hvv (And.intro hl (And.intro hl0 (And.intro hx2 HM))))))))
  have hlen2 : is.length ≤ 100 := by omega
  have hwi : IntKind.i64.wrap (vv : Int) = (vv : Int) := i64_ok14 (by omega)
  subst hk0
  clear h hg hb hx hlv ehav HM hyes his hM hvx eH hvv hl hl0 hx2 hlen hfew
  go_enter Try.func71, Try.ntmps71
  go_wp2_with fail
  refine (HV.out _).mono ?_
  rintro e w1 ⟨rfl, rfl⟩
  go_wp2_with fail
  go_quiet ((go_at_call 50; with_reducible exact quiet_left (HI.out _)))
  go_wp2
  go_loopg [19] (is.length + 1) (fun gk ti wr => ∃ j : Nat, j ≤ is.length ∧ gk = is.length - j + 1 ∧ ti = .int .i64 (j : Nat) ∧ ∃ ρ' A' c', Hid (LM wr ρ' { p with rA := A', rc := c' } (MS.of z (s.loses l (is.take j)) b)) ∧ Hid (LStep w ρ wr ρ'))
  case atStart => exact ⟨0, by omega, by omega, rfl, ρ, p.rA, p.rc, Lib.hid (HL.out.1.drewN _), Lib.hid (LStep.gr ((Gr.refl w).drewE ⟨_, rfl⟩))⟩
  case round =>
    obtain ⟨j, hj, rfl, rfl, ρ1, A1, cc1, HLM, HST⟩ := hrel
    clear cH c2
    by_cases hlt : j < is.length
    · obtain ⟨h, hg, ehav, hvx, hvv, hl, hl0, hx2, HMM⟩ := HL.out
      obtain ⟨g1, g2, hi, hn, e1⟩ := HMM j hlt
      obtain ⟨si, hsi⟩ : ∃ si, s.loses l (is.take j) = si := ⟨_, rfl⟩
      rw [hsi] at g1 g2 hn e1 HLM
      have ehv : (MS.of z si b).hv.getD x [] = is := by
        show (havs z.length si.cls).getD x [] = is
        rw [g2, ehav]
      obtain ⟨ba, eA, cA⟩ := HLM.out.havAt hx2 hvx hlt (by rw [ehv])
      rw [ehv] at cA
      obtain ⟨i, hii⟩ : ∃ i, is.getD j 0 = i := ⟨_, rfl⟩
      rw [hii] at hi hn e1 cA
      have hi2 : i < (MS.of z si b).cls.length := by show i < si.cls.length; rw [g2]; exact hi
      obtain ⟨C, K, eC, eK, rC, rK⟩ := HLM.out.names (by omega) (show 0 < z.length by omega)
      change p.cA = some ⟨C, 0, none⟩ at eC
      change p.kA = some ⟨K, 0, none⟩ at eK
      obtain ⟨k1, k2, kf, kl⟩ := HLM.out.clAt hi2 eC
      change wr.cell? ⟨C, i * 4 + 1, none⟩ = some (.int .i64 ((si.hss.getD i []).length : Nat)) at k1
      change wr.cell? ⟨C, i * 4 + 2, none⟩ = some (.int .i64 (xr (si.hss.getD i []) : Nat)) at k2
      have kf1 := kf (i * 4 + 1)
      have kf2 := kf (i * 4 + 2)
      have c1 := HLM.out.cells.2.1
      have c4 := HLM.out.cells.2.2.2.2.1
      change wr.cell? ⟨p.g, 1, none⟩ = some (.slice p.cA si.cls.length p.cc) at c1
      change wr.cell? ⟨p.g, 4, none⟩ = some (.slice p.kA z.length p.kc) at c4
      rw [eC, g2] at c1
      rw [eK] at c4
      subst eA
      have gC : p.g ≠ C := fun e => by have : ρ1 p.g = 6 := HLM.out.sr; rw [e, rC] at this; cases this
      have gK : p.g ≠ K := fun e => by have : ρ1 p.g = 6 := HLM.out.sr; rw [e, rK] at this; cases this
      have KC : K ≠ C := fun e => by rw [e, rC] at rK; cases rK
      have CK : C ≠ K := Ne.symm KC
      obtain ⟨N, hN⟩ : ∃ N, s.cls.length = N := ⟨_, rfl⟩
      obtain ⟨nz, hnz⟩ : ∃ nz, z.length = nz := ⟨_, rfl⟩
      have hfew := g1.few
      rw [g2] at hfew
      rw [hN] at hi c1 hfew
      have hiN : (i : Int) < (N : Int) := by omega
      have hkz : (k0 : Int) < (nz : Int) := by omega
      have hnzb : nz ≤ 1000 := by omega
      have hk0b : (k0 : Int) ≤ 1000 := by omega
      have hjl : (j : Int) < (is.length : Int) := by omega
      have hxl := g1.xlt i
      have hhl := g1.hlen i
      have hrl := g1.rlen
      have hx62 : xr (si.hss.getD i []) < 4611686018427387904 := by omega
      have hxor := i64_xor_nat (xr (si.hss.getD i [])) (k0 + 1) hx62 (by omega)
      have HG1 := Lib.hid (And.intro g1 (And.intro hi2 (And.intro e1 (And.intro hrl (And.intro g2 (And.intro hn hvv))))))
      have HNM := Lib.hid (And.intro eC (And.intro eK (And.intro hl0 (And.intro hl (And.intro hnz hN)))))
      rw [hnz] at c4
      clear h hg ehav hvx hvv hl hl0 hx2 HMM g1 g2 hn e1 hsi ehv hi2 hii eC eK hnz hN kf hrl hx62
      have hle := List.length_erase_of_mem HG1.out.2.2.2.2.2.1
      have hxe := xr_erase HG1.out.2.2.2.2.2.1
      rw [HG1.out.2.2.2.2.2.2] at hxe
      have HSF := Lib.hid (fun y u hy hu => setH_fin HLM.out HG1.out.2.1 HNM.out.1 (show si.hss.length = si.cls.length from HG1.out.1.len) ((si.hss.getD i []).erase l) y u hy hu)
      have hpos : 0 < (si.hss.getD i []).length := List.length_pos_of_mem HG1.out.2.2.2.2.2.1
      rw [← hxe] at hxor
      rcases (by omega : (si.hss.getD i []).length = 1 ∨ (si.hss.getD i []).length = 2 ∨ 3 ≤ (si.hss.getD i []).length) with hL | hL | hL
      · obtain ⟨x1, hhe, hxx⟩ := xr_one hL
        have hx1 : l = x1 := by have := HG1.out.2.2.2.2.2.1; rw [hhe] at this; simpa using this
        subst hx1
        rw [HG1.out.2.2.2.2.2.2] at hxx
        have her : [l].erase l = [] := by simp
        rw [hhe, her] at HSF
        rw [hhe, her] at hxe
        rw [hL] at k1
        rw [hxx] at k2 hxor
        rw [hhe, her] at hxor
        simp only [xr] at hxor
        push_cast at hxor
        have HS0 := Lib.hid (HSF.out 0 0 rfl rfl)
        have HHE := Lib.hid hhe
        clear hle hxe hxx hL hhe her HSF
        go_wp2_with fail
        obtain ⟨w0, hw0⟩ : ∃ w0, w0 = (wr.setCell ⟨C, i * 4 + 1, none⟩ (.int .i64 0)).setCell ⟨C, i * 4 + 2, none⟩ (.int .i64 0) := ⟨_, rfl⟩
        rw [← hw0] at HS0 ⊢
        have hen := enter_any HS0.out.1 (i := i) HG1.out.2.1 (fun hm => by have := ((HG1.out.1.rmem i).1 hm).2; rw [HHE.out] at this; cases this) (show si.cls.length ≤ 1000 by rw [HG1.out.2.2.2.2.1, HNM.out.2.2.2.2.2]; omega) (show si.row.length ≤ 1000 by have := HG1.out.2.2.2.1; rw [HG1.out.2.2.2.2.1, HNM.out.2.2.2.2.2] at this; omega)
        refine hen.mono ?_
        rintro e w1 ⟨rfl, ρ2, A2, cc2, hm1, hs1⟩
        have d4 := hm1.cells.2.2.2.2.1
        obtain ⟨b1, b2, _⟩ := hm1.bkAt (k := k0) (show k0 < z.length by rw [HNM.out.2.2.2.2.1]; omega) HNM.out.2.1
        change w1.cell? ⟨p.g, 4, none⟩ = some (.slice p.kA z.length p.kc) at d4
        change w1.cell? ⟨K, k0, none⟩ = some (.int .i64 (brk si.hss (k0 + 1) : Nat)) at b1
        rw [HNM.out.2.1, HNM.out.2.2.2.2.1] at d4
        have hbl := brk_le si.hss (k0 + 1)
        rw [HG1.out.1.len, HG1.out.2.2.2.2.1, HNM.out.2.2.2.2.2] at hbl
        have hbp : 0 < brk si.hss (k0 + 1) := brk_pos (i := i) (by rw [HG1.out.1.len]; exact HG1.out.2.1) (by rw [HHE.out, sole_one, HG1.out.2.2.2.2.2.2]; simp)
        have HE2 := Lib.hid (fun x hx => lose_fin0 (w := w1) (l := l) (k := k0) hm1 HG1.out.1 HG1.out.2.1 HHE.out HNM.out.2.1 HNM.out.2.2.2.1 HG1.out.2.2.2.2.2.2 x hx)
        have HS1 := Lib.hid (HS0.out.2.trans hs1)
        obtain ⟨bv, hbv⟩ : ∃ bv, brk si.hss (k0 + 1) = bv := ⟨_, rfl⟩
        rw [hbv] at b1 hbl HE2 hbp
        clear hm1 hs1 hw0 c1 c4 k1 k2 kf1 kf2 hbv cA HS0 hen
        go_wp2
        go_roundg (is.length - j)
        case measure => omega
        case rel => exact ⟨j + 1, by omega, by omega, by go_num, ρ2, A2, cc2, Lib.hid (by rw [HG1.out.2.2.1]; refine (HE2.out _ ?_).1 <;> omega), Lib.hid ((HST.out.trans HS1.out).trans (by refine (HE2.out _ ?_).2 <;> omega))⟩
      · obtain ⟨x1, hhe, hxx⟩ := xr_one (h := (si.hss.getD i []).erase l) (by omega)
        have hx1 := HG1.out.1.lits i x1 (HG1.out.1.sub i x1 (List.mem_of_mem_erase (a := x1) (b := l) (by rw [hhe]; simp)))
        obtain ⟨k1', hk1⟩ : ∃ k1', x1.natAbs = k1' + 1 := ⟨x1.natAbs - 1, by omega⟩
        obtain ⟨b1, b2, _⟩ := HLM.out.bkAt (k := k1') (show k1' < z.length by omega) HNM.out.2.1
        change wr.cell? ⟨K, k1', none⟩ = some (.int .i64 (brk si.hss (k1' + 1) : Nat)) at b1
        have hbl := brk_le si.hss (k1' + 1)
        rw [HG1.out.1.len, HG1.out.2.2.2.2.1, HNM.out.2.2.2.2.2] at hbl
        have hkz1 : (k1' : Int) < (nz : Int) := by rw [← HNM.out.2.2.2.2.1]; omega
        have hk1b : (k1' : Int) ≤ 1000 := by omega
        rw [hxx, hk1] at hxor
        push_cast at hxor
        have HS0 := Lib.hid (HSF.out 1 ((k1' : Int) + 1) (by rw [hhe]; rfl) (by rw [hhe]; simp [xr, hk1]))
        have HE2 := Lib.hid (fun x hx => lose_fin1 (l := l) HS0.out.1 HG1.out.1 HG1.out.2.1 hL hhe HNM.out.2.1 hx1.2 hk1 x hx)
        rw [hL] at k1
        obtain ⟨X, hX⟩ : ∃ X, xr (si.hss.getD i []) = X := ⟨_, rfl⟩
        rw [hX] at k2 hxor hxl
        obtain ⟨bv, hbv⟩ : ∃ bv, brk si.hss (k1' + 1) = bv := ⟨_, rfl⟩
        rw [hbv] at b1 hbl HE2
        have hwk : IntKind.i64.wrap ((k1' : Int) + 1) = (k1' : Int) + 1 := i64_ok14 (by omega)
        clear hhe hk1 hbv hx1 hX hxx hxe hle hL HSF
        go_wp2_with fail
        go_region
        go_wp2
        go_roundg (is.length - j)
        case measure => omega
        case rel => exact ⟨j + 1, by omega, by omega, by go_num, ρ1, A1, cc1, Lib.hid (by rw [HG1.out.2.2.1]; refine (HE2.out _ ?_).1 <;> omega), Lib.hid ((HST.out.trans HS0.out.2).trans (by refine (HE2.out _ ?_).2 <;> omega))⟩
      · have HE2 := Lib.hid (fun y u hy hu => lose_fin2 (l := l) (HSF.out y u hy hu).1 HG1.out.1 HG1.out.2.1 hL HG1.out.2.2.2.2.2.1)
        obtain ⟨E, hE⟩ : ∃ E, (si.hss.getD i []).erase l = E := ⟨_, rfl⟩
        rw [hE] at hle hxor HSF HE2
        obtain ⟨L, hLL⟩ : ∃ L, (si.hss.getD i []).length = L := ⟨_, rfl⟩
        rw [hLL] at k1 hL hle hhl hpos
        obtain ⟨X, hX⟩ : ∃ X, xr (si.hss.getD i []) = X := ⟨_, rfl⟩
        rw [hX] at k2 hxor hxl
        obtain ⟨Y, hY⟩ : ∃ Y, xr E = Y := ⟨_, rfl⟩
        rw [hY] at hxor HSF HE2
        push_cast at hxor
        have HLE := Lib.hid hle
        clear hE hLL hX hY hxe hle
        go_wp2
        go_roundg (is.length - j)
        case measure => omega
        case rel => exact ⟨j + 1, by omega, by omega, by go_num, ρ1, A1, cc1, Lib.hid (by rw [HG1.out.2.2.1]; refine HE2.out _ _ ?_ ?_ <;> (have := HLE.out; omega)), Lib.hid (HST.out.trans (by refine (HSF.out _ _ ?_ ?_).2 <;> (have := HLE.out; omega)))⟩
    · have hjl : is.length = j := by omega
      subst hjl
      rw [List.take_length] at HLM
      clear hlt hj
      go_wp2
      go_end0
      exact ⟨rfl, ρ1, A1, cc1, HLM.out, HST.out⟩
end
end Go.Proofs.Ytllgepabjglnaaa
