/- Package walk: Step, Run, Walk; what is known of the best assignment. -/
import Derived.Test.YtllgepabjglnaaaStep15
import Derived.Test.YtllgepabjglnaaaRgtMath
namespace Go.Proofs.Ytllgepabjglnaaa
open Go.RowKit
set_option linter.unusedVariables false
set_option linter.unusedSimpArgs false

/-- how many clauses an assignment doesn't satisfy -/
def unsN (yss : List (List Int)) (z : List Bool) : Nat := (yss.filter fun c => !clauseSat z c).length
theorem unsN_snoc (yss : List (List Int)) (c : List Int) (z : List Bool) : unsN (yss ++ [c]) z = unsN yss z + if clauseSat z c = true then 0 else 1 := by
  unfold unsN
  rw [List.filter_append, List.length_append, List.filter_cons]
  congr 1
  cases clauseSat z c <;> rfl
theorem clauseSat_hol (z : List Bool) (c : List Int) : clauseSat z c = c.any (hol z) := rfl
theorem row_uns {s : LS} {z : List Bool} (hg : s.Good z.length) (ha : s.At z) : s.row.length = unsN s.cls z := by
  rw [← zeroTo_row hg]
  have key : ∀ i, i ≤ s.cls.length → zeroTo s i = unsN (s.cls.take i) z := fun i => by
    induction i with
    | zero => intro _; simp [zeroTo, unsN]
    | succ i ih =>
      intro hi
      rw [zeroTo_next, ih (by omega), List.take_succ_eq_append_getElem (show i < s.cls.length by omega), unsN_snoc, at_len hg ha i]
      have eg : s.cls.getD i [] = s.cls[i] := by simp [List.getD, show i < s.cls.length by omega]
      rw [eg, clauseSat_hol]
      congr 1
      by_cases h : s.cls[i].any (hol z) = true
      · rw [if_pos h, if_neg]
        intro e
        rw [List.any_eq_true] at h
        obtain ⟨x, hx, hh⟩ := h
        have := List.eq_nil_of_length_eq_zero e
        have hm := List.mem_filter.2 ⟨hx, hh⟩
        rw [this] at hm
        cases hm
      · rw [if_neg h, if_pos]
        rw [List.length_eq_zero_iff, List.filter_eq_nil_iff]
        intro x hx hh
        exact h (List.any_eq_true.2 ⟨x, hx, hh⟩)
  have := key s.cls.length (Nat.le_refl _)
  rwa [List.take_length] at this
/-- the best assignment leaves as many as it says; the one at hand, and the first one, no fewer -/
structure BI (yss : List (List Int)) (N0 : Nat) (z : List Bool) (s : LS) (b : BS) : Prop where
  is_ : b.fewest = unsN yss (b.of z)
  now : b.fewest ≤ s.row.length
  first : b.fewest ≤ N0
theorem BI.step {w : World} {B g : Nat} {ρ : Nat → Nat} {yss : List (List Int)} {N0 : Nat} {z : List Bool} {s : LS} {b b' : BS} {v : Int} (h : BI yss N0 z s b) (hs : BStep z s b v b') (hst : St14 w B ρ g (turnV z v) yss (flipV s z v) b') : BI yss N0 (turnV z v) (flipV s z v) b' := by
  by_cases hv : v = 0
  · subst hv
    rw [turnV_zero, flipV_zero, hs.no rfl]
    exact h
  · obtain ⟨h1, h2⟩ := hs.yes hv
    have hr : (flipV s z v).row.length = unsN yss (turnV z v) := by rw [← hst.cls]; exact row_uns hst.good hst.at_
    by_cases hlt : (flipV s z v).row.length < b.fewest
    · rw [if_pos hlt] at h1 h2
      exact ⟨by rw [h1, h2, hr], by rw [h1]; exact Nat.le_refl _, by rw [h1]; have := h.first; omega⟩
    · rw [if_neg hlt] at h1 h2
      exact ⟨by rw [h1, h2]; exact h.is_, by rw [h1]; omega, by rw [h1]; exact h.first⟩
theorem BI.new {w : World} {B g : Nat} {ρ : Nat → Nat} {yss : List (List Int)} {z : List Bool} {s : LS} (hst : St14 w B ρ g z yss s ⟨0, s.row.length, [], none⟩) : BI yss (unsN yss z) z s ⟨0, s.row.length, [], none⟩ := by
  have hr : s.row.length = unsN yss z := by rw [← hst.cls]; exact row_uns hst.good hst.at_
  exact ⟨hr, Nat.le_refl _, Nat.le_of_eq hr⟩

/-- what a call of Step or Run leaves -/
structure WalkP (w w' : World) (B : Nat) (ρ ρ' : Nat → Nat) (g Bs r d : Nat) (yss : List (List Int)) (c' : Cfg) (b' : BS) (k : Nat) : Prop where
  st : St14 w' B ρ' g c'.z yss c'.s b'
  sm : Strm w' Bs r c'.g.ws c'.g.last (d + k)
  dj : ∀ q, ρ' q ≠ 0 → q < Bs ∨ r < q
  ft : Ft (fun q => ρ q ≠ 0 ∨ q = r) w w'
  part : ∀ q, q < w.heap.size → ρ' q = ρ q
theorem WalkP.trans {w w' w'' : World} {B : Nat} {ρ ρ' ρ'' : Nat → Nat} {g Bs r d : Nat} {yss : List (List Int)} {c' c'' : Cfg} {b' b'' : BS} {k k' : Nat} (h : WalkP w w' B ρ ρ' g Bs r d yss c' b' k) (h' : WalkP w' w'' B ρ' ρ'' g Bs r (d + k) yss c'' b'' k') : WalkP w w'' B ρ ρ'' g Bs r d yss c'' b'' (k + k') :=
  ⟨h'.st, by have := h'.sm; rwa [Nat.add_assoc] at this, h'.dj, h.ft.trans h'.ft fun q hq => by
    rcases hq with e | e
    · rcases Nat.lt_or_ge q w.heap.size with hl | hl
      · exact .inl (.inl (by rw [← h.part q hl]; exact e))
      · exact .inr hl
    · exact .inl (.inr e), fun q hq => (h'.part q (Nat.lt_of_lt_of_le hq h.ft.size)).trans (h.part q hq)⟩
/-- a call that walks, a walker of its own left behind -/
theorem StepP.out {w w1 w2 w' : World} {B : Nat} {ρ ρ' : Nat → Nat} {g Bs r gw d : Nat} {y : Wy} {yss : List (List Int)} {c : Cfg} {b b' : BS} {v : Int} {k : Nat} (h : StepP w2 w' B ρ ρ' g Bs r w1.heap.size gw d y yss c b b' v k) (h1 : Below w.heap.size w w1) (h2 : Below w1.heap.size w1 w2) :
    WalkP w w' B ρ ρ' g Bs r d yss (c.turned v k) b' k := by
  have hb : Below w.heap.size w w2 := h1.trans (h2.mono h1.size)
  refine ⟨h.st, h.sm, h.dj, (Ft.of_below hb).trans h.ft fun q hq => ?_, fun q hq => h.part q (Nat.lt_of_lt_of_le hq hb.size)⟩
  rcases hq with e | e | e
  · exact .inl (.inl e)
  · exact .inl (.inr e)
  · exact .inr (Nat.le_trans h1.size e)

set_option maxRecDepth 100000 in
set_option maxHeartbeats 4000000 in
theorem wstep_any15 {w : World} {B g r Bs d : Nat} {ρ : Nat → Nat} {yss : List (List Int)} {c : Cfg} {b : BS} {y : Wy}
    (hst : St14 w B ρ g c.z yss c.s b) (hfl : b.flips ≤ 900000) (hs : Strm w Bs r c.g.ws c.g.last d) (hd : d ≤ 800000) (hdj : ∀ q, ρ q ≠ 0 → q < Bs ∨ r < q) (hy : y.Ok) :
    Calls Try.prog 22 #[.pointer (some ⟨g, 0, none⟩), wayV y, .pointer (some ⟨r, 0, none⟩)] w fun e w' => e = .returned (.int .i64 (stepV y c).1) ∧ ∃ ρ' b', WalkP w w' B ρ ρ' g Bs r d yss (stepC y c) b' (stepV y c).2 ∧ BStep c.z c.s b (stepV y c).1 b' := by
  obtain ⟨w1, hw1⟩ : ∃ w1, w1 = w.alloc (Obj.cells #[Value.int .i64 (y.kind : Nat), Value.int .i64 (y.base : Nat), Value.int .i64 (y.nz : Nat)] 41) := ⟨_, rfl⟩
  have hb1 : Below w.heap.size w w1 := by rw [hw1]; exact (Below.refl _ _).alloc (Nat.le_refl _) _
  have HWK := Lib.hid (walker_any15 g r hy w1)
  have hst1 := hst.below hb1
  have hs1 := hs.below hb1 hs.lt
  have hr1 : r < w1.heap.size := hs1.lt
  have HSP := Lib.hid (fun (w2 : World) (gw gt : Nat) (h1 : Blk w2 gw 105 (wkC g r y gt (.slice none 0 0))) (h2 : TabIf w2 y gt) (h3 : w1.heap.size ≤ gt) (h4 : gt < w2.heap.size) (h5 : w1.heap.size ≤ gw) (h6 : Below w1.heap.size w1 w2) =>
    (step_any15 (hst1.below h6) hfl (hs1.below h6 hr1) hd hdj (wkr_new h1 h2 h3 h4 h5 hr1 hst1.fresh) hy))
  have HB1 := Lib.hid hb1
  obtain ⟨sv, hsv⟩ : ∃ sv, stepV y c = sv := ⟨_, rfl⟩
  have hsc : stepC y c = c.turned sv.1 sv.2 := by unfold stepC; rw [hsv]
  rw [hsv] at HSP ⊢
  rw [hsc]
  have HWY : Hid (∀ a b c : Value, True) := Lib.hid fun _ _ _ => trivial
  unfold wayV at HWK ⊢
  obtain ⟨k1, hk1⟩ : ∃ k1, y.kind = k1 := ⟨_, rfl⟩
  obtain ⟨k2, hk2⟩ : ∃ k2, y.base = k2 := ⟨_, rfl⟩
  obtain ⟨k3, hk3⟩ : ∃ k3, y.nz = k3 := ⟨_, rfl⟩
  rw [hk1, hk2, hk3] at hw1 HWK ⊢
  clear hst hs hdj hb1 hst1 hs1 hr1 hsv hsc hk1 hk2 hk3 HWY
  go_enter Try.func22, Try.ntmps22
  go_wp2_with fail
  rw [← hw1]
  clear hw1
  refine HWK.out.mono ?_
  rintro e w2 ⟨gw, gt, rfl, h1, h2, h3, h4, h5, h6⟩
  have HSP2 := Lib.hid (HSP.out w2 gw gt h1 h2 h3 h4 h5 h6)
  have HB2 := Lib.hid h6
  clear h1 h2 h3 h4 h5 h6 HSP HWK
  go_wp2_with fail
  refine HSP2.out.mono ?_
  rintro e w3 ⟨rfl, ρ', b', hp⟩
  have HP := Lib.hid hp
  clear hp HSP2
  go_wp2
  go_ret
  exact ⟨rfl, ρ', b', HP.out.out HB1.out HB2.out, HP.out.bs⟩

theorem stepC_len (y : Wy) (c : Cfg) : (stepC y c).z.length = c.z.length := turnV_len _ _
theorem runF_len (y : Wy) : ∀ (n : Nat) (c : Cfg), (runF y n c).2.2.z.length = c.z.length
  | 0, c => rfl
  | n + 1, c => by
    by_cases h : c.s.row = []
    · rw [runF_end y _ h]
    · rw [runF_succ y n h]
      exact (runF_len y n (stepC y c)).trans (stepC_len y c)
/-- so many steps of one walker -/
structure RunL (w2 w' : World) (B : Nat) (ρ ρ' : Nat → Nat) (g Bs r K gw d : Nat) (y : Wy) (yss : List (List Int)) (c : Cfg) (b b' : BS) (j : Nat) : Prop where
  all : (runF y j c).1 = j
  st : St14 w' B ρ' g (runF y j c).2.2.z yss (runF y j c).2.2.s b'
  sm : Strm w' Bs r (runF y j c).2.2.g.ws (runF y j c).2.2.g.last (d + (runF y j c).2.1)
  dj : ∀ q, ρ' q ≠ 0 → q < Bs ∨ r < q
  wk : Wkr w' ρ' K r gw g y
  ft : Ft (fun q => ρ q ≠ 0 ∨ q = r ∨ K ≤ q) w2 w'
  part : ∀ q, q < w2.heap.size → ρ' q = ρ q
  fl : b'.flips ≤ b.flips + j
  bi : ∀ N0, BI yss N0 c.z c.s b → BI yss N0 (runF y j c).2.2.z (runF y j c).2.2.s b'
  zr : j = 0 → b' = b
theorem RunL.next {w2 w' w'' : World} {B : Nat} {ρ ρ' ρ'' : Nat → Nat} {g Bs r K gw d : Nat} {y : Wy} {yss : List (List Int)} {c : Cfg} {b b' b'' : BS} {j : Nat} (h : RunL w2 w' B ρ ρ' g Bs r K gw d y yss c b b' j) (hK : K ≤ w2.heap.size) (hrow : (runF y j c).2.2.s.row ≠ [])
    (h' : StepP w' w'' B ρ' ρ'' g Bs r K gw (d + (runF y j c).2.1) y yss (runF y j c).2.2 b' b'' (stepV y (runF y j c).2.2).1 (stepV y (runF y j c).2.2).2) : RunL w2 w'' B ρ ρ'' g Bs r K gw d y yss c b b'' (j + 1) := by
  have hn := runF_snoc y j c hrow
  refine ⟨by rw [hn, h.all], by rw [hn]; exact h'.st, by rw [hn]; show Strm _ _ _ _ _ (d + ((runF y j c).2.1 + _)); rw [← Nat.add_assoc]; exact h'.sm, h'.dj, h'.wk, h.ft.trans h'.ft fun q hq => ?_, fun q hq => (h'.part q (Nat.lt_of_lt_of_le hq h.ft.size)).trans (h.part q hq), ?_, fun N0 h0 => ?_, fun h => by cases h⟩
  · rcases hq with e | e | e
    · rcases Nat.lt_or_ge q w2.heap.size with hl | hl
      · exact .inl (.inl (by rw [← h.part q hl]; exact e))
      · exact .inr hl
    · exact .inl (.inr (.inl e))
    · exact .inl (.inr (.inr e))
  · have := h'.bs.flips
    have := h.fl
    omega
  · rw [hn]
    exact (h.bi N0 h0).step h'.bs h'.st
set_option maxRecDepth 100000 in
set_option maxHeartbeats 4000000 in
theorem run_any15 {w : World} {B g r Bs d : Nat} {ρ : Nat → Nat} {yss : List (List Int)} {c : Cfg} {b : BS} {y : Wy} (most : Int) (hm : -100000 ≤ most ∧ most ≤ 30000)
    (hst : St14 w B ρ g c.z yss c.s b) (hfl : b.flips ≤ 800000) (hs : Strm w Bs r c.g.ws c.g.last d) (hd : d ≤ 700000) (hdj : ∀ q, ρ q ≠ 0 → q < Bs ∨ r < q) (hy : y.Ok) :
    Calls Try.prog 26 #[.pointer (some ⟨g, 0, none⟩), wayV y, .pointer (some ⟨r, 0, none⟩), .int .i64 most] w fun e w' => e = .returned (.int .i64 ((runF y most.toNat c).1 : Nat)) ∧ ∃ ρ' b', WalkP w w' B ρ ρ' g Bs r d yss (runF y most.toNat c).2.2 b' (runF y most.toNat c).2.1 ∧
      b'.flips ≤ b.flips + (runF y most.toNat c).1 ∧ (∀ N0, BI yss N0 c.z c.s b → BI yss N0 (runF y most.toNat c).2.2.z (runF y most.toNat c).2.2.s b') ∧ ((runF y most.toNat c).1 = 0 → b' = b) := by
  obtain ⟨N, hN⟩ : ∃ N, most.toNat = N := ⟨_, rfl⟩
  rw [hN]
  obtain ⟨w1, hw1⟩ : ∃ w1, w1 = w.alloc (Obj.cells #[Value.int .i64 (y.kind : Nat), Value.int .i64 (y.base : Nat), Value.int .i64 (y.nz : Nat)] 41) := ⟨_, rfl⟩
  have hb1 : Below w.heap.size w w1 := by rw [hw1]; exact (Below.refl _ _).alloc (Nat.le_refl _) _
  have HWK := Lib.hid (walker_any15 g r hy w1)
  have hst1 := hst.below hb1
  have hs1 := hs.below hb1 hs.lt
  have hr1 : r < w1.heap.size := hs1.lt
  have HR0 := Lib.hid (fun (w2 : World) (gw gt : Nat) (h1 : Blk w2 gw 105 (wkC g r y gt (.slice none 0 0))) (h2 : TabIf w2 y gt) (h3 : w1.heap.size ≤ gt) (h4 : gt < w2.heap.size) (h5 : w1.heap.size ≤ gw) (h6 : Below w1.heap.size w1 w2) =>
    (show RunL w2 w2 B ρ ρ g Bs r w1.heap.size gw d y yss c b b 0 from ⟨rfl, hst1.below h6, hs1.below h6 hr1, hdj, wkr_new h1 h2 h3 h4 h5 hr1 hst1.fresh, Ft.refl _, fun _ _ => rfl, Nat.le_refl _, (fun _ h => h), fun _ => rfl⟩))
  have HB1 := Lib.hid hb1
  have HY := Lib.hid hy
  have HMN := Lib.hid hN
  unfold wayV at HWK ⊢
  obtain ⟨k1, hk1⟩ : ∃ k1, y.kind = k1 := ⟨_, rfl⟩
  obtain ⟨k2, hk2⟩ : ∃ k2, y.base = k2 := ⟨_, rfl⟩
  obtain ⟨k3, hk3⟩ : ∃ k3, y.nz = k3 := ⟨_, rfl⟩
  rw [hk1, hk2, hk3] at hw1 HWK ⊢
  clear hst hs hdj hb1 hst1 hs1 hr1 hk1 hk2 hk3 hy
  go_enter Try.func26, Try.ntmps26
  go_wp2_with fail
  rw [← hw1]
  clear hw1
  refine HWK.out.mono ?_
  rintro e w2 ⟨gw, gt, rfl, h1, h2, h3, h4, h5, h6⟩
  have HR1 := Lib.hid (HR0.out w2 gw gt h1 h2 h3 h4 h5 h6)
  have HB2 := Lib.hid h6
  clear h1 h2 h3 h4 h5 h6 HR0 HWK
  go_wp2
  go_loopg [10] (N + 1) (fun gk ti wr => ∃ (j : Nat) (ρ' : Nat → Nat) (b' : BS), j ≤ N ∧ gk = N - j + 1 ∧ ti = .int .i64 (j : Nat) ∧ Hid (RunL w2 wr B ρ ρ' g Bs r w1.heap.size gw d y yss c b b' j))
  case atStart => exact ⟨0, ρ, b, by omega, by omega, rfl, HR1⟩
  case round =>
    obtain ⟨j, ρ', b', hj, rfl, rfl, HR⟩ := hrel
    clear HR1
    have HEND : Hid (∀ n, (n = 0 ∨ (runF y j c).2.2.s.row = []) → runF y (j + n) c = runF y j c) := Lib.hid fun n hn => by
      rcases hn with e | e
      · subst e; rfl
      · rw [runF_add, runF_end y n e]
        simp
    have HOUT : Hid (∀ n, j + n = N → (n = 0 ∨ (runF y j c).2.2.s.row = []) → ((runF y N c).1 = j ∧ ∃ ρ' b', WalkP w wr B ρ ρ' g Bs r d yss (runF y N c).2.2 b' (runF y N c).2.1 ∧ b'.flips ≤ b.flips + (runF y N c).1 ∧ (∀ N0, BI yss N0 c.z c.s b → BI yss N0 (runF y N c).2.2.z (runF y N c).2.2.s b') ∧ ((runF y N c).1 = 0 → b' = b))) := Lib.hid fun n hn he => by
      have e := HEND.out n he
      rw [hn] at e
      rw [e]
      have hb : Below w.heap.size w w2 := HB1.out.trans (HB2.out.mono HB1.out.size)
      refine ⟨HR.out.all, ρ', b', ⟨HR.out.st, HR.out.sm, HR.out.dj, (Ft.of_below hb).trans HR.out.ft fun q hq => ?_, fun q hq => HR.out.part q (Nat.lt_of_lt_of_le hq hb.size)⟩, by have := HR.out.fl; rw [HR.out.all]; exact this, HR.out.bi, fun h => HR.out.zr (by rw [HR.out.all] at h; exact h)⟩
      rcases hq with e | e | e
      · exact .inl (.inl e)
      · exact .inl (.inr e)
      · exact .inr (Nat.le_trans HB1.out.size e)
    by_cases hlt : j < N
    · have hjm : (j : Int) < most := by have := HMN.out; omega
      have HU := Lib.hid (st_unsat HR.out.st)
      by_cases hrow : (runF y j c).2.2.s.row = []
      · have hR : (runF y j c).2.2.s.row.length = 0 := by rw [hrow]; rfl
        rw [hR] at HU
        have HO := Lib.hid (HOUT.out (N - j) (by omega) (.inr hrow))
        clear hrow hR HOUT HEND
        go_wp2_with fail
        refine HU.out.mono ?_
        rintro e w4 ⟨rfl, rfl⟩
        go_wp2
        go_ret
        exact ⟨by rw [HO.out.1]; rfl, HO.out.2⟩
      · have hR : 0 < (runF y j c).2.2.s.row.length := by
          rcases Nat.eq_zero_or_pos (runF y j c).2.2.s.row.length with h | h
          · exact absurd (List.eq_nil_of_length_eq_zero h) hrow
          · exact h
        have hdr := runF_draws y j c
        rw [HR.out.all] at hdr
        have HSP := Lib.hid (step_any15 HR.out.st (by have := HR.out.fl; omega) HR.out.sm (by omega) HR.out.dj HR.out.wk HY.out)
        have HNX := Lib.hid (fun (w'' : World) (ρ'' : Nat → Nat) (b'' : BS) h' => HR.out.next (w'' := w'') (ρ'' := ρ'') (b'' := b'') HB2.out.size hrow h')
        obtain ⟨R, hRR⟩ : ∃ R, (runF y j c).2.2.s.row.length = R := ⟨_, rfl⟩
        rw [hRR] at HU hR
        have hRI : (0 : Int) < (R : Int) := by omega
        clear hrow hRR hdr HOUT HEND
        go_wp2_with fail
        refine HU.out.mono ?_
        rintro e w4 ⟨rfl, rfl⟩
        go_wp2_with fail
        refine HSP.out.mono ?_
        rintro e w4 ⟨rfl, ρ'', b'', hp⟩
        have HN2 := Lib.hid (HNX.out w4 ρ'' b'' hp)
        clear hp HSP HNX
        go_wp2
        go_roundg (N - j)
        case measure => omega
        case rel => exact ⟨j + 1, ρ'', b'', by omega, by omega, by go_num, HN2⟩
    · have hjm : ¬ (j : Int) < most := by have := HMN.out; omega
      have HO := Lib.hid (HOUT.out 0 (by omega) (.inl rfl))
      clear HOUT HEND
      go_wp2
      go_ret
      exact ⟨by rw [HO.out.1]; rfl, HO.out.2⟩
end Go.Proofs.Ytllgepabjglnaaa
