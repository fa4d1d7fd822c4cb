/- A heap's inner deeds: lift, sink. -/
import Derived.Test.YtnimmlfccgnneaaHpB
namespace Go.Proofs.Ytnimmlfccgnneaa
open Go.RowKit
set_option linter.unusedVariables false
set_option linter.unusedSimpArgs false

/-- the same variables, as many of them -/
def Sm (tr tr' : List Nat) : Prop := tr'.length = tr.length ∧ ∀ v, v ∈ tr' ↔ v ∈ tr
theorem Sm.refl (tr : List Nat) : Sm tr tr := ⟨rfl, fun _ => Iff.rfl⟩
theorem Sm.trans {a b c : List Nat} (h : Sm a b) (h' : Sm b c) : Sm a c := ⟨h'.1.trans h.1, fun v => (h'.2 v).trans (h.2 v)⟩
theorem Sm.swp {tr : List Nat} {i j : Nat} (hi : i < tr.length) (hj : j < tr.length) : Sm tr (swp tr i j) := ⟨swp_len, swp_mem hi hj⟩
theorem quiet_add_hp {P : Program} {f : FuncId} {args : Array Value} {w : World} {a n : Nat} {v : Value} (h : Calls P f args (w.drewN (a + n)) fun e w' => e = .returned v ∧ ∃ j, w' = (w.drewN (a + n)).drewN j) :
    Calls P f args (w.drewN (a + n)) fun e w'' => e = .returned v ∧ ∃ m, w'' = w.drewN (a + m) :=
  h.mono fun _ _ ⟨he, j, hj⟩ => ⟨he, n + j, by rw [hj, World.drewN_drewN, Nat.add_assoc]⟩

section
variable {w w' : World} {b : HB} {n r : Nat} {sc tr : List Nat} {pl : List Int}
set_option maxHeartbeats 1000000 in
theorem lift_hp (h : HM w b n sc pl tr r) (hc : Con n tr pl) (i : Nat) (hi : LiftI sc tr i) : Calls Try.prog 24 #[.pointer (some ⟨b.g, 0, none⟩), .int .i64 (i : Nat)] w fun e w' => e = .returned (.tuple #[]) ∧ ∃ pl' tr', HM w' b n sc pl' tr' r ∧ Con n tr' pl' ∧ Ord sc tr' 0 ∧ Sm tr tr' ∧ Ft b.foot w w' := by
  have H := Lib.hid h
  have HC := Lib.hid hc
  have HI := Lib.hid hi
  have hil : i ≤ 100000 := by have := hi.lt; have := h.lt; have := h.few; omega
  clear h hc hi
  go_enter Try.func24, Try.ntmps24
  go_wp2_with fail
  go_loopg [1] (i + 1) (fun gk iv wr => ∃ (k : Nat) (tr' : List Nat) (pl' : List Int), gk = k + 1 ∧ iv = .int .i64 (k : Nat) ∧ k ≤ 100000 ∧ Hid (HM wr b n sc pl' tr' r) ∧ Hid (Con n tr' pl') ∧ Hid (LiftI sc tr' k) ∧ Hid (Sm tr tr') ∧ Hid (Ft b.foot w wr))
  case atStart => exact ⟨i, tr, pl, rfl, rfl, hil, H, HC, HI, Lib.hid (Sm.refl _), Lib.hid (Ft.refl _)⟩
  case round =>
    obtain ⟨k, tr', pl', rfl, rfl, hk, H, HC, HL, HS, HF⟩ := hrel
    rcases k with _ | k
    · go_wp2
      go_end0
      exact ⟨rfl, pl', tr', H.out, HC.out, lift_end0 HL.out, HS.out, HF.out⟩
    · obtain ⟨p, hp⟩ : ∃ p, p = k / 2 := ⟨_, rfl⟩
      have hpar : (k + 1 - 1) / 2 = p := by rw [Nat.add_sub_cancel, hp]
      have HP := Lib.hid hpar
      have hkl : k + 1 < tr'.length := HL.out.lt
      have hpl : p < tr'.length := by omega
      have c2 := H.out.g2
      have ck := H.out.cT hkl
      have cp := H.out.cT hpl
      have rk := HC.out.rng _ hkl
      have rp := HC.out.rng _ hpl
      have hpi : ((k : Int) / 2) = (p : Int) := by omega
      have hpi2 : Int.tdiv (k : Int) 2 = (p : Int) := by rw [Int.tdiv_eq_ediv_of_nonneg (by omega)]; exact hpi
      have hkI : ((k : Int) + 1) < (tr'.length : Int) := by omega
      have hpI : (p : Int) < (tr'.length : Int) := by omega
      have hpb : p ≤ 100000 := by omega
      have HA := Lib.hid (fun q => ahead_hp (H.out.drewN q) _ _ rk rp)
      have HAI := Lib.hid (ahB_iff (sc := sc) (v := tr'.getD (k + 1) 0) (w := tr'.getD p 0))
      obtain ⟨x, hx⟩ : ∃ x, x = tr'.getD (k + 1) 0 := ⟨_, rfl⟩
      obtain ⟨y, hy⟩ : ∃ y, y = tr'.getD p 0 := ⟨_, rfl⟩
      rw [← hx] at ck HA HAI
      rw [← hy] at cp HA HAI
      have HX := Lib.hid hx
      have HY := Lib.hid hy
      have HKL := Lib.hid hkl
      have HPL := Lib.hid hpl
      obtain ⟨l, hl⟩ : ∃ l, l = tr'.length := ⟨_, rfl⟩
      rw [← hl] at c2 hkI hpI
      obtain ⟨d, hd⟩ : ∃ d, d = ahB sc x y := ⟨_, rfl⟩
      rw [← hd] at HA HAI
      clear hx hy hd hp hpar hkl hpl rk rp hl
      rcases d with _ | _
      · go_wp2_with fail
        go_quiet ((go_at_call 28; first | exact Calls.quiet_of (HA.out _) | exact quiet_add_hp (HA.out _)))
        go_wp2
        (try simp only [Exit.inBlock, Exit.then])
        refine bodyPost_ret (results_none rfl _ _ _) rfl ?_
        refine ⟨rfl, pl', tr', H.out.drewN _, HC.out, lift_end HL.out (by omega) HC.out.inj ?_, HS.out, HF.out.drewN _⟩
        rw [HP.out, ← HX.out, ← HY.out]
        intro ha
        have := HAI.out.2 ha
        cases this
      · go_wp2_with fail
        go_quiet ((go_at_call 28; first | exact Calls.quiet_of (HA.out _) | exact quiet_add_hp (HA.out _)))
        go_wp2_with fail
        refine (swap_hp (H.out.drewN nq) HC.out.rng (k + 1) p HKL.out HPL.out).mono ?_
        rintro e w1 ⟨rfl, h1, f1⟩
        have H1 := Lib.hid h1
        have F1 := Lib.hid (((HF.out.drewN nq).trans f1 NewF.refl))
        have HL1 : Hid (LiftI sc (swp tr' (k + 1) p) p) := Lib.hid (by
          have := lift_step HL.out (by omega) (by rw [HP.out, ← HX.out, ← HY.out]; exact HAI.out.1 (by first | rfl | trivial))
          rw [HP.out] at this
          exact this)
        clear h1 f1
        go_wp2_with fail
        go_roundg (p + 1)
        case measure => have := HP.out; omega
        case rel => exact ⟨p, _, _, rfl, rfl, hpb, H1, Lib.hid (HC.out.swp HKL.out HPL.out), HL1, Lib.hid (HS.out.trans (Sm.swp HKL.out HPL.out)), F1⟩

set_option maxHeartbeats 2000000 in
theorem sink_hp (h : HM w b n sc pl tr r) (hc : Con n tr pl) (K i : Nat) (hi : SinkI sc tr K i) (hil : i ≤ 100000) : Calls Try.prog 27 #[.pointer (some ⟨b.g, 0, none⟩), .int .i64 (i : Nat)] w fun e w' => e = .returned (.tuple #[]) ∧ ∃ pl' tr', HM w' b n sc pl' tr' r ∧ Con n tr' pl' ∧ Ord sc tr' K ∧ Sm tr tr' ∧ Ft b.foot w w' := by
  have H := Lib.hid h
  have HC := Lib.hid hc
  have HI := Lib.hid hi
  have hll : tr.length ≤ 100000 := Nat.le_trans h.lt h.few
  clear h hc hi
  go_enter Try.func27, Try.ntmps27
  go_wp2_with fail
  go_loopg [1] (tr.length - i + 1) (fun gk iv wr => ∃ (k : Nat) (tr' : List Nat) (pl' : List Int), gk = tr.length - k + 1 ∧ iv = .int .i64 (k : Nat) ∧ k ≤ 100000 ∧ Hid (HM wr b n sc pl' tr' r) ∧ Hid (Con n tr' pl') ∧ Hid (SinkI sc tr' K k) ∧ Hid (Sm tr tr') ∧ Hid (Ft b.foot w wr))
  case atStart => exact ⟨i, tr, pl, rfl, rfl, hil, H, HC, HI, Lib.hid (Sm.refl _), Lib.hid (Ft.refl _)⟩
  case round =>
    obtain ⟨k, tr', pl', rfl, rfl, hk, H, HC, HL, HS, HF⟩ := hrel
    obtain ⟨wo, rfl⟩ : ∃ wo : World, wo = wr := ⟨_, rfl⟩
    obtain ⟨l, hl⟩ : ∃ l, l = tr'.length := ⟨_, rfl⟩
    have HLL := Lib.hid hl
    have hl1 : tr'.length = tr.length := HS.out.1
    have HLT : Hid (l = tr.length) := Lib.hid (by omega)
    have hlb : l ≤ 100000 := by omega
    clear hl hl1 hll
    go_wp2_with fail
    go_loopg [4, 5] (3) (fun gk fv cv wr => ∃ (c f m : Nat), gk = 2 * k + 4 - c ∧ fv = .int .i64 (f : Nat) ∧ cv = .int .i64 (c : Nat) ∧ 2 * k + 1 ≤ c ∧ c ≤ 2 * k + 3 ∧ f ≤ 300000 ∧ wr = wo.drewN m ∧ Hid (BestC sc tr' k c f) ∧ Hid (c ≤ 2 * k + 1 ∨ c - 1 < l))
    case atStart => exact ⟨2 * k + 1, k, 0, by omega, rfl, by go_num, by omega, by omega, by omega, rfl, Lib.hid BestC.start, Lib.hid (by omega)⟩
    case round =>
      obtain ⟨c, f, m, rfl, rfl, rfl, hc1, hc2, hfb, hwm, HB, HCL⟩ := hrel
      obtain ⟨wi, rfl⟩ : ∃ wi : World, wi = wr := ⟨_, rfl⟩
      have HWM := Lib.hid hwm
      have HH : Hid (HM wi b n sc pl' tr' r) := Lib.hid (by rw [hwm]; exact H.out.drewN m)
      have HFF : Hid (Ft b.foot w wi) := Lib.hid (by rw [hwm]; exact HF.out.drewN m)
      clear hwm
      have c2 := HH.out.g2
      rw [← HLL.out] at c2
      by_cases hin : c ≤ 2 * k + 2 ∧ c < l
      · obtain ⟨hi1, hi2⟩ := hin
        have hcl : c < tr'.length := by rw [← HLL.out]; exact hi2
        have hfl : f < tr'.length := by have := HB.out.1; omega
        have cc := HH.out.cT hcl
        have cf := HH.out.cT hfl
        have rc := HC.out.rng _ hcl
        have rf := HC.out.rng _ hfl
        have HA := Lib.hid (fun q => ahead_hp (HH.out.drewN q) _ _ rc rf)
        have HAI := Lib.hid (ahB_iff (sc := sc) (v := tr'.getD c 0) (w := tr'.getD f 0))
        obtain ⟨x, hx⟩ : ∃ x, x = tr'.getD c 0 := ⟨_, rfl⟩
        obtain ⟨y, hy⟩ : ∃ y, y = tr'.getD f 0 := ⟨_, rfl⟩
        rw [← hx] at cc HA HAI
        rw [← hy] at cf HA HAI
        have HX := Lib.hid hx
        have HY := Lib.hid hy
        have HKL := Lib.hid hcl
        obtain ⟨d, hd⟩ : ∃ d, d = ahB sc x y := ⟨_, rfl⟩
        rw [← hd] at HA HAI
        have i1 : (c : Int) ≤ 2 * (k : Int) + 2 := by omega
        have i2 : (c : Int) < (l : Int) := by omega
        have i3 : (f : Int) < (l : Int) := by have := HLL.out; omega
        clear hx hy hd hcl hfl rc rf
        rcases d with _ | _
        · go_wp2_with fail
          go_quiet ((go_at_call 28; first | exact Calls.quiet_of (HA.out _) | exact quiet_add_hp (HA.out _)))
          go_wp2_with fail
          go_roundg (2 * k + 4 - (c + 1))
          case measure => omega
          case rel =>
            refine ⟨c + 1, f, _, rfl, rfl, by go_num, by omega, by omega, hfb, by rw [HWM.out, World.drewN_drewN], Lib.hid (HB.out.stay HC.out.inj hc1 HKL.out ?_), Lib.hid (.inr (by omega))⟩
            rw [← HX.out, ← HY.out]
            intro ha
            have := HAI.out.2 ha
            cases this
        · go_wp2_with fail
          go_quiet ((go_at_call 28; first | exact Calls.quiet_of (HA.out _) | exact quiet_add_hp (HA.out _)))
          go_wp2_with fail
          go_roundg (2 * k + 4 - (c + 1))
          case measure => omega
          case rel =>
            refine ⟨c + 1, c, _, rfl, rfl, by go_num, by omega, by omega, by omega, by rw [HWM.out, World.drewN_drewN], Lib.hid (HB.out.step hc1 HKL.out ?_), Lib.hid (.inr (by omega))⟩
            rw [← HX.out, ← HY.out]
            exact HAI.out.1 (by first | rfl | trivial)
      · have HEND : Hid (∀ c', (c' = k ∨ c' = 2 * k + 1 ∨ c' = 2 * k + 2) → c' < tr'.length → c' ≠ f → ah sc (tr'.getD f 0) (tr'.getD c' 0)) := Lib.hid fun c' h1 h2 h3 => HB.out.2 c' (by have := HLL.out; omega) h2 h3
        have HF1 := Lib.hid HB.out.1
        have hor : (2 * (k : Int) + 2 < (c : Int)) ∨ ((c : Int) ≤ 2 * (k : Int) + 2 ∧ (l : Int) ≤ (c : Int)) := by omega
        by_cases hfk : f = k
        · subst hfk
          rcases hor with h1 | ⟨h1, h2⟩
          all_goals
            go_wp2
            (try simp only [Exit.inBlock, Exit.then])
            refine bodyPost_ret (results_none rfl _ _ _) rfl ?_
            exact ⟨rfl, pl', tr', HH.out, HC.out, sink_end HL.out fun c' h1 h2 => HEND.out c' (.inr h1) h2 (by omega), HS.out, HFF.out⟩
        · have hne : ((f : Int) == (k : Int)) = false := by simp; omega
          have hfl : f < tr'.length := by have := HF1.out; omega
          have hfc : f = 2 * k + 1 ∨ f = 2 * k + 2 := by have := HF1.out; omega
          have HFK := Lib.hid hfk
          have HFL := Lib.hid hfl
          have HFC := Lib.hid hfc
          have hfb2 : f ≤ 100000 := by have := HLL.out; omega
          clear hfk hfl hfc
          rcases hor with h1 | ⟨h1, h2⟩
          all_goals
            go_wp2_with fail
            refine (swap_hp HH.out HC.out.rng k f (by have := HFC.out; have := HFL.out; omega) HFL.out).mono ?_
            rintro e w1 ⟨rfl, h1, f1⟩
            have H1 := Lib.hid h1
            have F1 := Lib.hid (HFF.out.trans f1 NewF.refl)
            have HL1 : Hid (SinkI sc (swp tr' k f) K f) := Lib.hid (sink_step HL.out HFC.out HFL.out (HEND.out k (.inl rfl) (by have := HFC.out; have := HFL.out; omega) (by have := HFK.out; omega)) fun c' h1 h2 h3 => HEND.out c' (.inr h1) h2 h3)
            have HKL : Hid (k < tr'.length) := Lib.hid (by have := HFC.out; have := HFL.out; omega)
            clear h1 f1
            go_wp2_with fail
            go_roundg (tr.length - f + 1)
            case measure => have := HFC.out; have := HFL.out; have := HLL.out; have := HLT.out; omega
            case rel => exact ⟨f, _, _, rfl, rfl, hfb2, H1, Lib.hid (HC.out.swp HKL.out HFL.out), HL1, Lib.hid (HS.out.trans (Sm.swp HKL.out HFL.out)), F1⟩
end
end Go.Proofs.Ytnimmlfccgnneaa
