/- Proofs have the texts and bytes that the document says, and come back from both. -/
import Derived.Test.YtdehlikmefpgnaaDoorProof06b
import Derived.Test.YtdehlikmefpgnaaDoorBytes06
import Derived.Deep.RegionHeld3
namespace Go.Proofs.YtdehlikmefpgnaaDoor
open Go.RowKit
set_option linter.unusedSimpArgs false
set_option linter.unusedVariables false
set_option linter.unnecessarySimpa false

/-- steps that lie below a block, with what a walk needs of them -/
structure Lies (w : World) (A : Option Addr) (ps : List Stp) : Prop where
  steps : Steps w w.heap.size A ps
  right : stpsRight ps = true
  light : weight ps ≤ 1000
theorem Lies.later {w w' : World} {A : Option Addr} {ps : List Stp} (h : Lies w A ps) (hb : Below w.heap.size w w') : Lies w' A ps := ⟨(h.steps.below hb).more hb.size, h.right, h.light⟩
theorem Lies.len {w : World} {A : Option Addr} {ps : List Stp} (h : Lies w A ps) : ps.length ≤ 1000 := Nat.le_trans (weight_len ps) h.light
theorem Lies.lens {w : World} {A : Option Addr} {ps : List Stp} (h : Lies w A ps) (j : Nat) : (ps.getD j stp0).2.length ≤ 1099511627776 := by have := weight_each (xs := ps) j; have := h.light; omega
theorem Lies.txt {w : World} {A : Option Addr} {ps : List Stp} (h : Lies w A ps) : (txtOf ps).length ≤ 8000 := by have := txt_weight h.right; have := h.light; omega
theorem Lies.bin {w : World} {A : Option Addr} {ps : List Stp} (h : Lies w A ps) : (binOf ps).length ≤ 3000 := by have := bin_weight h.right; have := h.light; omega

/-- the calls that the statements make of proofs, at any later world -/
theorem text_at {w w' : World} {A : Option Addr} {ps : List Stp} {m : Int} (h : Lies w A ps) (hE : EnvN m w) (hb : Below w.heap.size w w') (c : Nat) :
    Calls Tryd.prog 13 #[.slice A ps.length c] w' fun e w'' => e = .returned (.string ⟨(txtOf ps).toArray⟩) ∧ Below w'.heap.size w' w'' :=
  text_any ps m w'.heap.size c A w' (h.later hb).steps (Nat.le_refl _) h.right (hE.same hb) (by have := h.txt; omega)
theorem text6_at {w w' : World} {A : Option Addr} {ps : List Stp} {m : Int} (h : Lies w A ps) (hE : EnvN m w) (hb : Below w.heap.size w w') (c : Nat) :
    Calls Tryd.prog 17 #[.slice A ps.length c] w' fun e w'' => e = .returned (.string ⟨(txtOf ps).toArray⟩) ∧ Below w'.heap.size w' w'' :=
  text6_any ps m w'.heap.size c A w' (h.later hb).steps (Nat.le_refl _) h.right (hE.same hb) (by have := h.txt; omega)
theorem binary_at {w w' : World} {A : Option Addr} {ps : List Stp} (h : Lies w A ps) (hb : Below w.heap.size w w') (c : Nat) :
    Calls Tryd.prog 14 #[.slice A ps.length c] w' (OwnBytes w'.heap.size (binOf ps) w') :=
  binary_any ps w'.heap.size c A w' (h.later hb).steps (Nat.le_refl _) h.right (by have := h.len; omega) (by have := h.bin; omega)
theorem binary6_at {w w' : World} {A : Option Addr} {ps : List Stp} (h : Lies w A ps) (hb : Below w.heap.size w w') (c : Nat) :
    Calls Tryd.prog 18 #[.slice A ps.length c] w' fun e w'' => e = .returned (.string ⟨(binOf ps).toArray⟩) ∧ Below w'.heap.size w' w'' :=
  binary6_any ps w'.heap.size c A w' (h.later hb).steps (Nat.le_refl _) h.right (by have := h.bin; omega)
theorem same6_at {w w' : World} {A A' : Option Addr} {ps qs : List Stp} (h : Lies w A ps) (h' : Lies w A' qs) (hb : Below w.heap.size w w') (c c' : Nat) :
    Calls Tryd.prog 19 #[.slice A ps.length c, .slice A' qs.length c'] w' fun e w'' => e = .returned (.bool (decide (ps = qs))) ∧ Below w'.heap.size w' w'' :=
  (same6_any ps qs w'.heap.size c c' A A' w' (h.later hb).steps (h'.later hb).steps (by have := h.len; omega) (by have := h'.len; omega) h.lens h'.lens).mono fun e w'' ⟨he, n, hw⟩ => ⟨he, by rw [hw]; exact below_drewN (Below.refl _ _) n⟩
theorem sameProof_at {w w' : World} {A A' : Option Addr} {ps qs : List Stp} (h : Lies w A ps) (h' : Lies w A' qs) (hb : Below w.heap.size w w') (c c' : Nat) :
    Calls Tryd.prog 20 #[.slice A ps.length c, .slice A' qs.length c'] w' fun e w'' => e = .returned (.bool (decide (ps = qs))) ∧ Below w'.heap.size w' w'' :=
  sameProof_any ps qs w'.heap.size c c' A A' w' (h.later hb).steps (h'.later hb).steps (Nat.le_refl _) (by have := h.len; omega) (by have := h'.len; omega) h.lens h'.lens
/-- what is parsed out of a proof's text, or bytes -/
theorem parseText_at {w : World} {ps : List Stp} {m : Int} (hr : stpsRight ps = true) (hl : weight ps ≤ 1000) (hE : EnvN m w) :
    Calls Tryd.prog 15 #[.string ⟨(txtOf ps).toArray⟩] w fun e w'' => ∃ A c, e = .returned (.tuple #[.slice A ps.length c, .int .i64 0]) ∧ Lies w'' A ps ∧ Below w.heap.size w w'' := by
  refine (parseText_any (txtOf ps) m w (by have := txt_weight hr; omega) hE).mono fun e w'' ⟨hb, hcase⟩ => ?_
  rcases hcase with ⟨qs, A, c, rfl, h1, h2⟩ | ⟨rfl, h1⟩
  · obtain ⟨h3, _⟩ := txt_self hr h1
    injection h3 with h3
    subst h3
    exact ⟨A, c, rfl, ⟨h2.steps, hr, hl⟩, hb⟩
  · have := (txt_self hr h1).1
    cases this
theorem parseBin_at {w : World} {ps : List Stp} {B c : Nat} {A : Option Addr} (hr : stpsRight ps = true) (hl : weight ps ≤ 1000) (h : Bytes w B A (binOf ps)) (hB : B ≤ w.heap.size) (hc : (binOf ps).length ≤ c) :
    Calls Tryd.prog 16 #[.slice A (binOf ps).length c] w fun e w'' => ∃ A c, e = .returned (.tuple #[.slice A ps.length c, .int .i64 0]) ∧ Lies w'' A ps ∧ Below w.heap.size w w'' := by
  refine (parseBinary_any (binOf ps) B c A w h hB hc (by have := bin_weight hr; omega)).mono fun e w'' ⟨hb, hcase⟩ => ?_
  rcases hcase with ⟨qs, A, c, rfl, h1, h2⟩ | ⟨k, rfl, h1, h2⟩
  · obtain ⟨h3, _⟩ := bin_self hr h1
    injection h3 with h3
    subst h3
    exact ⟨A, c, rfl, ⟨h2.steps, hr, hl⟩, hb⟩
  · exact absurd (bin_self hr h1).2 h2

set_option maxRecDepth 100000 in
set_option maxHeartbeats 8000000 in
theorem back6_any (xs : List Stp) (c : Nat) (A : Option Addr) (m : Int) (w : World) (hE : EnvN m w) (h : KSteps .i32 w w.heap.size A xs) (hl : xs.length ≤ 140737488355328) (hx : ∀ j, (xs.getD j stp0).2.length ≤ 140737488355328)
    (hb : ∀ j i, -2147483648 ≤ (xs.getD j stp0).2.getD i 0 ∧ (xs.getD j stp0).2.getD i 0 ≤ 2147483647) :
    Calls Tryd.prog 3 #[.slice A xs.length c] w fun e w' => e = .returned (.bool true) ∧ Below w.heap.size w w' := by
  have FT := Lib.hid (fit06_any m w hE)
  have HE := Lib.hid hE
  have H := Lib.hid h
  have HX := Lib.hid hx
  have HBD := Lib.hid hb
  clear hE h hx hb
  go_enter Tryd.func3, Tryd.ntmps3
  go_wp2_with fail
  refine FT.out.mono ?_
  rintro e w1 ⟨rfl, hb1⟩
  have HB1 := Lib.hid hb1
  have hs1 := hb1.size
  have SM := Lib.hid (small6_any xs w.heap.size c A w1 (H.out.below hb1) hs1 hl HX.out)
  clear FT hb1
  go_wp2_with fail
  refine SM.out.mono ?_
  rintro e w2 ⟨q, rfl, hq, hb2⟩
  have HB2 := Lib.hid (HB1.out.trans (hb2.mono hs1))
  clear hb2 SM
  cases q with
  | false =>
    clear hq
    go_wp2
    go_ret
    exact ⟨rfl, HB2.out⟩
  | true =>
    have hw := hq rfl
    have PR := Lib.hid (proof6_any xs w.heap.size c A w2 (H.out.below HB2.out) HB2.out.size hw HBD.out)
    have hr := litsOf_right xs
    have hwt := litsOf_weight xs
    have HR := Lib.hid hr
    have HWT := Lib.hid (show weight (litsOf xs) ≤ 1000 by omega)
    generalize litsOf xs = ps at PR HR HWT hr hwt
    clear hq hr hwt hw
    go_wp2_with fail
    refine PR.out.mono ?_
    rintro e w3 ⟨Ap, cp, rfl, hown, hb3⟩
    have hps : Lies w3 Ap ps := ⟨hown.steps, HR.out, HWT.out⟩
    have HB3 := Lib.hid (HB2.out.trans (hb3.mono HB2.out.size))
    have HPS := Lib.hid hps
    clear hown hb3 hps PR
    have TX := Lib.hid (text_at HPS.out (HE.out.same HB3.out) (Below.refl _ _) cp)
    go_wp2_with fail
    refine TX.out.mono ?_
    rintro e w4 ⟨rfl, hb4⟩
    have HB4 := Lib.hid (HB3.out.trans (hb4.mono HB3.out.size))
    have HP4 := Lib.hid (HPS.out.later hb4)
    clear hb4 TX HPS
    have BI := Lib.hid (binary_at HP4.out (Below.refl _ _) cp)
    go_wp2_with fail
    refine BI.out.mono ?_
    rintro e w5 ⟨Ab, cb, rfl, hownb, hb5⟩
    have HB5 := Lib.hid (HB4.out.trans (hb5.mono HB4.out.size))
    have HP5 := Lib.hid (HP4.out.later hb5)
    have hby := bytes_of_own hownb
    have hcb := own_cap hownb
    have HBY := Lib.hid hby
    have HCB := Lib.hid hcb
    clear hb5 hownb hby hcb BI HP4
    have PT := Lib.hid (parseText_at HR.out HWT.out (HE.out.same HB5.out))
    go_wp2_with fail
    refine PT.out.mono ?_
    rintro e w6 ⟨Aq, cq, rfl, hlq, hb6⟩
    have HB6 := Lib.hid (HB5.out.trans (hb6.mono HB5.out.size))
    have HP6 := Lib.hid (HP5.out.later hb6)
    have HQ6 := Lib.hid hlq
    have HBY6 := Lib.hid (HBY.out.below hb6)
    have hz6 := hb6.size
    clear hb6 hlq PT HP5
    have PB := Lib.hid (parseBin_at HR.out HWT.out HBY6.out hz6 HCB.out)
    go_wp2_with fail
    refine PB.out.mono ?_
    rintro e w7 ⟨Ar, cr, rfl, hlr, hb7⟩
    have HB7 := Lib.hid (HB6.out.trans (hb7.mono HB6.out.size))
    have HP7 := Lib.hid (HP6.out.later hb7)
    have HQ7 := Lib.hid (HQ6.out.later hb7)
    have HR7 := Lib.hid hlr
    have HBY7 := Lib.hid (Cells.below HBY6.out (hb7.mono hz6))
    have hz7 : w5.heap.size ≤ w7.heap.size := by have := hb7.size; omega
    clear hb7 hlr PB HP6 HQ6
    have T6 := Lib.hid (fun w' hb => text6_at HP7.out (HE.out.same HB7.out) (w' := w') hb cp)
    have B6 := Lib.hid (fun w' hb => binary6_at HP7.out (w' := w') hb cp)
    have S1 := Lib.hid (fun w' hb => same6_at HP7.out HQ7.out (w' := w') hb cp cq)
    have S2 := Lib.hid (fun w' hb => same6_at HP7.out HR7.out (w' := w') hb cp cr)
    have S3 := Lib.hid (fun w' hb => sameProof_at HP7.out HQ7.out (w' := w') hb cp cq)
    have KE := Lib.hid (fun w' (hb : Below w7.heap.size w7 w') => run_bytes_string (HBY7.out.below (hb.mono hz7)) cb)
    rw [decide_eq_true (rfl : ps = ps)] at S1 S2 S3
    obtain ⟨tx, htx⟩ : ∃ tx, tx = txtOf ps := ⟨_, rfl⟩
    obtain ⟨bx, hbx⟩ : ∃ bx, bx = binOf ps := ⟨_, rfl⟩
    rw [← htx] at T6 ⊢
    rw [← hbx] at B6 KE ⊢
    have k0 := KE.out w7 (Below.refl _ _)
    clear htx hbx
    go_wp2_with fail
    go_region_held3 (fun w' => (convert 28 9 (.slice Ab bx.length cb)).run Tryd.prog w' = .ok (.string ⟨bx.toArray⟩) w')
      (first | exact KK12.out | exact KK11.out | exact KK10.out | exact KK9.out | exact KK8.out | exact k0 | exact KE.out _ (Below.refl _ _).drew | go_keep)
      (first
        | (go_at_call 17; refine (T6.out w7.drew (Below.refl _ _).drew).mono ?_; rintro e w8 ⟨rfl, hb8'⟩; have HB8 := Lib.hid (below_undrew hb8'); have KK8 := Lib.hid (KE.out w8 HB8.out); clear hb8')
        | (go_at_call 18; refine (B6.out w8 HB8.out).mono ?_; rintro e w9 ⟨rfl, hb9'⟩; have HB9 := Lib.hid (HB8.out.trans (hb9'.mono HB8.out.size)); have KK9 := Lib.hid (KE.out w9 HB9.out); clear hb9')
        | (go_at_call 19; (with_reducible refine (S1.out w9 HB9.out).mono ?_); rintro e w10 ⟨rfl, hb10'⟩; have HB10 := Lib.hid (HB9.out.trans (hb10'.mono HB9.out.size)); have KK10 := Lib.hid (KE.out w10 HB10.out); clear hb10')
        | (go_at_call 19; (with_reducible refine (S2.out w10 HB10.out).mono ?_); rintro e w11 ⟨rfl, hb11'⟩; have HB11 := Lib.hid (HB10.out.trans (hb11'.mono HB10.out.size)); have KK11 := Lib.hid (KE.out w11 HB11.out); clear hb11')
        | (go_at_call 20; refine (S3.out w11 HB11.out).mono ?_; rintro e w12 ⟨rfl, hb12'⟩; have HB12 := Lib.hid (HB11.out.trans (hb12'.mono HB11.out.size)); have KK12 := Lib.hid (KE.out w12 HB12.out); clear hb12'))
    go_wp2_with fail
    go_ret
    exact ⟨by simp, HB7.out.trans (HB12.out.mono HB7.out.size)⟩
end Go.Proofs.YtdehlikmefpgnaaDoor
