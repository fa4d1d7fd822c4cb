/- The statements' example of a trail. -/
import Derived.Test.YtihljekdipengaaTrl6
namespace Go.Proofs.Ytihljekdipengaa
open Go.RowKit
set_option linter.unusedVariables false
set_option linter.unusedSimpArgs false

theorem Tn.sz {ts : List TypeId} {base P : Nat} {w w' : World} (h : Tn ts base P w w') (hB : base ≤ w.heap.size) : base ≤ w'.heap.size := Nat.le_trans hB h.low.size

set_option maxRecDepth 20000 in
set_option maxHeartbeats 4000000 in
theorem fit_any (w : World) : Calls Try.prog 7 #[] w fun e w' => e = .returned (.bool true) ∧ Below w.heap.size w w' := by
  obtain ⟨t0, h0⟩ : ∃ t, TS.fresh 2 = t := ⟨_, rfl⟩
  obtain ⟨t1, h1⟩ : ∃ t : TS, t = ⟨[⟨-2, 1, -1⟩], [0], [false, false]⟩ := ⟨_, rfl⟩
  obtain ⟨t2, h2⟩ : ∃ t : TS, t = ⟨[⟨-2, 1, -1⟩, ⟨1, 1, 7⟩], [0], [true, false]⟩ := ⟨_, rfl⟩
  obtain ⟨t3, h3⟩ : ∃ t : TS, t = ⟨[], [], [true, false]⟩ := ⟨_, rfl⟩
  have hn := new_any 2 (by omega)
  simp only [Int.cast_ofNat_Int] at hn
  rw [h0] at hn
  have HN := Lib.hid hn
  have A1 := Lib.hid (show t0.dec (-2) = t1 ∧ t0.takes (-2) = true by subst h0 h1; exact ⟨by rfl, by rfl⟩)
  have A2 := Lib.hid (show t1.put 1 7 = t2 ∧ t1.takes 1 = true by subst h1 h2; exact ⟨by rfl, by rfl⟩)
  have A3 := Lib.hid (show t2.put (-1) 3 = t2 ∧ t2.takes (-1) = false by subst h2; exact ⟨by rfl, by rfl⟩)
  have A4 := Lib.hid (show t2.back 0 = t3 ∧ t2.gone 0 = [1, -2] by subst h2 h3; exact ⟨by rfl, by rfl⟩)
  have A5 := Lib.hid (show t2.starts.length = 1 ∧ decide (t2.recs.length = t2.ph.length) = true ∧ valT t2.recs 1 = 1 ∧ valT t2.recs 2 = -1 ∧ whyT t2.recs (-1) = 7 ∧ placeT t2.recs 2 = 0 by subst h2; exact ⟨by rfl, by rfl, by rfl, by rfl, by rfl, by rfl⟩)
  have A6 := Lib.hid (show t3.recs.length = 0 ∧ phT t3.ph 1 = true ∧ phT t3.ph 2 = false ∧ valT t3.recs 1 = 0 by subst h3; exact ⟨by rfl, by rfl, by rfl, by rfl⟩)
  clear h0 h1 h2 h3
  go_enter Try.func7, Try.ntmps7
  go_wp2_with fail
  refine (HN.out w).mono ?_
  rintro e w1 ⟨g, P, rfl, h, hb⟩
  have T1 := Lib.hid h
  have B1 := Lib.hid hb
  have S1 := Lib.hid hb.size
  clear h hb
  go_wp2_with fail
  refine (decide_any T1.out S1.out (-2) (by omega)).mono ?_
  rintro e w2 ⟨rfl, h, hb⟩
  rw [A1.out.2]
  rw [A1.out.1] at h
  have T2 := Lib.hid h
  have B2 := Lib.hid (B1.out.trans hb.low)
  have S2 := Lib.hid (hb.sz S1.out)
  clear h hb
  go_wp2_with fail
  refine (put_any T2.out S2.out 1 7 (by omega)).mono ?_
  rintro e w3 ⟨rfl, h, hb⟩
  rw [A2.out.2]
  rw [A2.out.1] at h
  have T3 := Lib.hid h
  have B3 := Lib.hid (B2.out.trans hb.low)
  have S3 := Lib.hid (hb.sz S2.out)
  clear h hb
  go_wp2_with fail
  refine (put_any T3.out S3.out (-1) 3 (by omega)).mono ?_
  rintro e w4 ⟨rfl, h, hb⟩
  rw [A3.out.2]
  rw [A3.out.1] at h
  have T4 := Lib.hid h
  have B4 := Lib.hid (B3.out.trans hb.low)
  have S4 := Lib.hid (hb.sz S3.out)
  clear h hb
  go_wp2_with fail
  refine (level_any T4.out).mono ?_
  rintro e wq ⟨rfl, rfl⟩
  rw [A5.out.1]
  go_wp2_with fail
  refine (full_any T4.out).mono ?_
  rintro e w5 ⟨rfl, hw⟩
  rw [A5.out.2.1]
  have T5 := Lib.hid (T4.out.drewE hw)
  have B5 := Lib.hid (show Below w.heap.size w w5 by obtain ⟨m, rfl⟩ := hw; exact below_drewN B4.out m)
  have S5 := Lib.hid (show w.heap.size ≤ w5.heap.size by obtain ⟨m, rfl⟩ := hw; exact S4.out)
  clear hw
  go_wp2_with fail
  refine (value_any T5.out 1 (by omega)).mono ?_
  rintro e w6 ⟨rfl, hw⟩
  rw [A5.out.2.2.1]
  have T6 := Lib.hid (T5.out.drewE hw)
  have B6 := Lib.hid (show Below w.heap.size w w6 by obtain ⟨m, rfl⟩ := hw; exact below_drewN B5.out m)
  have S6 := Lib.hid (show w.heap.size ≤ w6.heap.size by obtain ⟨m, rfl⟩ := hw; exact S5.out)
  clear hw
  go_wp2_with fail
  refine (value_any T6.out 2 (by omega)).mono ?_
  rintro e w7 ⟨rfl, hw⟩
  rw [A5.out.2.2.2.1]
  have T7 := Lib.hid (T6.out.drewE hw)
  have B7 := Lib.hid (show Below w.heap.size w w7 by obtain ⟨m, rfl⟩ := hw; exact below_drewN B6.out m)
  have S7 := Lib.hid (show w.heap.size ≤ w7.heap.size by obtain ⟨m, rfl⟩ := hw; exact S6.out)
  clear hw
  go_wp2_with fail
  refine (reason_any T7.out (-1) (by omega)).mono ?_
  rintro e w8 ⟨rfl, hw⟩
  rw [A5.out.2.2.2.2.1]
  have T8 := Lib.hid (T7.out.drewE hw)
  have B8 := Lib.hid (show Below w.heap.size w w8 by obtain ⟨m, rfl⟩ := hw; exact below_drewN B7.out m)
  have S8 := Lib.hid (show w.heap.size ≤ w8.heap.size by obtain ⟨m, rfl⟩ := hw; exact S7.out)
  clear hw
  go_wp2_with fail
  refine (place_any T8.out 2 (by omega)).mono ?_
  rintro e w9 ⟨rfl, hw⟩
  rw [A5.out.2.2.2.2.2]
  have T9 := Lib.hid (T8.out.drewE hw)
  have B9 := Lib.hid (show Below w.heap.size w w9 by obtain ⟨m, rfl⟩ := hw; exact below_drewN B8.out m)
  have S9 := Lib.hid (show w.heap.size ≤ w9.heap.size by obtain ⟨m, rfl⟩ := hw; exact S8.out)
  clear hw
  go_wp2_with fail
  refine (back_any T9.out S9.out 0).mono ?_
  rintro e w10 ⟨A9, c9, rfl, ho, h, hb⟩
  rw [A4.out.2] at ho ⊢
  rw [A4.out.1] at h
  have T10 := Lib.hid h
  have B10 := Lib.hid (B9.out.trans hb.low)
  have S10 := Lib.hid (hb.sz S9.out)
  obtain ⟨L, rfl, hL1, hL2⟩ := own_addr ho (by decide)
  have q0 := World.ownsRow.cellAt ho 0 (by decide)
  have q1 := World.ownsRow.cellAt ho 1 (by decide)
  simp at q0 q1
  clear h hb ho
  simp only [List.length_cons, List.length_nil]
  go_wp2_with fail
  refine (len_any T10.out).mono ?_
  rintro e wq ⟨rfl, rfl⟩
  rw [A6.out.1]
  go_wp2_with fail
  refine (phase_any T10.out 1).mono ?_
  rintro e w11 ⟨rfl, hw⟩
  rw [A6.out.2.1]
  have T11 := Lib.hid (T10.out.drewE hw)
  have B11 := Lib.hid (show Below w.heap.size w w11 by obtain ⟨m, rfl⟩ := hw; exact below_drewN B10.out m)
  have S11 := Lib.hid (show w.heap.size ≤ w11.heap.size by obtain ⟨m, rfl⟩ := hw; exact S10.out)
  clear hw
  go_wp2_with fail
  refine (phase_any T11.out 2).mono ?_
  rintro e w12 ⟨rfl, hw⟩
  rw [A6.out.2.2.1]
  have T12 := Lib.hid (T11.out.drewE hw)
  have B12 := Lib.hid (show Below w.heap.size w w12 by obtain ⟨m, rfl⟩ := hw; exact below_drewN B11.out m)
  have S12 := Lib.hid (show w.heap.size ≤ w12.heap.size by obtain ⟨m, rfl⟩ := hw; exact S11.out)
  clear hw
  go_wp2_with fail
  refine (value_any T12.out 1 (by omega)).mono ?_
  rintro e w13 ⟨rfl, hw⟩
  rw [A6.out.2.2.2]
  have T13 := Lib.hid (T12.out.drewE hw)
  have B13 := Lib.hid (show Below w.heap.size w w13 by obtain ⟨m, rfl⟩ := hw; exact below_drewN B12.out m)
  have S13 := Lib.hid (show w.heap.size ≤ w13.heap.size by obtain ⟨m, rfl⟩ := hw; exact S12.out)
  clear hw
  go_wp2
  go_ret
  exact ⟨rfl, B13.out⟩
end Go.Proofs.Ytihljekdipengaa
