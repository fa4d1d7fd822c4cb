/- The law's example. -/
import Derived.Test.YtnimmlfccgnneaaDoB16
import Derived.Test.YtnimmlfccgnneaaDeeds16
namespace Go.Proofs.Ytnimmlfccgnneaa
open Go.RowKit
set_option linter.unusedVariables false
set_option linter.unusedSimpArgs false

def e16a : SP := ⟨[0, 0, 1048576, 0, 0], [true, true, true, true, true], 1048576⟩
def e16b : SP := ⟨[0, 0, 1048576, 0, 0], [true, true, false, true, true], 1048576⟩
theorem e16_1 : (SP.fresh 5).isV 3 = true ∧ (SP.fresh 5).bump 3 = e16a := ⟨by decide, by rfl⟩
theorem e16_2 : e16a.isV 6 = false ∧ e16a.bump 6 = e16a := ⟨by decide, by rfl⟩
theorem e16_3 : ((List.range 5).filter fun k => e16a.inn.getD k false).length = 5 := by decide
theorem e16_4 : e16a.first = 3 ∧ e16a.take = e16b := ⟨by rfl, by rfl⟩
theorem e16_5 : e16b.first = 1 ∧ e16b.isIn 3 = false ∧ e16b.score 3 = 1048576 ∧ e16b.put 3 = e16a := ⟨by rfl, by rfl, by rfl, by rfl⟩
theorem e16_6 : e16b.isV 3 = true ∧ e16a.isIn 3 = true ∧ e16a.isV 3 = true := ⟨by decide, by rfl, by decide⟩

set_option maxRecDepth 100000 in
set_option maxHeartbeats 4000000 in
theorem fit_any16 (W : World) : Calls Try.prog 8 #[] W fun e W' => e = .returned (.bool true) ∧ Below W.heap.size W W' := by
  have HNEW := Lib.hid (new_st 5 (by omega) W)
  go_enter Try.func8, Try.ntmps8
  go_wp2_with fail
  refine HNEW.out.mono ?_
  rintro e w1 ⟨b, rfl, k1, k2, k3⟩
  have S1 := Lib.hid k1
  have B1 := Lib.hid k2
  have HN := Lib.hid k3
  have HSZ : Hid (W.heap.size ≤ w1.heap.size) := Lib.hid k2.size
  clear k1 k2 k3
  go_wp2_with fail
  refine (bump_st S1.out 3 (by omega)).mono ?_
  rintro e w2 ⟨rfl, k1, k2⟩
  rw [e16_1.2] at k1
  rw [e16_1.1]
  have S2 := Lib.hid k1
  have F2 := Lib.hid k2
  clear k1 k2
  go_wp2_with fail
  refine (bump_st S2.out 6 (by omega)).mono ?_
  rintro e w3 ⟨rfl, k1, k2⟩
  rw [e16_2.2] at k1
  rw [e16_2.1]
  have S3 := Lib.hid k1
  have F3 := Lib.hid (F2.out.trans k2 NewF.refl)
  clear k1 k2
  go_wp2_with fail
  refine (len_st S3.out).mono ?_
  rintro e w4 ⟨rfl, rfl⟩
  rw [e16_3]
  go_wp2_with fail
  refine (take_st S3.out).mono ?_
  rintro e w4 ⟨rfl, k1, k2⟩
  rw [e16_4.2] at k1
  rw [e16_4.1]
  have S4 := Lib.hid k1
  have F4 := Lib.hid (F3.out.trans k2 NewF.refl)
  clear k1 k2
  go_wp2_with fail
  refine (first_st S4.out).mono ?_
  rintro e w5 ⟨rfl, rfl⟩
  rw [e16_5.1]
  go_wp2_with fail
  refine (in_st S4.out 3 (by omega)).mono ?_
  rintro e w5 ⟨rfl, rfl⟩
  rw [e16_5.2.1]
  go_wp2_with fail
  refine (score_st S4.out 3 (by omega)).mono ?_
  rintro e w5 ⟨rfl, rfl⟩
  rw [e16_5.2.2.1]
  go_wp2_with fail
  refine (put_st S4.out 3 (by omega)).mono ?_
  rintro e w6 ⟨rfl, k1, k2⟩
  rw [e16_5.2.2.2] at k1
  rw [e16_5.2.1, e16_6.1]
  have S6 := Lib.hid k1
  have F6 := Lib.hid (F4.out.trans k2 NewF.refl)
  clear k1 k2
  go_wp2_with fail
  refine (put_st S6.out 3 (by omega)).mono ?_
  rintro e w7 ⟨rfl, k1, k2⟩
  rw [e16_6.2.1, e16_6.2.2]
  have F7 := Lib.hid (F6.out.trans k2 NewF.refl)
  clear k1 k2
  go_wp2
  go_ret
  exact ⟨rfl, B1.out.trans (F7.out.below HSZ.out HN.out)⟩

/-- between two rounds of a loop over deeds -/
structure Lp16 (w0 w : World) (b : HB) (m : MB) (n : Nat) (s : SP) : Prop where
  pr : Pr16 w b m n s
  fr : Below w0.heap.size w0 w
theorem Lp16.step {w0 w w' : World} {b : HB} {m : MB} {n : Nat} {s s' : SP} (h : Lp16 w0 w b m n s) (hd : Done16 w w' b m n s') (hn : ∀ q, foot2 b m q → w0.heap.size ≤ q) : Lp16 w0 w' b m n s' :=
  ⟨hd.pr, h.fr.trans (hd.ft.below h.fr.size hn)⟩
theorem Lp16.low {w0 w w' : World} {b : HB} {m : MB} {n : Nat} {s : SP} (h : Lp16 w0 w b m n s) (hb : Below w.heap.size w w') : Lp16 w0 w' b m n s := ⟨h.pr.low hb, h.fr.trans (hb.mono h.fr.size)⟩
theorem Lp16.drewN {w0 w : World} {b : HB} {m : MB} {n : Nat} {s : SP} (h : Lp16 w0 w b m n s) (k : Nat) : Lp16 w0 (w.drewN k) b m n s := ⟨⟨h.pr.st.drewN k, h.pr.md.drewN k, h.pr.dj⟩, below_drewN h.fr k⟩
theorem Lp16.set {w0 w w' : World} {b : HB} {m : MB} {n : Nat} {s : SP} (h : Lp16 w0 w b m n s) (h1 : Pr16 w' b m n s) (hf : Ft (fun q => w0.heap.size ≤ q) w w') : Lp16 w0 w' b m n s := ⟨h1, h.fr.trans (hf.below h.fr.size fun _ e => e)⟩
theorem fst_snd_dec (f : Nat) : (decide (f ≠ 0)) = decide (0 < f) := by
  by_cases h : f = 0
  · simp [h]
  · rw [decide_eq_true h, decide_eq_true (by omega)]
end Go.Proofs.Ytnimmlfccgnneaa
