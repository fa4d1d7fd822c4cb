/- What package ticks answers: what goes up, what is made anew. -/
import Derived.Test.YtipanbiackidgaaTick2
namespace Go.Proofs.Ytipanbiackidgaa
open Go.RowKit
set_option linter.unusedVariables false
set_option linter.unusedSimpArgs false

theorem below_drewE10 {B : Nat} {a w w' : World} (h : Below B a w) (hd : ∃ n, w' = w.drewN n) : Below B a w' := by
  obtain ⟨n, rfl⟩ := hd
  exact below_drewN h n
theorem Cnt.drew {w w' : World} {b v m : Nat} (h : Cnt w b v m) (hd : ∃ n, w' = w.drewN n) : Cnt w' b v m := by
  obtain ⟨n, rfl⟩ := hd
  exact ⟨h.1.drewN n, h.2⟩
theorem Cnt.below {w w' : World} {b v m B : Nat} (h : Cnt w b v m) (hb : Below B w w') (hB : b < B) : Cnt w' b v m := ⟨h.1.below hb hB, h.2⟩

theorem add_any {w : World} {b v m : Nat} (h : Cnt w b v m) (n : Int) : Calls Try.prog 13 #[.pointer (some ⟨b, 0, none⟩), .int .i64 n] w fun e w' => e = .returned (.bool (!decide (m ≤ sumN v n ∧ m < 4611686018427387904))) ∧ Cnt w' b (sumN v n) m ∧ Below b w w' := by
  have c0 := h.1.cell 0
  have f0 := h.1.frozen 0
  simp at c0 f0
  have hn : Cnt (w.setCell ⟨b, 0, none⟩ (.int .i64 (sumN v n))) b (sumN v n) m := ⟨by simpa using h.1.set_ 0 (.int .i64 (sumN v n)), sumN_le _ _, h.2.2⟩
  have HN := Lib.hid hn
  have HS := Lib.hid (fun w => sum_any v n w)
  have HB := Lib.hid (show Below b w (w.setCell ⟨b, 0, none⟩ (.int .i64 (sumN v n))) from (Below.refl _ _).setCell (by simp) _)
  have HO := Lib.hid (over_any hn)
  clear h hn
  obtain ⟨s, hs⟩ : ∃ s, sumN v n = s := ⟨_, rfl⟩
  rw [hs] at HN HS HB HO ⊢
  obtain ⟨o, ho⟩ : ∃ o, decide (m ≤ s ∧ m < 4611686018427387904) = o := ⟨_, rfl⟩
  rw [ho] at HO ⊢
  clear hs ho
  go_enter Try.func13, Try.ntmps13
  go_wp2_with fail
  refine (HS.out _).mono ?_
  rintro e w1 ⟨rfl, rfl⟩
  go_wp2_with fail
  refine HO.out.mono ?_
  rintro e w2 ⟨rfl, hw2⟩
  have HW2 := Lib.hid hw2
  clear hw2
  go_wp2
  go_ret
  exact ⟨rfl, HN.out.drew HW2.out, below_drewE10 HB.out HW2.out⟩

theorem reset_any {w : World} {b : Nat} {x y : Int} (h : Blk w b 40 #[.int .i64 x, .int .i64 y]) (n : Int) : Calls Try.prog 17 #[.pointer (some ⟨b, 0, none⟩), .int .i64 n] w fun e w' => e = .returned (.tuple #[]) ∧ Cnt w' b 0 (budN n) ∧ Below b w w' := by
  have c0 := h.cell 0
  have c1 := h.cell 1
  have f0 := h.frozen 0
  have f1 := h.frozen 1
  simp at c0 c1 f0 f1
  obtain ⟨q, hq⟩ : ∃ q : Int, q = if n < 0 then 4611686018427387904 else n := ⟨_, rfl⟩
  have hqb : clampN q = budN n := by rw [hq]; unfold budN; split <;> rfl
  have HC := Lib.hid (fun w => hqb ▸ clamp_any q w)
  have hl := budN_le n
  obtain ⟨m, hm⟩ : ∃ m, budN n = m := ⟨_, rfl⟩
  rw [hm] at HC hl ⊢
  have HE : Cnt ((w.setCell ⟨b, 0, none⟩ (.int .i64 0)).setCell ⟨b, 1, none⟩ (.int .i64 m)) b 0 m := ⟨by simpa using (h.set_ 0 (.int .i64 0)).set_ 1 (.int .i64 m), by omega, hl⟩
  have HE := Lib.hid HE
  have HB := Lib.hid (show Below b w ((w.setCell ⟨b, 0, none⟩ (.int .i64 0)).setCell ⟨b, 1, none⟩ (.int .i64 m)) from ((Below.refl _ _).setCell (by simp) _).setCell (by simp) _)
  clear hqb hm h
  by_cases hn : n < 0
  · rw [if_pos hn] at hq
    subst hq
    go_enter Try.func17, Try.ntmps17
    go_wp2_with fail
    refine (HC.out _).mono ?_
    rintro e w1 ⟨rfl, rfl⟩
    go_wp2
    go_end0
    exact ⟨rfl, HE.out, HB.out⟩
  · rw [if_neg hn] at hq
    subst hq
    go_enter Try.func17, Try.ntmps17
    go_wp2_with fail
    refine (HC.out _).mono ?_
    rintro e w1 ⟨rfl, rfl⟩
    go_wp2
    go_end0
    exact ⟨rfl, HE.out, HB.out⟩

theorem new_any (n : Int) (w : World) : Calls Try.prog 12 #[.int .i64 n] w fun e w' => ∃ b, e = .returned (.pointer (some ⟨b, 0, none⟩)) ∧ w.heap.size ≤ b ∧ Cnt w' b 0 (budN n) ∧ Below w.heap.size w w' := by
  have HR := Lib.hid (reset_any (Blk.new w 40 #[.int .i64 0, .int .i64 0]) n)
  go_enter Try.func12, Try.ntmps12
  go_wp2_with fail
  refine HR.out.mono ?_
  rintro e w1 ⟨rfl, hc, hb⟩
  have HC := Lib.hid hc
  have HB := Lib.hid hb
  clear hc hb
  go_wp2
  go_ret
  exact ⟨_, rfl, Nat.le_refl _, HC.out, ((Below.refl _ _).alloc (Nat.le_refl _) _).trans HB.out⟩

theorem fit_any (w : World) : Calls Try.prog 8 #[] w fun e w' => e = .returned (.bool true) ∧ Below w.heap.size w w' := by
  have S1 := Lib.hid (fun w => (by decide : sumN 4611686018427387904 1 = 4611686018427387904) ▸ sum_any 4611686018427387904 1 w)
  have S2 := Lib.hid (fun w => (by decide : sumN 2 (-3) = 2) ▸ sum_any 2 (-3) w)
  have S3 := Lib.hid (fun w => (by decide : timesN 3 4 = 12) ▸ times_any 3 4 w)
  have S4 := Lib.hid (fun w => luby_any (Lub.last 2) (by decide) w)
  have S5 := Lib.hid (fun w => new_any 5 w)
  go_enter Try.func8, Try.ntmps8
  go_wp2_with fail
  refine (S1.out _).mono ?_
  rintro e w1 ⟨rfl, rfl⟩
  go_wp2_with fail
  refine (S2.out _).mono ?_
  rintro e w1 ⟨rfl, rfl⟩
  go_wp2_with fail
  refine (S3.out _).mono ?_
  rintro e w1 ⟨rfl, rfl⟩
  go_wp2_with fail
  refine (S4.out _).mono ?_
  rintro e w1 ⟨rfl, rfl⟩
  go_wp2_with fail
  refine (S5.out _).mono ?_
  rintro e w1 ⟨b, rfl, -, -, hb⟩
  have HB := Lib.hid hb
  clear hb
  go_wp2
  go_ret
  exact ⟨rfl, HB.out⟩
end Go.Proofs.Ytipanbiackidgaa
