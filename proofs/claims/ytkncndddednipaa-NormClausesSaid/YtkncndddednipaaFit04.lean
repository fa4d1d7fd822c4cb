/- The anchor of the fourth layer: one clause, through three calls. -/
import Derived.Test.YtkncndddednipaaNorm3
namespace Go.Proofs.Ytkncndddednipaa
open Go.RowKit

theorem lits3 (a b c : Int) (ha : -10 ≤ a ∧ a ≤ 10) (hb : -10 ≤ b ∧ b ≤ 10) (hc : -10 ≤ c ∧ c ≤ 10) : Lits [a, b, c] := ⟨by simp, fun x hx => by
  simp at hx
  rcases hx with rfl | rfl | rfl <;> omega⟩
theorem lits2 (a b : Int) (ha : -10 ≤ a ∧ a ≤ 10) (hb : -10 ≤ b ∧ b ≤ 10) : Lits [a, b] := ⟨by simp, fun x hx => by
  simp at hx
  rcases hx with rfl | rfl <;> omega⟩

set_option maxRecDepth 100000 in
theorem fit04_any (w : World) :
    Calls Try.prog 8 #[] w fun e w' => e = .returned (.bool true) ∧ Below w.heap.size w w' := by
  go_enter Try.func8, Try.ntmps8
  go_wp2_with fail
  obtain ⟨w1, hw1⟩ : ∃ w1, w1 = w.alloc (Obj.cells #[Value.int IntKind.i64 2, Value.int IntKind.i64 (-1), Value.int IntKind.i64 2] 3) := ⟨_, rfl⟩
  rw [← hw1]
  have hI : Ints w1 w1.heap.size (some ⟨w.heap.size, 0, none⟩) [2, -1, 2] := by rw [hw1]; exact ints_blk4 (xs := [2, -1, 2]) (Blk.new w 3 _) (by simp)
  have HB1 := Lib.hid (show Below w.heap.size w w1 by rw [hw1]; exact (Below.refl _ _).alloc (Nat.le_refl _) _)
  clear hw1
  have hr : Calls Try.prog 10 #[.slice (some ⟨w.heap.size, 0, none⟩) 3 3] w1 (OwnInts [-1, 2] w1) := norm_clause_any [2, -1, 2] _ _ 3 w1 (lits3 _ _ _ (by omega) (by omega) (by omega)) hI (Nat.le_refl _)
  refine hr.mono ?_
  clear hr hI
  rintro e w2 ⟨A2, c2, rfl, hown, hb⟩
  obtain ⟨g, rfl, hg1, hg2⟩ := own_addr hown (by simp)
  have d0 := World.ownsRow.cellAt hown 0 (by simp)
  have d1 := World.ownsRow.cellAt hown 1 (by simp)
  simp at d0 d1
  have HI2 := Lib.hid (ints_of_own hown)
  have HB2 := Lib.hid (HB1.out.trans (hb.mono HB1.out.size))
  clear hown hb
  go_wp2_with fail
  clear d0 d1
  obtain ⟨w3, hw3⟩ : ∃ w3, w3 = w2.alloc (Obj.cells #[Value.int IntKind.i64 1, Value.int IntKind.i64 2, Value.int IntKind.i64 (-1)] 3) := ⟨_, rfl⟩
  rw [← hw3]
  have hI : Ints w3 w3.heap.size (some ⟨w2.heap.size, 0, none⟩) [1, 2, -1] := by rw [hw3]; exact ints_blk4 (xs := [1, 2, -1]) (Blk.new w2 3 _) (by simp)
  have HI3 : Hid (Ints w3 w2.heap.size (some ⟨g, 0, none⟩) [-1, 2]) := Lib.hid (by rw [hw3]; exact Cells.alloc HI2.out (Nat.le_refl _) _)
  have HB3 := Lib.hid (show Below w.heap.size w w3 by rw [hw3]; exact HB2.out.alloc HB2.out.size _)
  have hs3 : w2.heap.size ≤ w3.heap.size := by rw [hw3]; simp
  clear hw3
  have hr : Calls Try.prog 13 #[.slice (some ⟨w2.heap.size, 0, none⟩) 3 3] w3 fun e w' => e = .returned (.bool true) ∧ Below w3.heap.size w3 w' :=
    tautology_any [1, 2, -1] _ _ 3 w3 (lits3 _ _ _ (by omega) (by omega) (by omega)) hI (Nat.le_refl _)
  refine hr.mono ?_
  clear hr hI
  rintro e w4 ⟨rfl, hb⟩
  have HI4 : Hid (Ints w4 w2.heap.size (some ⟨g, 0, none⟩) [-1, 2]) := Lib.hid (Cells.below HI3.out (hb.mono hs3))
  have HB4 := Lib.hid (HB3.out.trans (hb.mono HB3.out.size))
  have hs4 := hb.size
  clear hb
  go_wp2_with fail
  have hr : Calls Try.prog 13 #[.slice (some ⟨g, 0, none⟩) 2 c2] w4 fun e w' => e = .returned (.bool false) ∧ Below w4.heap.size w4 w' :=
    tautology_any [-1, 2] _ _ c2 w4 (lits2 _ _ (by omega) (by omega)) HI4.out (by omega)
  refine hr.mono ?_
  clear hr
  rintro e w5 ⟨rfl, hb⟩
  have HI5 : Hid (Ints w5 w2.heap.size (some ⟨g, 0, none⟩) [-1, 2]) := Lib.hid (Cells.below HI4.out (hb.mono (by omega)))
  have HB5 := Lib.hid (HB4.out.trans (hb.mono HB4.out.size))
  have hs5 := hb.size
  clear hb
  go_wp2_with fail
  obtain ⟨w6, hw6⟩ : ∃ w6, w6 = w5.alloc (Obj.cells #[Value.int IntKind.i64 2, Value.int IntKind.i64 (-1)] 3) := ⟨_, rfl⟩
  rw [← hw6]
  have hI : Ints w6 w6.heap.size (some ⟨w5.heap.size, 0, none⟩) [2, -1] := by rw [hw6]; exact ints_blk4 (xs := [2, -1]) (Blk.new w5 3 _) (by simp)
  have hI6 : Ints w6 w2.heap.size (some ⟨g, 0, none⟩) [-1, 2] := by rw [hw6]; exact Cells.alloc HI5.out (by omega) _
  have HB6 := Lib.hid (show Below w.heap.size w w6 by rw [hw6]; exact HB5.out.alloc HB5.out.size _)
  have hs6 : w5.heap.size ≤ w6.heap.size := by rw [hw6]; simp
  clear hw6
  have hr : Calls Try.prog 14 #[.slice (some ⟨g, 0, none⟩) 2 c2, .slice (some ⟨w5.heap.size, 0, none⟩) 2 2] w6 fun e w' => e = .returned (.bool true) ∧ Below w6.heap.size w6 w' :=
    same_norm_any [-1, 2] [2, -1] _ _ _ _ c2 2 w6 (lits2 _ _ (by omega) (by omega)) (lits2 _ _ (by omega) (by omega)) hI6 hI (by omega) (Nat.le_refl _)
  refine hr.mono ?_
  clear hr hI hI6
  rintro e w7 ⟨rfl, hb⟩
  have HB7 := Lib.hid (HB6.out.trans (hb.mono HB6.out.size))
  clear hb
  go_wp2
  go_ret
  exact ⟨rfl, HB7.out⟩
end Go.Proofs.Ytkncndddednipaa
