/- The statements of the package of literals, walked: what they call beside the package itself. -/
import Derived.Test.YtacmgahininbhaaLit
import Derived.Test.YtacmgahininbhaaFrame
import Derived.Test.YtacmgahininbhaaBits
namespace Go.Proofs.Ytacmgahininbhaa
open Go.RowKit

/-- a number that is some literal -/
def SomeLit (w : World) (e : Ending) (w' : World) : Prop := ∃ x : Int, x ≠ 0 ∧ -100000 ≤ x ∧ x ≤ 100000 ∧ e = .returned (.int .i64 x) ∧ w = w'

theorem lit_any (n : Int) (hn : (Lit.int .i64 n).wf = true) (w : World) :
    Calls Try.prog 9 #[.int .i64 n] w (SomeLit w) := by
  have hb := bounds_i64 hn
  have b1 := i64_and_1 n
  have b2 := i64_and_1048575 (n / 2)
  clear hn
  by_cases h : n % 2 = 1
  · have h' : (n % 2 == 1) = true := by simpa using h
    clear h
    go_enter Try.func9, Try.ntmps9
    go_wp2
    go_ret
    exact ⟨-(1 + n / 2 % 1048576 % 100000), by omega, by omega, by omega, by go_unwrap; rfl, rfl⟩
  · have h' : (n % 2 == 1) = false := by simpa using h
    clear h
    go_enter Try.func9, Try.ntmps9
    go_wp2
    go_ret
    exact ⟨1 + n / 2 % 1048576 % 100000, by omega, by omega, by omega, by go_unwrap; rfl, rfl⟩

theorem fit_any (w : World) :
    Calls Try.prog 7 #[] w fun e w' => e = .returned (.bool true) ∧ Below w.heap.size w w' := by
  have i1 : litIndex (-3) = 5 := rfl
  have a1 : litAt 5 = -3 := rfl
  have q1 : litHolds (-1) 1 (fun _ => false) = true := rfl
  have r1 : litRight (-3) 3 = true := rfl
  have r2 : litRight 4 3 = false := rfl
  go_enter Try.func7, Try.ntmps7
  go_wp2_with (first
    | (go_at_call 10; ((with_reducible refine (index_any _ _ (by omega) (by omega)).mono ?_); rintro e w' ⟨rfl, rfl⟩; rw [i1]))
    | (go_at_call 11; ((with_reducible refine (at_any _ _ (by omega) (by omega)).mono ?_); rintro e w' ⟨rfl, rfl⟩; rw [a1]))
    | (go_at_call 8; ((with_reducible refine (right_any _ _ _ (by omega) (by omega) (by omega) (by omega)).mono ?_); rintro e w' ⟨rfl, rfl⟩; first | rw [r1] | rw [r2])))
  have hcell : ∀ j, j < 1 → (w.alloc (Obj.cells #[Value.bool false] 4)).cell? ⟨w.heap.size, 0 + j, none⟩ = some (.bool false) := by
    intro j hj
    obtain rfl : j = 0 := by omega
    go_cell
  refine (holds_any (-1) w.heap.size 0 1 1 (fun _ => false) _ (by omega) (by omega) (by omega) hcell).mono ?_
  rintro e w' ⟨rfl, rfl⟩
  rw [q1]
  clear hcell
  go_wp2
  go_ret
  exact ⟨rfl, (Below.refl _ _).alloc (Nat.le_refl _) _⟩

theorem rights_any (l n : Int) (w : World) (hl : (Lit.int .i64 l).wf = true) (hn : (Lit.int .i64 n).wf = true) :
    Calls Try.prog 3 #[.int .i64 l, .int .i64 n] w fun e w' => e = .returned (.bool true) ∧ Below w.heap.size w w' := by
  obtain ⟨l1, l2⟩ := bounds_i64 hl
  obtain ⟨n1, n2⟩ := bounds_i64 hn
  clear hl hn
  by_cases hp : 0 < l
  · go_enter Try.func3, Try.ntmps3
    go_wp2_with (first
      | (go_at_call 7; ((with_reducible refine (fit_any _).mono ?_); rintro e w1 ⟨rfl, hb⟩))
      | (go_at_call 8; ((with_reducible refine (right_any _ _ _ (by omega) (by omega) (by omega) (by omega)).mono ?_); rintro e w2 ⟨rfl, rfl⟩)))
    all_goals go_ret
    all_goals refine ⟨ret_bool ?_, hb⟩
    all_goals rw [Bool.eq_iff_iff]
    all_goals simp [litRight]
    all_goals first | omega | (rw [Bool.eq_iff_iff]; simp; omega)
  · by_cases hq : l < 0
    · by_cases hr : -4611686018427387904 < l
      · go_enter Try.func3, Try.ntmps3
        go_wp2_with (first
          | (go_at_call 7; ((with_reducible refine (fit_any _).mono ?_); rintro e w1 ⟨rfl, hb⟩))
          | (go_at_call 8; ((with_reducible refine (right_any _ _ _ (by omega) (by omega) (by omega) (by omega)).mono ?_); rintro e w2 ⟨rfl, rfl⟩)))
        all_goals go_ret
        all_goals refine ⟨ret_bool ?_, hb⟩
        all_goals rw [Bool.eq_iff_iff]
        all_goals simp [litRight]
        all_goals first | omega | (rw [Bool.eq_iff_iff]; simp; omega)
      · go_enter Try.func3, Try.ntmps3
        go_wp2_with (first
          | (go_at_call 7; ((with_reducible refine (fit_any _).mono ?_); rintro e w1 ⟨rfl, hb⟩))
          | (go_at_call 8; ((with_reducible refine (right_any _ _ _ (by omega) (by omega) (by omega) (by omega)).mono ?_); rintro e w2 ⟨rfl, rfl⟩)))
        all_goals go_ret
        all_goals refine ⟨ret_bool ?_, hb⟩
        all_goals rw [Bool.eq_iff_iff]
        all_goals simp [litRight]
        all_goals first | omega | (rw [Bool.eq_iff_iff]; simp; omega)
    · obtain rfl : l = 0 := by omega
      go_enter Try.func3, Try.ntmps3
      go_wp2_with (first
        | (go_at_call 7; ((with_reducible refine (fit_any _).mono ?_); rintro e w1 ⟨rfl, hb⟩))
        | (go_at_call 8; ((with_reducible refine (right_any _ _ _ (by omega) (by omega) (by omega) (by omega)).mono ?_); rintro e w2 ⟨rfl, rfl⟩)))
      all_goals go_ret
      all_goals refine ⟨ret_bool ?_, hb⟩
      all_goals rw [Bool.eq_iff_iff]
      all_goals simp [litRight]
      all_goals first | omega | (rw [Bool.eq_iff_iff]; simp; omega)


theorem indexes_any (n m : Int) (w : World) (hn : (Lit.int .i64 n).wf = true) (hm : (Lit.int .i64 m).wf = true) :
    Calls Try.prog 4 #[.int .i64 n, .int .i64 m] w fun e w' => e = .returned (.bool true) ∧ Below w.heap.size w w' := by
  go_enter Try.func4, Try.ntmps4
  go_wp2_with fail
  refine (fit_any _).mono ?_
  rintro e w1 ⟨rfl, hb⟩
  go_wp2_with fail
  refine (lit_any _ hn _).mono ?_
  rintro e w2 ⟨x, x0, x1, x2, rfl, rfl⟩
  go_wp2_with fail
  refine (lit_any _ hm _).mono ?_
  rintro e w2 ⟨y, y0, y1, y2, rfl, rfl⟩
  clear hn hm
  obtain ⟨j, hj⟩ : ∃ j, litIndex y = j := ⟨_, rfl⟩
  have hinj : litIndex x = j → x = y := fun h => litIndex_inj (by rw [h, hj])
  have hjb := litIndex_bd y1 y2 y0
  rw [hj] at hjb
  obtain ⟨j1, j2⟩ := hjb
  by_cases hx : 0 < x
  · have ix : litIndex x = 2 * x - 2 := by rw [litIndex_pos (by omega)]; omega
    have ax : litAt (2 * x - 2) = x := by rw [← ix]; exact litAt_index x
    have ix' : litIndex (-x) = 2 * x - 1 := by rw [litIndex_neg (by omega)]; omega
    have bx : bits .xor .i64 (2 * x - 2) 1 = 2 * x - 1 := by rw [i64_xor_1 _ (by omega) (by omega), if_pos (by omega)]; omega
    have vx : litVar x = x := litVar_pos (by omega)
    have vx' : litVar (-x) = x := by rw [litVar_neg (by omega)]; omega
    have hinj' : x = y → 2 * x - 2 = j := fun h => by rw [← ix, h, hj]
    have hinj2 : 2 * x - 2 = j → x = y := fun h => hinj (by rw [ix, h])
    have tri : (((2 * x - 2 == j) = false ∧ (x == y) = false) ∧ 2 * x - 2 < j ∧ cmpInt (2 * x - 2) j = -1) ∨ ((((2 * x - 2 == j) = false) ∧ (x == y) = false) ∧ j < 2 * x - 2 ∧ cmpInt (2 * x - 2) j = 1) ∨
        ((((2 * x - 2 == j) = true) ∧ (x == y) = true) ∧ 2 * x - 2 = j ∧ cmpInt (2 * x - 2) j = 0) := by
      by_cases h1 : 2 * x - 2 < j
      · refine .inl ⟨⟨?_, ?_⟩, h1, by unfold cmpInt; rw [if_pos h1]⟩
        · simp; omega
        · simp; intro h; have := hinj' h; omega
      · by_cases h2 : j < 2 * x - 2
        · refine .inr (.inl ⟨⟨?_, ?_⟩, h2, by unfold cmpInt; rw [if_neg h1, if_pos h2]⟩)
          · simp; omega
          · simp; intro h; have := hinj' h; omega
        · exact .inr (.inr ⟨⟨by simp; omega, by simp; exact hinj2 (by omega)⟩, by omega, by unfold cmpInt; rw [if_neg h1, if_neg h2]⟩)
    clear hinj hinj' hinj2
    rcases tri with ⟨⟨e1, e2⟩, e3, hc⟩ | ⟨⟨e1, e2⟩, e3, hc⟩ | ⟨⟨e1, e2⟩, e3, hc⟩
    all_goals have E3 := Lib.hid e3
    all_goals try (clear e3; have e3 := Int.le_of_eq E3.out; have e4 := Int.le_of_eq E3.out.symm)
    all_goals go_wp2_with (first
      | (go_at_call 10; ((with_reducible refine (index_any _ _ (by omega) (by omega)).mono ?_); rintro e w' ⟨rfl, rfl⟩; first | rw [ix] | rw [ix'] | rw [hj]))
      | (go_at_call 11; ((with_reducible refine (at_any _ _ (by omega) (by omega)).mono ?_); rintro e w' ⟨rfl, rfl⟩; rw [ax]))
      | (go_at_call 13; ((with_reducible refine (compare_any _ _ _ (by omega) (by omega) (by omega) (by omega)).mono ?_); rintro e w' ⟨rfl, rfl⟩; rw [ix, hj, hc]))
      | (go_at_call 12; ((with_reducible refine (var_any _ _ (by omega) (by omega)).mono ?_); rintro e w' ⟨rfl, rfl⟩; first | rw [vx] | rw [vx'])))
    all_goals go_ret
    all_goals exact ⟨rfl, hb⟩
  · have ix : litIndex x = 2 * -x - 2 + 1 := by rw [litIndex_neg (by omega)]; omega
    have ax : litAt (2 * -x - 2 + 1) = x := by rw [← ix]; exact litAt_index x
    have ix' : litIndex (-x) = 2 * -x - 2 := by rw [litIndex_pos (by omega)]; omega
    have bx : bits .xor .i64 (2 * -x - 2 + 1) 1 = 2 * -x - 2 := by rw [i64_xor_1 _ (by omega) (by omega), if_neg (by omega)]; omega
    have vx : litVar x = -x := litVar_neg (by omega)
    have vx' : litVar (-x) = -x := litVar_pos (by omega)
    have hinj' : x = y → 2 * -x - 2 + 1 = j := fun h => by rw [← ix, h, hj]
    have hinj2 : 2 * -x - 2 + 1 = j → x = y := fun h => hinj (by rw [ix, h])
    have tri : (((2 * -x - 2 + 1 == j) = false ∧ (x == y) = false) ∧ 2 * -x - 2 + 1 < j ∧ cmpInt (2 * -x - 2 + 1) j = -1) ∨ ((((2 * -x - 2 + 1 == j) = false) ∧ (x == y) = false) ∧ j < 2 * -x - 2 + 1 ∧ cmpInt (2 * -x - 2 + 1) j = 1) ∨
        ((((2 * -x - 2 + 1 == j) = true) ∧ (x == y) = true) ∧ 2 * -x - 2 + 1 = j ∧ cmpInt (2 * -x - 2 + 1) j = 0) := by
      by_cases h1 : 2 * -x - 2 + 1 < j
      · refine .inl ⟨⟨?_, ?_⟩, h1, by unfold cmpInt; rw [if_pos h1]⟩
        · simp; omega
        · simp; intro h; have := hinj' h; omega
      · by_cases h2 : j < 2 * -x - 2 + 1
        · refine .inr (.inl ⟨⟨?_, ?_⟩, h2, by unfold cmpInt; rw [if_neg h1, if_pos h2]⟩)
          · simp; omega
          · simp; intro h; have := hinj' h; omega
        · exact .inr (.inr ⟨⟨by simp; omega, by simp; exact hinj2 (by omega)⟩, by omega, by unfold cmpInt; rw [if_neg h1, if_neg h2]⟩)
    clear hinj hinj' hinj2
    rcases tri with ⟨⟨e1, e2⟩, e3, hc⟩ | ⟨⟨e1, e2⟩, e3, hc⟩ | ⟨⟨e1, e2⟩, e3, hc⟩
    all_goals have E3 := Lib.hid e3
    all_goals try (clear e3; have e3 := Int.le_of_eq E3.out; have e4 := Int.le_of_eq E3.out.symm)
    all_goals go_wp2_with (first
      | (go_at_call 10; ((with_reducible refine (index_any _ _ (by omega) (by omega)).mono ?_); rintro e w' ⟨rfl, rfl⟩; first | rw [ix] | rw [ix'] | rw [hj]))
      | (go_at_call 11; ((with_reducible refine (at_any _ _ (by omega) (by omega)).mono ?_); rintro e w' ⟨rfl, rfl⟩; rw [ax]))
      | (go_at_call 13; ((with_reducible refine (compare_any _ _ _ (by omega) (by omega) (by omega) (by omega)).mono ?_); rintro e w' ⟨rfl, rfl⟩; rw [ix, hj, hc]))
      | (go_at_call 12; ((with_reducible refine (var_any _ _ (by omega) (by omega)).mono ?_); rintro e w' ⟨rfl, rfl⟩; first | rw [vx] | rw [vx'])))
    all_goals go_ret
    all_goals exact ⟨rfl, hb⟩
end Go.Proofs.Ytacmgahininbhaa
