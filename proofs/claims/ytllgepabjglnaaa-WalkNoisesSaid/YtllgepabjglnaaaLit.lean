/- What each function of the package of literals answers, for the literals of any program: the world is left as it was. -/
import Derived.Test.YtllgepabjglnaaaLitMath
import Derived.Test.YtllgepabjglnaaaProg
import Derived.WalkKit
import Derived.Handy
import Derived.Lib.Hide
namespace Go.Proofs.Ytllgepabjglnaaa
open Go.RowKit

theorem var_any (l : Int) (w : World) (h1 : -9223372036854775807 ≤ l) (h2 : l ≤ 9223372036854775807) :
    Calls Try.prog 51 #[.int .i64 l] w fun e w' => e = .returned (.int .i64 (litVar l)) ∧ w = w' := by
  by_cases h : l < 0
  · rw [litVar_neg h]
    go_enter Try.func51, Try.ntmps51
    go_wp2
    go_ret
    exact ⟨rfl, rfl⟩
  · rw [litVar_pos (by omega)]
    go_enter Try.func51, Try.ntmps51
    go_wp2
    go_ret
    exact ⟨rfl, rfl⟩

theorem index_any (l : Int) (w : World) (h1 : -4611686018427387904 ≤ l) (h2 : l ≤ 4611686018427387904) :
    Calls Try.prog 50 #[.int .i64 l] w fun e w' => e = .returned (.int .i64 (litIndex l)) ∧ w = w' := by
  by_cases h : l < 0
  · rw [litIndex_neg h]
    have hv : litVar l = -l := litVar_neg h
    go_enter Try.func50, Try.ntmps50
    go_wp2_with (go_at_call 51; refine (var_any _ _ (by omega) (by omega)).mono ?_; rintro e w' ⟨rfl, rfl⟩; rw [hv])
    go_ret
    exact ⟨rfl, rfl⟩
  · rw [litIndex_pos (by omega)]
    have hv : litVar l = l := litVar_pos (by omega)
    go_enter Try.func50, Try.ntmps50
    go_wp2_with (go_at_call 51; refine (var_any _ _ (by omega) (by omega)).mono ?_; rintro e w' ⟨rfl, rfl⟩; rw [hv])
    go_ret
    exact ⟨rfl, rfl⟩

theorem ret_bool {a b : Bool} (h : a = b) : Ending.returned (.bool a) = .returned (.bool b) := by rw [h]

theorem ret_int {k : IntKind} {a b : Int} (h : a = b) : Ending.returned (.int k a) = .returned (.int k b) := by rw [h]

theorem right_any (l n : Int) (w : World) (h1 : -9223372036854775808 ≤ l) (h2 : l ≤ 9223372036854775807) (h3 : -9223372036854775808 ≤ n) (h4 : n ≤ 9223372036854775807) :
    Calls Try.prog 49 #[.int .i64 l, .int .i64 n] w fun e w' => e = .returned (.bool (litRight l n)) ∧ w = w' := by
  by_cases hn : 100000 < n
  · by_cases h0 : l = 0
    · subst h0
      go_enter Try.func49, Try.ntmps49
      go_wp2
      all_goals go_ret
      all_goals exact ⟨ret_bool (by rw [Bool.eq_iff_iff, litRight_iff]; simp), rfl⟩
    · have q1 : (l == 0) = false := by simpa using h0
      have q2 : (l != 0) = true := by simpa using h0
      clear h0
      go_enter Try.func49, Try.ntmps49
      go_wp2
      all_goals go_ret
      all_goals exact ⟨ret_bool (by simp at q1; rw [Bool.eq_iff_iff, litRight_iff]; first | (simp; omega) | omega), rfl⟩
  · by_cases h0 : l = 0
    · subst h0
      go_enter Try.func49, Try.ntmps49
      go_wp2
      all_goals go_ret
      all_goals exact ⟨ret_bool (by rw [Bool.eq_iff_iff, litRight_iff]; simp), rfl⟩
    · have q1 : (l == 0) = false := by simpa using h0
      have q2 : (l != 0) = true := by simpa using h0
      clear h0
      go_enter Try.func49, Try.ntmps49
      go_wp2
      all_goals go_ret
      all_goals exact ⟨ret_bool (by simp at q1; rw [Bool.eq_iff_iff, litRight_iff]; first | (simp; omega) | omega), rfl⟩

theorem isnan_any (l : Int) (w : World) :
    Calls Try.prog 87 #[.int .i64 l] w fun e w' => e = .returned (.bool false) ∧ w = w' := by
  go_enter Try.func87, Try.ntmps87
  go_wp2
  go_ret
  exact ⟨by simp, rfl⟩

theorem cmp_any (x y : Int) (w : World) :
    Calls Try.prog 75 #[.int .i64 x, .int .i64 y] w fun e w' => e = .returned (.int .i64 (cmpInt x y)) ∧ w = w' := by
  by_cases h : x < y
  · have hc : cmpInt x y = -1 := by unfold cmpInt; rw [if_pos h]
    rw [hc]
    go_enter Try.func75, Try.ntmps75
    go_wp2_with (go_at_call 87; refine (isnan_any _ _).mono ?_; rintro e w' ⟨rfl, rfl⟩)
    go_ret
    exact ⟨rfl, rfl⟩
  · by_cases h' : y < x
    · have hc : cmpInt x y = 1 := by unfold cmpInt; rw [if_neg h, if_pos h']
      rw [hc]
      go_enter Try.func75, Try.ntmps75
      go_wp2_with (go_at_call 87; refine (isnan_any _ _).mono ?_; rintro e w' ⟨rfl, rfl⟩)
      go_ret
      exact ⟨rfl, rfl⟩
    · have hc : cmpInt x y = 0 := by unfold cmpInt; rw [if_neg h, if_neg h']
      rw [hc]
      go_enter Try.func75, Try.ntmps75
      go_wp2_with (go_at_call 87; refine (isnan_any _ _).mono ?_; rintro e w' ⟨rfl, rfl⟩)
      go_ret
      exact ⟨rfl, rfl⟩

theorem compare_any (x y : Int) (w : World) (h1 : -4611686018427387904 ≤ x) (h2 : x ≤ 4611686018427387904) (h3 : -4611686018427387904 ≤ y) (h4 : y ≤ 4611686018427387904) :
    Calls Try.prog 64 #[.int .i64 x, .int .i64 y] w fun e w' => e = .returned (.int .i64 (cmpInt (litIndex x) (litIndex y))) ∧ w = w' := by
  go_enter Try.func64, Try.ntmps64
  go_wp2_with (first
    | (go_at_call 50; refine (index_any _ _ (by assumption) (by assumption)).mono ?_; rintro e w' ⟨rfl, rfl⟩)
    | (go_at_call 75; refine (cmp_any _ _ _).mono ?_; rintro e w' ⟨rfl, rfl⟩))
  go_ret
  exact ⟨rfl, rfl⟩
end Go.Proofs.Ytllgepabjglnaaa
