/- What each function of the package of literals answers, for the literals of any program: the world is left as it was. -/
import Derived.Test.YtacmgahininbhaaLitMath
import Derived.Test.YtacmgahininbhaaProg
import Derived.WalkKit
import Derived.Handy
import Derived.Lib.Hide
namespace Go.Proofs.Ytacmgahininbhaa
open Go.RowKit

theorem var_any (l : Int) (w : World) (h1 : -9223372036854775807 ≤ l) (h2 : l ≤ 9223372036854775807) :
    Calls Try.prog 12 #[.int .i64 l] w fun e w' => e = .returned (.int .i64 (litVar l)) ∧ w = w' := by
  by_cases h : l < 0
  · rw [litVar_neg h]
    go_enter Try.func12, Try.ntmps12
    go_wp2
    go_ret
    exact ⟨rfl, rfl⟩
  · rw [litVar_pos (by omega)]
    go_enter Try.func12, Try.ntmps12
    go_wp2
    go_ret
    exact ⟨rfl, rfl⟩

theorem index_any (l : Int) (w : World) (h1 : -4611686018427387904 ≤ l) (h2 : l ≤ 4611686018427387904) :
    Calls Try.prog 10 #[.int .i64 l] w fun e w' => e = .returned (.int .i64 (litIndex l)) ∧ w = w' := by
  by_cases h : l < 0
  · rw [litIndex_neg h]
    have hv : litVar l = -l := litVar_neg h
    go_enter Try.func10, Try.ntmps10
    go_wp2_with (go_at_call 12; refine (var_any _ _ (by omega) (by omega)).mono ?_; rintro e w' ⟨rfl, rfl⟩; rw [hv])
    go_ret
    exact ⟨rfl, rfl⟩
  · rw [litIndex_pos (by omega)]
    have hv : litVar l = l := litVar_pos (by omega)
    go_enter Try.func10, Try.ntmps10
    go_wp2_with (go_at_call 12; refine (var_any _ _ (by omega) (by omega)).mono ?_; rintro e w' ⟨rfl, rfl⟩; rw [hv])
    go_ret
    exact ⟨rfl, rfl⟩

theorem at_any (i : Int) (w : World) (h1 : 0 ≤ i) (h2 : i ≤ 9223372036854775807) :
    Calls Try.prog 11 #[.int .i64 i] w fun e w' => e = .returned (.int .i64 (litAt i)) ∧ w = w' := by
  by_cases h : i % 2 = 0
  · rw [litAt_even h]
    go_enter Try.func11, Try.ntmps11
    go_wp2
    go_ret
    exact ⟨rfl, rfl⟩
  · rw [litAt_odd h]
    go_enter Try.func11, Try.ntmps11
    go_wp2
    go_ret
    exact ⟨rfl, rfl⟩

theorem ret_bool {a b : Bool} (h : a = b) : Ending.returned (.bool a) = .returned (.bool b) := by rw [h]
theorem ret_int {k : IntKind} {a b : Int} (h : a = b) : Ending.returned (.int k a) = .returned (.int k b) := by rw [h]

theorem right_any (l n : Int) (w : World) (h1 : -9223372036854775808 ≤ l) (h2 : l ≤ 9223372036854775807) (h3 : -9223372036854775808 ≤ n) (h4 : n ≤ 9223372036854775807) :
    Calls Try.prog 8 #[.int .i64 l, .int .i64 n] w fun e w' => e = .returned (.bool (litRight l n)) ∧ w = w' := by
  by_cases hn : 100000 < n
  · by_cases h0 : l = 0
    · subst h0
      go_enter Try.func8, Try.ntmps8
      go_wp2
      all_goals go_ret
      all_goals exact ⟨ret_bool (by rw [Bool.eq_iff_iff, litRight_iff]; simp), rfl⟩
    · have q1 : (l == 0) = false := by simpa using h0
      have q2 : (l != 0) = true := by simpa using h0
      clear h0
      go_enter Try.func8, Try.ntmps8
      go_wp2
      all_goals go_ret
      all_goals exact ⟨ret_bool (by simp at q1; rw [Bool.eq_iff_iff, litRight_iff]; first | (simp; omega) | omega), rfl⟩
  · by_cases h0 : l = 0
    · subst h0
      go_enter Try.func8, Try.ntmps8
      go_wp2
      all_goals go_ret
      all_goals exact ⟨ret_bool (by rw [Bool.eq_iff_iff, litRight_iff]; simp), rfl⟩
    · have q1 : (l == 0) = false := by simpa using h0
      have q2 : (l != 0) = true := by simpa using h0
      clear h0
      go_enter Try.func8, Try.ntmps8
      go_wp2
      all_goals go_ret
      all_goals exact ⟨ret_bool (by simp at q1; rw [Bool.eq_iff_iff, litRight_iff]; first | (simp; omega) | omega), rfl⟩
theorem isnan_any (l : Int) (w : World) :
    Calls Try.prog 16 #[.int .i64 l] w fun e w' => e = .returned (.bool false) ∧ w = w' := by
  go_enter Try.func16, Try.ntmps16
  go_wp2
  go_ret
  exact ⟨by simp, rfl⟩
theorem cmp_any (x y : Int) (w : World) :
    Calls Try.prog 15 #[.int .i64 x, .int .i64 y] w fun e w' => e = .returned (.int .i64 (cmpInt x y)) ∧ w = w' := by
  by_cases h : x < y
  · have hc : cmpInt x y = -1 := by unfold cmpInt; rw [if_pos h]
    rw [hc]
    go_enter Try.func15, Try.ntmps15
    go_wp2_with (go_at_call 16; refine (isnan_any _ _).mono ?_; rintro e w' ⟨rfl, rfl⟩)
    go_ret
    exact ⟨rfl, rfl⟩
  · by_cases h' : y < x
    · have hc : cmpInt x y = 1 := by unfold cmpInt; rw [if_neg h, if_pos h']
      rw [hc]
      go_enter Try.func15, Try.ntmps15
      go_wp2_with (go_at_call 16; refine (isnan_any _ _).mono ?_; rintro e w' ⟨rfl, rfl⟩)
      go_ret
      exact ⟨rfl, rfl⟩
    · have hc : cmpInt x y = 0 := by unfold cmpInt; rw [if_neg h, if_neg h']
      rw [hc]
      go_enter Try.func15, Try.ntmps15
      go_wp2_with (go_at_call 16; refine (isnan_any _ _).mono ?_; rintro e w' ⟨rfl, rfl⟩)
      go_ret
      exact ⟨rfl, rfl⟩
theorem compare_any (x y : Int) (w : World) (h1 : -4611686018427387904 ≤ x) (h2 : x ≤ 4611686018427387904) (h3 : -4611686018427387904 ≤ y) (h4 : y ≤ 4611686018427387904) :
    Calls Try.prog 13 #[.int .i64 x, .int .i64 y] w fun e w' => e = .returned (.int .i64 (cmpInt (litIndex x) (litIndex y))) ∧ w = w' := by
  go_enter Try.func13, Try.ntmps13
  go_wp2_with (first
    | (go_at_call 10; refine (index_any _ _ (by assumption) (by assumption)).mono ?_; rintro e w' ⟨rfl, rfl⟩)
    | (go_at_call 15; refine (cmp_any _ _ _).mono ?_; rintro e w' ⟨rfl, rfl⟩))
  go_ret
  exact ⟨rfl, rfl⟩

theorem holds_any (l : Int) (b off n cap : Nat) (z : Nat → Bool) (w : World) (h1 : -9223372036854775807 ≤ l) (h2 : l ≤ 9223372036854775807) (hn : n ≤ 9223372036854775807)
    (hc : ∀ j, j < n → w.cell? ⟨b, off + j, none⟩ = some (.bool (z j))) :
    Calls Try.prog 14 #[.int .i64 l, .slice (some ⟨b, off, none⟩) n cap] w fun e w' => e = .returned (.bool (litHolds l n z)) ∧ w = w' := by
  by_cases hp : 0 < l
  · obtain ⟨k, rfl⟩ : ∃ k : Nat, l = (k : Int) + 1 := ⟨(l - 1).toNat, by omega⟩
    have hv : litVar ((k : Int) + 1) = (k : Int) + 1 := litVar_pos (by omega)
    have HV := fun w => var_any ((k : Int) + 1) w h1 h2
    clear h1 h2 hp
    by_cases hk : k < n
    · rw [litHolds_pos hk]
      have hcell := hc k hk
      have HC := Lib.hid hc
      clear hc
      go_enter Try.func14, Try.ntmps14
      go_wp2_with (go_at_call 12; refine (HV _).mono ?_; rintro e w' ⟨rfl, rfl⟩; rw [hv])
      go_ret
      exact ⟨ret_bool (by first | rfl | simp), rfl⟩
    · rw [litHolds_out (by omega)]
      have HC := Lib.hid hc
      clear hc
      go_enter Try.func14, Try.ntmps14
      go_wp2_with (go_at_call 12; refine (HV _).mono ?_; rintro e w' ⟨rfl, rfl⟩; rw [hv])
      go_ret
      exact ⟨rfl, rfl⟩
  · by_cases h0 : l = 0
    · subst h0
      have hv : litVar 0 = 0 := rfl
      rw [litHolds_out (by rw [hv]; omega)]
      have HC := Lib.hid hc
      clear hc
      go_enter Try.func14, Try.ntmps14
      go_wp2_with (go_at_call 12; refine (var_any _ _ (by omega) (by omega)).mono ?_; rintro e w' ⟨rfl, rfl⟩; rw [hv])
      go_ret
      exact ⟨rfl, rfl⟩
    · obtain ⟨k, rfl⟩ : ∃ k : Nat, l = -((k : Int) + 1) := ⟨(-l - 1).toNat, by omega⟩
      have hv : litVar (-((k : Int) + 1)) = (k : Int) + 1 := by rw [litVar_neg (by omega)]; omega
      have HV := fun w => var_any (-((k : Int) + 1)) w h1 h2
      clear hp h0 h1 h2
      by_cases hk : k < n
      · rw [litHolds_neg hk]
        have hcell := hc k hk
        have HC := Lib.hid hc
        clear hc
        go_enter Try.func14, Try.ntmps14
        go_wp2_with (go_at_call 12; refine (HV _).mono ?_; rintro e w' ⟨rfl, rfl⟩; rw [hv])
        go_ret
        refine ⟨ret_bool ?_, rfl⟩
        rw [decide_eq_false (by omega : ¬ (k : Int) + 1 < 0)]
        cases z k <;> rfl
      · rw [litHolds_out (by omega)]
        have HC := Lib.hid hc
        clear hc
        go_enter Try.func14, Try.ntmps14
        go_wp2_with (go_at_call 12; refine (HV _).mono ?_; rintro e w' ⟨rfl, rfl⟩; rw [hv])
        go_ret
        exact ⟨rfl, rfl⟩
end Go.Proofs.Ytacmgahininbhaa
