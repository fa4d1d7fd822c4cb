/- What each function of the package of literals answers, for the literals of any program: the world is left as it was. -/
import Derived.Test.YtdacdodigbpdoaaLitMath
import Derived.Test.YtdacdodigbpdoaaProg
import Derived.WalkKit
import Derived.Handy
import Derived.Lib.Hide
namespace Go.Proofs.Ytdacdodigbpdoaa
open Go.RowKit

theorem var_any (l : Int) (w : World) (h1 : -9223372036854775807 ≤ l) (h2 : l ≤ 9223372036854775807) :
    Calls Try.prog 27 #[.int .i64 l] w fun e w' => e = .returned (.int .i64 (litVar l)) ∧ w = w' := by
  by_cases h : l < 0
  · rw [litVar_neg h]
    go_enter Try.func27, Try.ntmps27
    go_wp2
    go_ret
    exact ⟨rfl, rfl⟩
  · rw [litVar_pos (by omega)]
    go_enter Try.func27, Try.ntmps27
    go_wp2
    go_ret
    exact ⟨rfl, rfl⟩

theorem ret_bool {a b : Bool} (h : a = b) : Ending.returned (.bool a) = .returned (.bool b) := by rw [h]

theorem ret_int {k : IntKind} {a b : Int} (h : a = b) : Ending.returned (.int k a) = .returned (.int k b) := by rw [h]

theorem right_any (l n : Int) (w : World) (h1 : -9223372036854775808 ≤ l) (h2 : l ≤ 9223372036854775807) (h3 : -9223372036854775808 ≤ n) (h4 : n ≤ 9223372036854775807) :
    Calls Try.prog 26 #[.int .i64 l, .int .i64 n] w fun e w' => e = .returned (.bool (litRight l n)) ∧ w = w' := by
  by_cases hn : 100000 < n
  · by_cases h0 : l = 0
    · subst h0
      go_enter Try.func26, Try.ntmps26
      go_wp2
      all_goals go_ret
      all_goals exact ⟨ret_bool (by rw [Bool.eq_iff_iff, litRight_iff]; simp), rfl⟩
    · have q1 : (l == 0) = false := by simpa using h0
      have q2 : (l != 0) = true := by simpa using h0
      clear h0
      go_enter Try.func26, Try.ntmps26
      go_wp2
      all_goals go_ret
      all_goals exact ⟨ret_bool (by simp at q1; rw [Bool.eq_iff_iff, litRight_iff]; first | (simp; omega) | omega), rfl⟩
  · by_cases h0 : l = 0
    · subst h0
      go_enter Try.func26, Try.ntmps26
      go_wp2
      all_goals go_ret
      all_goals exact ⟨ret_bool (by rw [Bool.eq_iff_iff, litRight_iff]; simp), rfl⟩
    · have q1 : (l == 0) = false := by simpa using h0
      have q2 : (l != 0) = true := by simpa using h0
      clear h0
      go_enter Try.func26, Try.ntmps26
      go_wp2
      all_goals go_ret
      all_goals exact ⟨ret_bool (by simp at q1; rw [Bool.eq_iff_iff, litRight_iff]; first | (simp; omega) | omega), rfl⟩

theorem holds_any (l : Int) (b off n cap : Nat) (z : Nat → Bool) (w : World) (h1 : -9223372036854775807 ≤ l) (h2 : l ≤ 9223372036854775807) (hn : n ≤ 9223372036854775807)
    (hc : ∀ j, j < n → w.cell? ⟨b, off + j, none⟩ = some (.bool (z j))) :
    Calls Try.prog 21 #[.int .i64 l, .slice (some ⟨b, off, none⟩) n cap] w fun e w' => e = .returned (.bool (litHolds l n z)) ∧ w = w' := by
  by_cases hp : 0 < l
  · obtain ⟨k, rfl⟩ : ∃ k : Nat, l = (k : Int) + 1 := ⟨(l - 1).toNat, by omega⟩
    have hv : litVar ((k : Int) + 1) = (k : Int) + 1 := litVar_pos (by omega)
    have HV := fun w => var_any ((k : Int) + 1) w h1 h2
    clear h1 h2 hp
    by_cases hk : k < n
    · rw [litHolds_pos hk]
      have hcell := hc k hk
      have HC := Lib.hid hc
      clear hc
      go_enter Try.func21, Try.ntmps21
      go_wp2_with (go_at_call 27; refine (HV _).mono ?_; rintro e w' ⟨rfl, rfl⟩; rw [hv])
      go_ret
      exact ⟨ret_bool (by first | rfl | simp), rfl⟩
    · rw [litHolds_out (by omega)]
      have HC := Lib.hid hc
      clear hc
      go_enter Try.func21, Try.ntmps21
      go_wp2_with (go_at_call 27; refine (HV _).mono ?_; rintro e w' ⟨rfl, rfl⟩; rw [hv])
      go_ret
      exact ⟨rfl, rfl⟩
  · by_cases h0 : l = 0
    · subst h0
      have hv : litVar 0 = 0 := rfl
      rw [litHolds_out (by rw [hv]; omega)]
      have HC := Lib.hid hc
      clear hc
      go_enter Try.func21, Try.ntmps21
      go_wp2_with (go_at_call 27; refine (var_any _ _ (by omega) (by omega)).mono ?_; rintro e w' ⟨rfl, rfl⟩; rw [hv])
      go_ret
      exact ⟨rfl, rfl⟩
    · obtain ⟨k, rfl⟩ : ∃ k : Nat, l = -((k : Int) + 1) := ⟨(-l - 1).toNat, by omega⟩
      have hv : litVar (-((k : Int) + 1)) = (k : Int) + 1 := by rw [litVar_neg (by omega)]; omega
      have HV := fun w => var_any (-((k : Int) + 1)) w h1 h2
      clear hp h0 h1 h2
      by_cases hk : k < n
      · rw [litHolds_neg hk]
        have hcell := hc k hk
        have HC := Lib.hid hc
        clear hc
        go_enter Try.func21, Try.ntmps21
        go_wp2_with (go_at_call 27; refine (HV _).mono ?_; rintro e w' ⟨rfl, rfl⟩; rw [hv])
        go_ret
        refine ⟨ret_bool ?_, rfl⟩
        rw [decide_eq_false (by omega : ¬ (k : Int) + 1 < 0)]
        cases z k <;> rfl
      · rw [litHolds_out (by omega)]
        have HC := Lib.hid hc
        clear hc
        go_enter Try.func21, Try.ntmps21
        go_wp2_with (go_at_call 27; refine (HV _).mono ?_; rintro e w' ⟨rfl, rfl⟩; rw [hv])
        go_ret
        exact ⟨rfl, rfl⟩
end Go.Proofs.Ytdacdodigbpdoaa
