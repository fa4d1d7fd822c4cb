/- What each function of the package of literals answers, for the literals of any program: the world is left as it was. -/
import Derived.Test.YtihljekdipengaaLitMath
import Derived.Test.YtihljekdipengaaProg
import Derived.WalkKit
import Derived.Handy
import Derived.Lib.Hide
namespace Go.Proofs.Ytihljekdipengaa
open Go.RowKit

theorem var_any (l : Int) (w : World) (h1 : -9223372036854775807 ≤ l) (h2 : l ≤ 9223372036854775807) :
    Calls Try.prog 33 #[.int .i64 l] w fun e w' => e = .returned (.int .i64 (litVar l)) ∧ w = w' := by
  by_cases h : l < 0
  · rw [litVar_neg h]
    go_enter Try.func33, Try.ntmps33
    go_wp2
    go_ret
    exact ⟨rfl, rfl⟩
  · rw [litVar_pos (by omega)]
    go_enter Try.func33, Try.ntmps33
    go_wp2
    go_ret
    exact ⟨rfl, rfl⟩

theorem ret_bool {a b : Bool} (h : a = b) : Ending.returned (.bool a) = .returned (.bool b) := by rw [h]

theorem ret_int {k : IntKind} {a b : Int} (h : a = b) : Ending.returned (.int k a) = .returned (.int k b) := by rw [h]

theorem right_any (l n : Int) (w : World) (h1 : -9223372036854775808 ≤ l) (h2 : l ≤ 9223372036854775807) (h3 : -9223372036854775808 ≤ n) (h4 : n ≤ 9223372036854775807) :
    Calls Try.prog 35 #[.int .i64 l, .int .i64 n] w fun e w' => e = .returned (.bool (litRight l n)) ∧ w = w' := by
  by_cases hn : 100000 < n
  · by_cases h0 : l = 0
    · subst h0
      go_enter Try.func35, Try.ntmps35
      go_wp2
      all_goals go_ret
      all_goals exact ⟨ret_bool (by rw [Bool.eq_iff_iff, litRight_iff]; simp), rfl⟩
    · have q1 : (l == 0) = false := by simpa using h0
      have q2 : (l != 0) = true := by simpa using h0
      clear h0
      go_enter Try.func35, Try.ntmps35
      go_wp2
      all_goals go_ret
      all_goals exact ⟨ret_bool (by simp at q1; rw [Bool.eq_iff_iff, litRight_iff]; first | (simp; omega) | omega), rfl⟩
  · by_cases h0 : l = 0
    · subst h0
      go_enter Try.func35, Try.ntmps35
      go_wp2
      all_goals go_ret
      all_goals exact ⟨ret_bool (by rw [Bool.eq_iff_iff, litRight_iff]; simp), rfl⟩
    · have q1 : (l == 0) = false := by simpa using h0
      have q2 : (l != 0) = true := by simpa using h0
      clear h0
      go_enter Try.func35, Try.ntmps35
      go_wp2
      all_goals go_ret
      all_goals exact ⟨ret_bool (by simp at q1; rw [Bool.eq_iff_iff, litRight_iff]; first | (simp; omega) | omega), rfl⟩
end Go.Proofs.Ytihljekdipengaa
