/- The statements on sums and products. -/
import Derived.Test.YtipanbiackidgaaTick3
import Derived.Test.YtipanbiackidgaaOpen
namespace Go.Proofs.Ytipanbiackidgaa
open Go.RowKit
set_option linter.unusedVariables false
set_option linter.unusedSimpArgs false

set_option maxHeartbeats 1000000 in
theorem reckon_any (a c : Int) (w : World) : Calls Try.prog 3 #[.int .i64 a, .int .i64 c] w fun e w' => e = .returned (.bool true) ∧ Below w.heap.size w w' := by
  have WA := Lib.hid (fun w => whole_any a w)
  have WC := Lib.hid (fun w => whole_any c w)
  have S := Lib.hid (fun w => sum_any a c w)
  have T := Lib.hid (fun w => times_any a c w)
  have h1 := clampN_le a
  have h2 := clampN_le c
  have es : sumN a c = min (clampN a + clampN c) 4611686018427387904 := rfl
  have et : timesN a c = min (clampN a * clampN c) 4611686018427387904 := rfl
  obtain ⟨x, hx⟩ : ∃ x, clampN a = x := ⟨_, rfl⟩
  obtain ⟨y, hy⟩ : ∃ y, clampN c = y := ⟨_, rfl⟩
  rw [hx, hy] at es et
  rw [hx] at WA h1
  rw [hy] at WC h2
  rw [es] at S
  rw [et] at T
  clear hx hy es et
  obtain ⟨s, hs⟩ : ∃ s, min (x + y) 4611686018427387904 = s := ⟨_, rfl⟩
  obtain ⟨p, hp⟩ : ∃ p : Nat, x * y = p := ⟨_, rfl⟩
  have hpi : (x : Int) * (y : Int) = (p : Int) := by rw [← hp]; simp
  rw [hp] at T
  rw [hs] at S
  obtain ⟨t, ht⟩ : ∃ t, min p 4611686018427387904 = t := ⟨_, rfl⟩
  rw [ht] at T
  obtain ⟨q, hq⟩ : ∃ q : Nat, 4611686018427387904 / y = q := ⟨_, rfl⟩
  have hov : 0 < y → (q < x ↔ 4611686018427387904 < p) := fun h => by rw [← hq, ← hp]; exact over_iff h
  have hq2 : q ≤ 4611686018427387904 := by rw [← hq]; exact Nat.div_le_self _ _
  have eq1 : Int.tdiv 4611686018427387904 (y : Int) = (q : Int) := by rw [← hq]; rfl
  have eq2 : (4611686018427387904 : Int) / (y : Int) = (q : Int) := by rw [← hq]; simp
  have hp0 : y = 0 → p = 0 := fun h => by rw [← hp, h]; simp
  clear hp hq
  by_cases hs1 : x + y ≤ 4611686018427387904
  · obtain rfl : s = x + y := by omega
    by_cases hy0 : y = 0
    · obtain rfl : p = 0 := hp0 hy0
      obtain rfl : t = 0 := by omega
      subst hy0
      clear hov hp0 hs ht
      go_enter Try.func3, Try.ntmps3
      go_wp2_with fail
      refine (fit_any _).mono ?_
      rintro e w1 ⟨rfl, hb⟩
      have HB := Lib.hid hb
      clear hb
      go_wp2_with fail
      refine (WA.out _).mono ?_
      rintro e w2 ⟨rfl, rfl⟩
      go_wp2_with fail
      refine (WC.out _).mono ?_
      rintro e w2 ⟨rfl, rfl⟩
      go_wp2_with fail
      refine (S.out _).mono ?_
      rintro e w2 ⟨rfl, rfl⟩
      go_wp2_with fail
      refine (T.out _).mono ?_
      rintro e w2 ⟨rfl, rfl⟩
      go_wp2
      go_ret
      exact ⟨by simp, HB.out⟩
    · have hyb : ((y : Int) == 0) = false := by simp; omega
      by_cases hqx : q < x
      · obtain rfl : t = 4611686018427387904 := by have := hov (by omega); omega
        clear hov hp0 hs ht
        go_enter Try.func3, Try.ntmps3
        go_wp2_with fail
        refine (fit_any _).mono ?_
        rintro e w1 ⟨rfl, hb⟩
        have HB := Lib.hid hb
        clear hb
        go_wp2_with fail
        refine (WA.out _).mono ?_
        rintro e w2 ⟨rfl, rfl⟩
        go_wp2_with fail
        refine (WC.out _).mono ?_
        rintro e w2 ⟨rfl, rfl⟩
        go_wp2_with fail
        refine (S.out _).mono ?_
        rintro e w2 ⟨rfl, rfl⟩
        go_wp2_with fail
        refine (T.out _).mono ?_
        rintro e w2 ⟨rfl, rfl⟩
        go_wp2
        go_ret
        exact ⟨by simp, HB.out⟩
      · have hpl : p ≤ 4611686018427387904 := by have := hov (by omega); omega
        obtain rfl : t = p := by omega
        clear hov hp0 hs ht
        go_enter Try.func3, Try.ntmps3
        go_wp2_with fail
        refine (fit_any _).mono ?_
        rintro e w1 ⟨rfl, hb⟩
        have HB := Lib.hid hb
        clear hb
        go_wp2_with fail
        refine (WA.out _).mono ?_
        rintro e w2 ⟨rfl, rfl⟩
        go_wp2_with fail
        refine (WC.out _).mono ?_
        rintro e w2 ⟨rfl, rfl⟩
        go_wp2_with fail
        refine (S.out _).mono ?_
        rintro e w2 ⟨rfl, rfl⟩
        go_wp2_with fail
        refine (T.out _).mono ?_
        rintro e w2 ⟨rfl, rfl⟩
        go_wp2
        go_ret
        exact ⟨by simp, HB.out⟩
  · obtain rfl : s = 4611686018427387904 := by omega
    have hy0 : ¬ y = 0 := by omega
    have hyb : ((y : Int) == 0) = false := by simp; omega
    by_cases hqx : q < x
    · obtain rfl : t = 4611686018427387904 := by have := hov (by omega); omega
      clear hov hp0 hs ht
      go_enter Try.func3, Try.ntmps3
      go_wp2_with fail
      refine (fit_any _).mono ?_
      rintro e w1 ⟨rfl, hb⟩
      have HB := Lib.hid hb
      clear hb
      go_wp2_with fail
      refine (WA.out _).mono ?_
      rintro e w2 ⟨rfl, rfl⟩
      go_wp2_with fail
      refine (WC.out _).mono ?_
      rintro e w2 ⟨rfl, rfl⟩
      go_wp2_with fail
      refine (S.out _).mono ?_
      rintro e w2 ⟨rfl, rfl⟩
      go_wp2_with fail
      refine (T.out _).mono ?_
      rintro e w2 ⟨rfl, rfl⟩
      go_wp2
      go_ret
      exact ⟨by simp, HB.out⟩
    · have hpl : p ≤ 4611686018427387904 := by have := hov (by omega); omega
      obtain rfl : t = p := by omega
      clear hov hp0 hs ht
      go_enter Try.func3, Try.ntmps3
      go_wp2_with fail
      refine (fit_any _).mono ?_
      rintro e w1 ⟨rfl, hb⟩
      have HB := Lib.hid hb
      clear hb
      go_wp2_with fail
      refine (WA.out _).mono ?_
      rintro e w2 ⟨rfl, rfl⟩
      go_wp2_with fail
      refine (WC.out _).mono ?_
      rintro e w2 ⟨rfl, rfl⟩
      go_wp2_with fail
      refine (S.out _).mono ?_
      rintro e w2 ⟨rfl, rfl⟩
      go_wp2_with fail
      refine (T.out _).mono ?_
      rintro e w2 ⟨rfl, rfl⟩
      go_wp2
      go_ret
      exact ⟨by simp, HB.out⟩
end Go.Proofs.Ytipanbiackidgaa
