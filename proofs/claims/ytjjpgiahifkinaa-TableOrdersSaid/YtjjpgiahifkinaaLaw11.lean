/- The law's own helpers: a kind and a base out of raw numbers; a weight; the example. The statements on weights, and on kinds and bases. -/
import Derived.Test.YtjjpgiahifkinaaTab3
import Derived.Test.YtjjpgiahifkinaaOpen
namespace Go.Proofs.Ytjjpgiahifkinaa
open Go.RowKit
set_option linter.unusedVariables false
set_option linter.unusedSimpArgs false

def baseN (e : Bool) (x : Nat) : Nat := if e = true then 17 + x % 240 else 1 + x % 64
theorem baseN_ok (e : Bool) (x : Nat) : OkB e (baseN e x) := by
  unfold OkB baseN
  cases e <;> simp <;> omega
theorem made_any (e : Bool) (x : Nat) (hx : x < 256) (w : World) : Calls Try.prog 9 #[.bool e, .int .u8 x] w fun v w' => v = .returned (.tuple #[.int .i64 (kindI e), .int .i64 (baseN e x : Int)]) ∧ w = w' := by
  cases e
  · go_enter Try.func9, Try.ntmps9
    go_wp2
    refine bodyPost_ret (results_tmp2 rfl _ _ _) rfl ⟨by simp [kindI, baseN], rfl⟩
  · go_enter Try.func9, Try.ntmps9
    go_wp2
    refine bodyPost_ret (results_tmp2 rfl _ _ _) rfl ⟨by simp [kindI, baseN], rfl⟩

set_option maxHeartbeats 1000000 in
theorem law_poly {b : Nat} (h1 : 1 ≤ b) (h2 : b ≤ 64) (k : Int) (w : World) : Calls Try.prog 12 #[.int .i64 0, .int .i64 b, .int .i64 k] w fun v w' => v = .returned (.int .i64 (wt false b k : Int)) ∧ w = w' := by
  have hm := clampK_int k
  have hj := clampK_le k
  have hw : wt false b k = wtP b (clampK k) := rfl
  rw [hw]
  clear hw
  have hmm : max (min (max k 0) 63) 0 = min (max k 0) 63 := by omega
  obtain ⟨j, hjj⟩ : ∃ j, clampK k = j := ⟨_, rfl⟩
  rw [hjj] at hm hj ⊢
  have HC := Lib.hid (show (k < 0 ∧ j = 0) ∨ (63 < k ∧ j = 63) ∨ (0 ≤ k ∧ k ≤ 63 ∧ k = (j : Int)) by omega)
  clear hjj hm hmm
  obtain ⟨n, hn⟩ : ∃ n, b + j = n := ⟨_, rfl⟩
  obtain ⟨q, hq⟩ : ∃ q, n * n = q := ⟨_, rfl⟩
  obtain ⟨c, hc⟩ : ∃ c, q * n = c := ⟨_, rfl⟩
  have hn1 : 1 ≤ n := by omega
  have hn2 : n ≤ 127 := by omega
  have hq2 : q ≤ 16129 := by rw [← hq]; exact Nat.mul_le_mul hn2 hn2
  have hq1 : 1 ≤ q := by rw [← hq]; exact Nat.mul_le_mul hn1 hn1
  have hc2 : c ≤ 2048383 := by rw [← hc]; exact Nat.mul_le_mul hq2 hn2
  have hc1 : 1 ≤ c := by rw [← hc]; exact Nat.mul_le_mul hq1 hn1
  obtain ⟨d, hd⟩ : ∃ d, 1099511627776 / c = d := ⟨_, rfl⟩
  have e1 : (b : Int) + (j : Int) = (n : Int) := by omega
  have e2 : (n : Int) * (n : Int) = (q : Int) := by rw [← hq]; simp
  have e3 : (q : Int) * (n : Int) = (c : Int) := by rw [← hc]; simp
  have e4 : Int.tdiv 1099511627776 (c : Int) = (d : Int) := by rw [← hd]; rfl
  have e5 : (1099511627776 : Int) / (c : Int) = (d : Int) := by rw [← hd]; simp
  have hd2 : d ≤ 1099511627776 := by rw [← hd]; exact Nat.div_le_self _ _
  have HW := Lib.hid (show max d 1 = wtP b j by unfold wtP; rw [hn, hq, hc, hd])
  clear hq hc hd hn
  have hfin : ∀ x : Int, (x = 1 ∧ ¬ 1 ≤ d ∨ x = d ∧ 1 ≤ d) → (x : Int) = (wtP b j : Int) := fun x hx => by rw [← HW.out]; omega
  have HFIN := Lib.hid hfin
  clear hfin
  rcases HC.out with ⟨hk, rfl⟩ | ⟨hk, rfl⟩ | ⟨hk, hk2, rfl⟩
  · obtain rfl : b = n := by omega
    clear HC e1
    go_enter Try.func12, Try.ntmps12
    go_wp2
    all_goals go_ret
    all_goals (first | exact ⟨by rw [← HFIN.out 1 (by omega)]; rfl, rfl⟩ | exact ⟨by rw [← HFIN.out d (by omega)]; rfl, rfl⟩)
  · have e1 : (b : Int) + 63 = (n : Int) := by omega
    clear HC
    go_enter Try.func12, Try.ntmps12
    go_wp2
    all_goals go_ret
    all_goals (first | exact ⟨by rw [← HFIN.out 1 (by omega)]; rfl, rfl⟩ | exact ⟨by rw [← HFIN.out d (by omega)]; rfl, rfl⟩)
  · clear HC
    go_enter Try.func12, Try.ntmps12
    go_wp2
    all_goals go_ret
    all_goals (first | exact ⟨by rw [← HFIN.out 1 (by omega)]; rfl, rfl⟩ | exact ⟨by rw [← HFIN.out d (by omega)]; rfl, rfl⟩)
set_option maxHeartbeats 1000000 in
theorem law_exp_at {b : Nat} (h1 : 17 ≤ b) (h2 : b ≤ 256) (k : Int) (j : Nat) (hj : j ≤ 63) (hk : k < 0 ∧ j = 0 ∨ 63 < k ∧ j = 63 ∨ k = (j : Int)) (w : World) : Calls Try.prog 12 #[.int .i64 1, .int .i64 b, .int .i64 k] w fun v w' => v = .returned (.int .i64 (wtE b j : Int)) ∧ w = w' := by
  have HL := Lib.hid (fun i => wtE_le h1 i)
  have HP := Lib.hid (fun i => wtE_pos b i)
  have HS := Lib.hid (fun i => (show wtE b (i + 1) = max (wtE b i * 16 / b) 1 from rfl))
  have round : ∀ i : Nat, ∃ x d : Nat, wtE b i = x ∧ 1 ≤ x ∧ x ≤ 1099511627776 ∧ d ≤ 1099511627776 * 16 ∧ Int.tdiv ((x : Int) * 16) (b : Int) = (d : Int) ∧ ((x : Int) * 16) / (b : Int) = (d : Int) ∧ wtE b (i + 1) = max d 1 := by
    intro i
    refine ⟨wtE b i, wtE b i * 16 / b, rfl, HP.out i, HL.out i, ?_, rfl, by simp, rfl⟩
    have := HL.out i
    exact Nat.le_trans (Nat.div_le_self _ _) (by omega)
  have HR := Lib.hid round
  have H0 := Lib.hid (show wtE b 0 = 1099511627776 from rfl)
  clear round
  rcases hk with ⟨hk, rfl⟩ | ⟨hk, rfl⟩ | rfl
  · go_enter Try.func12, Try.ntmps12
    go_wp2
    go_loopg [8, 29] 1 (fun G x i wr => x = .int .i64 1099511627776 ∧ i = .int .i64 0 ∧ wr = w ∧ G = 1)
    case atStart => exact ⟨rfl, rfl, rfl, rfl⟩
    case round =>
      obtain ⟨rfl, rfl, rfl, rfl⟩ := hrel
      go_wp2
      go_ret
      exact ⟨by rw [H0.out]; rfl, rfl⟩
  · go_enter Try.func12, Try.ntmps12
    go_wp2
    go_loopg [8, 29] 64 (fun G x p wr => ∃ i : Nat, i ≤ 63 ∧ G = 64 - i ∧ x = .int .i64 (wtE b i : Int) ∧ p = .int .i64 (i : Int) ∧ wr = w)
    case atStart => exact ⟨0, by omega, rfl, by rw [H0.out]; rfl, rfl, rfl⟩
    case round =>
      obtain ⟨i, hi, rfl, rfl, rfl, rfl⟩ := hrel
      by_cases hlt : i < 63
      · obtain ⟨x, d, hx, hx1, hx2, hd, e4, e5, hn⟩ := HR.out i
        rw [hx]
        have HN := Lib.hid hn
        clear hx hn
        go_wp2
        all_goals go_roundg (63 - i)
        case measure => omega
        case measure => omega
        case rel => exact ⟨i + 1, by omega, by omega, by rw [HN.out, show max d 1 = 1 by omega]; rfl, by go_num, rfl⟩
        case rel => exact ⟨i + 1, by omega, by omega, by rw [HN.out, show max d 1 = d by omega], by go_num, rfl⟩
      · obtain rfl : i = 63 := by omega
        go_wp2
        go_ret
        exact ⟨rfl, rfl⟩
  · go_enter Try.func12, Try.ntmps12
    go_wp2
    go_loopg [8, 29] (j + 1) (fun G x p wr => ∃ i : Nat, i ≤ j ∧ G = j + 1 - i ∧ x = .int .i64 (wtE b i : Int) ∧ p = .int .i64 (i : Int) ∧ wr = w)
    case atStart => exact ⟨0, by omega, rfl, by rw [H0.out]; rfl, rfl, rfl⟩
    case round =>
      obtain ⟨i, hi, rfl, rfl, rfl, rfl⟩ := hrel
      by_cases hlt : i < j
      · obtain ⟨x, d, hx, hx1, hx2, hd, e4, e5, hn⟩ := HR.out i
        rw [hx]
        have HN := Lib.hid hn
        clear hx hn
        go_wp2
        all_goals go_roundg (j - i)
        case measure => omega
        case measure => omega
        case rel => exact ⟨i + 1, by omega, by omega, by rw [HN.out, show max d 1 = 1 by omega]; rfl, by go_num, rfl⟩
        case rel => exact ⟨i + 1, by omega, by omega, by rw [HN.out, show max d 1 = d by omega], by go_num, rfl⟩
      · obtain rfl : i = j := by omega
        go_wp2
        go_ret
        exact ⟨rfl, rfl⟩
theorem law_exp {b : Nat} (h1 : 17 ≤ b) (h2 : b ≤ 256) (k : Int) (w : World) : Calls Try.prog 12 #[.int .i64 1, .int .i64 b, .int .i64 k] w fun v w' => v = .returned (.int .i64 (wt true b k : Int)) ∧ w = w' :=
  law_exp_at h1 h2 k (clampK k) (clampK_le k) (by unfold clampK; omega) w
theorem law_weight {e : Bool} {b : Nat} (h : OkB e b) (k : Int) (w : World) : Calls Try.prog 12 #[.int .i64 (kindI e), .int .i64 b, .int .i64 k] w fun v w' => v = .returned (.int .i64 (wt e b k : Int)) ∧ w = w' := by
  cases e
  · exact law_poly (by simpa [OkB] using h.1) (by simpa [OkB] using h.2) k w
  · exact law_exp (by simpa [OkB] using h.1) (by simpa [OkB] using h.2) k w

set_option maxHeartbeats 1000000 in
theorem fit_any (w : World) : Calls Try.prog 8 #[] w fun e w' => e = .returned (.bool true) ∧ Below w.heap.size w w' := by
  have OK : OkB false 1 := by unfold OkB; decide
  have HNEW := Lib.hid (fun w => new_any OK w)
  have HOK := Lib.hid OK
  have W0 := Lib.hid (fun (w : World) (g : Nat) (h : Tab w g false 1) => (show wt false 1 0 = 1099511627776 from rfl) ▸ weight_any h 0)
  have W1 := Lib.hid (fun (w : World) (g : Nat) (h : Tab w g false 1) => (show wt false 1 1 = 137438953472 from rfl) ▸ weight_any h 1)
  have R0 := Lib.hid (fun w => (show rightB 0 1 = true from rfl) ▸ right_any 0 1 w)
  have R1 := Lib.hid (fun w => (show rightB 2 1 = false from rfl) ▸ right_any 2 1 w)
  clear OK
  go_enter Try.func8, Try.ntmps8
  go_wp2_with fail
  refine (HNEW.out _).mono ?_
  rintro v w1 ⟨g, rfl, hg, ht, hb⟩
  have HT := Lib.hid ht
  have HB := Lib.hid hb
  clear ht hb hg
  go_wp2_with fail
  with_reducible refine (W0.out _ _ HT.out).mono ?_
  rintro v w2 ⟨rfl, rfl⟩
  go_wp2_with fail
  with_reducible refine (W1.out _ _ HT.out).mono ?_
  rintro v w2 ⟨rfl, rfl⟩
  go_wp2_with fail
  with_reducible refine (R0.out _).mono ?_
  rintro v w2 ⟨rfl, rfl⟩
  go_wp2_with fail
  with_reducible refine (R1.out _).mono ?_
  rintro v w2 ⟨rfl, rfl⟩
  go_wp2_with fail
  with_reducible refine (pick_none HT.out HOK.out _ _ _).mono ?_
  rintro v w2 ⟨rfl, rfl⟩
  go_wp2
  go_ret
  exact ⟨rfl, HB.out⟩
end Go.Proofs.Ytjjpgiahifkinaa
