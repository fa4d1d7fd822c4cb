/- The weights of package table, as mathematics. No program is named here. -/
import Derived.WalkKit
namespace Go.Proofs.Ytjjpgiahifkinaa
open Go.RowKit

/-- the weights of the kind Poly -/
def wtP (b k : Nat) : Nat := max (1099511627776 / ((b + k) * (b + k) * (b + k))) 1
/-- the weights of the kind Exp -/
def wtE (b : Nat) : Nat → Nat
  | 0 => 1099511627776
  | k + 1 => max (wtE b k * 16 / b) 1
/-- a kind that may be, with a base that may be -/
def OkB (e : Bool) (b : Nat) : Prop := if e = true then 17 ≤ b ∧ b ≤ 256 else 1 ≤ b ∧ b ≤ 64
def wtT (e : Bool) (b k : Nat) : Nat := if e = true then wtE b k else wtP b k
/-- a number of breaks that has a weight of its own -/
def clampK (k : Int) : Nat := (min (max k 0) 63).toNat
theorem clampK_le (k : Int) : clampK k ≤ 63 := by unfold clampK; omega
theorem clampK_int (k : Int) : min (max k 0) 63 = (clampK k : Int) := by unfold clampK; omega
theorem clampK_nat (k : Nat) (h : k ≤ 63) : clampK (k : Int) = k := by unfold clampK; omega
def wt (e : Bool) (b : Nat) (k : Int) : Nat := wtT e b (clampK k)

theorem wtP_pos (b k : Nat) : 1 ≤ wtP b k := by unfold wtP; omega
theorem wtE_pos (b k : Nat) : 1 ≤ wtE b k := by cases k <;> unfold wtE <;> omega
theorem wtP_le (b k : Nat) : wtP b k ≤ 1099511627776 := by
  unfold wtP
  have := Nat.div_le_self 1099511627776 ((b + k) * (b + k) * (b + k))
  omega
theorem cube_mono {x y : Nat} (h : x ≤ y) : x * x * x ≤ y * y * y := Nat.mul_le_mul (Nat.mul_le_mul h h) h
theorem wtP_down {b k : Nat} (hb : 1 ≤ b) : wtP b (k + 1) ≤ wtP b k := by
  unfold wtP
  have := cube_mono (show b + k ≤ b + (k + 1) by omega)
  have h0 : 0 < (b + k) * (b + k) * (b + k) := Nat.mul_pos (Nat.mul_pos (by omega) (by omega)) (by omega)
  have := Nat.div_le_div_left this h0 (a := 1099511627776)
  omega
theorem wtE_down {b k : Nat} (hb : 17 ≤ b) : wtE b (k + 1) ≤ wtE b k := by
  show max (wtE b k * 16 / b) 1 ≤ wtE b k
  have h1 := wtE_pos b k
  have h2 : wtE b k * 16 / b ≤ wtE b k := by
    apply Nat.div_le_of_le_mul
    rw [Nat.mul_comm]
    exact Nat.mul_le_mul_right _ (by omega)
  omega
theorem wtE_le {b : Nat} (hb : 17 ≤ b) : ∀ k, wtE b k ≤ 1099511627776
  | 0 => Nat.le_refl _
  | k + 1 => Nat.le_trans (wtE_down hb) (wtE_le hb k)
theorem wtT_pos (e : Bool) (b k : Nat) : 1 ≤ wtT e b k := by
  unfold wtT; split
  · exact wtE_pos b k
  · exact wtP_pos b k
theorem wtT_le {e : Bool} {b : Nat} (h : OkB e b) (k : Nat) : wtT e b k ≤ 1099511627776 := by
  unfold OkB at h
  unfold wtT; split
  · rw [if_pos (by assumption)] at h; exact wtE_le h.1 k
  · exact wtP_le b k
theorem wtT_down {e : Bool} {b : Nat} (h : OkB e b) (k : Nat) : wtT e b (k + 1) ≤ wtT e b k := by
  unfold OkB at h
  unfold wtT; split
  · rw [if_pos (by assumption)] at h; exact wtE_down h.1
  · rw [if_neg (by assumption)] at h; exact wtP_down h.1
theorem wt_pos (e : Bool) (b : Nat) (k : Int) : 1 ≤ wt e b k := wtT_pos _ _ _
theorem wt_le {e : Bool} {b : Nat} (h : OkB e b) (k : Int) : wt e b k ≤ 1099511627776 := wtT_le h _
theorem wt_down {e : Bool} {b : Nat} (h : OkB e b) (k : Nat) : wt e b ((k : Int) + 1) ≤ wt e b (k : Int) := by
  unfold wt
  rcases Nat.lt_or_ge k 63 with h1 | h1
  · rw [show (k : Int) + 1 = ((k + 1 : Nat) : Int) by omega, clampK_nat _ (by omega), clampK_nat _ (by omega)]
    exact wtT_down h k
  · have e1 : clampK (k : Int) = 63 := by unfold clampK; omega
    have e2 : clampK ((k : Int) + 1) = 63 := by unfold clampK; omega
    rw [e1, e2]
    exact Nat.le_refl _

/-- the sum of the weights -/
def sumW (e : Bool) (b : Nat) (xs : List Int) : Nat := (xs.map (wt e b)).sum
theorem sumW_nil (e : Bool) (b : Nat) : sumW e b [] = 0 := rfl
theorem sumW_cons (e : Bool) (b : Nat) (x : Int) (xs : List Int) : sumW e b (x :: xs) = wt e b x + sumW e b xs := by simp [sumW]
theorem sumW_append (e : Bool) (b : Nat) (xs ys : List Int) : sumW e b (xs ++ ys) = sumW e b xs + sumW e b ys := by simp [sumW]
theorem sumW_le {e : Bool} {b : Nat} (h : OkB e b) : ∀ xs : List Int, sumW e b xs ≤ 1099511627776 * xs.length
  | [] => by simp [sumW]
  | x :: xs => by
    rw [sumW_cons]
    have := wt_le h x
    have := sumW_le h xs
    simp only [List.length_cons]
    omega
theorem len_le_sumW (e : Bool) (b : Nat) : ∀ xs : List Int, xs.length ≤ sumW e b xs
  | [] => Nat.zero_le _
  | x :: xs => by
    rw [sumW_cons]
    have := wt_pos e b x
    have := len_le_sumW e b xs
    simp only [List.length_cons]
    omega
theorem sumW_take (e : Bool) (b : Nat) {xs : List Int} {k : Nat} (h : k < xs.length) : sumW e b (xs.take (k + 1)) = sumW e b (xs.take k) + wt e b (xs.getD k 0) := by
  rw [List.take_succ_eq_append_getElem h, sumW_append, sumW_cons, sumW_nil]
  simp [List.getD, h]
theorem sumW_take_le (e : Bool) (b : Nat) (xs : List Int) (k : Nat) : sumW e b (xs.take k) ≤ sumW e b xs := by
  have := sumW_append e b (xs.take k) (xs.drop k)
  rw [List.take_append_drop] at this
  omega
theorem sumW_reverse (e : Bool) (b : Nat) (xs : List Int) : sumW e b xs.reverse = sumW e b xs := by simp [sumW, List.sum_reverse]
theorem sumW_zero {e : Bool} {b : Nat} {xs : List Int} (h : sumW e b xs = 0) : xs = [] := by
  have := len_le_sumW e b xs
  cases xs
  · rfl
  · simp at this; omega

/-- i is the place on which r falls -/
def Falls (e : Bool) (b : Nat) (xs : List Int) (r i : Nat) : Prop := i < xs.length ∧ sumW e b (xs.take i) ≤ r ∧ r < sumW e b (xs.take (i + 1))
theorem Falls.one {e : Bool} {b : Nat} {xs : List Int} {r i j : Nat} (h : Falls e b xs r i) (g : Falls e b xs r j) : i = j := by
  have mono : ∀ m n, m ≤ n → sumW e b (xs.take m) ≤ sumW e b (xs.take n) := by
    intro m n hmn
    have := sumW_take_le e b (xs.take n) m
    rwa [List.take_take, Nat.min_eq_left hmn] at this
  rcases Nat.lt_trichotomy i j with h1 | h1 | h1
  · have := mono (i + 1) j h1
    have := h.2.2; have := g.2.1; omega
  · exact h1
  · have := mono (j + 1) i h1
    have := g.2.2; have := h.2.1; omega
theorem Falls.any {e : Bool} {b : Nat} {xs : List Int} {r : Nat} (h : r < sumW e b xs) : ∃ i, Falls e b xs r i := by
  have aux : ∀ n, n ≤ xs.length → r < sumW e b (xs.take n) → ∃ i, Falls e b xs r i := by
    intro n
    induction n with
    | zero => intro _ h; simp [sumW] at h
    | succ n ih =>
      intro hn hr
      rcases Nat.lt_or_ge r (sumW e b (xs.take n)) with h1 | h1
      · exact ih (by omega) h1
      · exact ⟨n, by omega, h1, hr⟩
  exact aux xs.length (Nat.le_refl _) (by rw [List.take_of_length_le (Nat.le_refl _)]; exact h)
theorem Falls.first {e : Bool} {b : Nat} {xs : List Int} (h : 0 < xs.length) : Falls e b xs 0 0 := by
  refine ⟨h, by simp [sumW], ?_⟩
  rw [sumW_take e b h]
  have := wt_pos e b (xs.getD 0 0)
  omega
theorem Falls.last {e : Bool} {b : Nat} {xs : List Int} (h : 0 < xs.length) : Falls e b xs (sumW e b xs - 1) (xs.length - 1) := by
  have h1 := sumW_take e b (xs := xs) (k := xs.length - 1) (by omega)
  rw [show xs.length - 1 + 1 = xs.length by omega, List.take_of_length_le (Nat.le_refl _)] at h1
  have := wt_pos e b (xs.getD (xs.length - 1) 0)
  refine ⟨by omega, by omega, ?_⟩
  rw [show xs.length - 1 + 1 = xs.length by omega, List.take_of_length_le (Nat.le_refl _)]
  omega
theorem Falls.snoc {e : Bool} {b : Nat} {xs : List Int} {r i : Nat} (h : Falls e b xs r i) (x : Int) : Falls e b (xs ++ [x]) r i := by
  obtain ⟨h1, h2, h3⟩ := h
  refine ⟨by simp; omega, ?_, ?_⟩
  · rw [List.take_append_of_le_length (by omega)]; exact h2
  · rw [List.take_append_of_le_length (by omega)]; exact h3
theorem Falls.back {e : Bool} {b : Nat} {xs : List Int} {r i : Nat} (h : Falls e b xs r i) : Falls e b xs.reverse (sumW e b xs - 1 - r) (xs.length - 1 - i) := by
  obtain ⟨h1, h2, h3⟩ := h
  have cut : ∀ m, m ≤ xs.length → sumW e b (xs.reverse.take (xs.length - m)) + sumW e b (xs.take m) = sumW e b xs := by
    intro m hm
    have e1 : xs.reverse.take (xs.length - m) = (xs.drop m).reverse := by
      rw [List.take_reverse]
      congr 2
      omega
    rw [e1, sumW_reverse]
    have := sumW_append e b (xs.take m) (xs.drop m)
    rw [List.take_append_drop] at this
    omega
  have c1 := cut (i + 1) (by omega)
  have c0 := cut i (by omega)
  refine ⟨by simp; omega, ?_, ?_⟩
  · rw [show xs.length - 1 - i = xs.length - (i + 1) by omega]; omega
  · rw [show xs.length - 1 - i + 1 = xs.length - i by omega]; omega
end Go.Proofs.Ytjjpgiahifkinaa
