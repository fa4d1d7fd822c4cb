/- The plain mathematics of trying all assignments in their order: the number that an assignment is, the next one that differs in its first variables. -/
import Derived.Test.YtdacdodigbpdoaaCnfMath
namespace Go.Proofs.Ytdacdodigbpdoaa

/-- the number that a row of bools is, the last one the lowest -/
def bval : List Bool → Nat
  | [] => 0
  | b :: r => (if b then 2 ^ r.length else 0) + bval r
theorem bval_lt : ∀ z : List Bool, bval z < 2 ^ z.length
  | [] => by simp [bval]
  | b :: r => by
    have := bval_lt r
    simp only [bval, List.length_cons, Nat.pow_succ]
    split <;> omega
theorem bval_append : ∀ (p q : List Bool), bval (p ++ q) = bval p * 2 ^ q.length + bval q
  | [], q => by simp [bval]
  | b :: r, q => by
    simp only [List.cons_append, bval, bval_append r q, List.length_append, Nat.add_mul, Nat.pow_add]
    split <;> omega
theorem bval_inj : ∀ (p q : List Bool), p.length = q.length → bval p = bval q → p = q
  | [], [], _, _ => rfl
  | a :: r, b :: s, hl, h => by
    have hl' : r.length = s.length := by simpa using hl
    have h1 := bval_lt r
    have h2 := bval_lt s
    simp only [bval, hl'] at h h1
    have hab : a = b := by
      rcases a <;> rcases b <;> first | rfl | (exfalso; simp at h; omega)
    subst hab
    rw [bval_inj r s hl' (by omega)]
theorem bval_false : ∀ n, bval (List.replicate n false) = 0
  | 0 => rfl
  | n + 1 => by simp [List.replicate_succ, bval, bval_false n]
theorem bval_true : ∀ n, bval (List.replicate n true) = 2 ^ n - 1
  | 0 => rfl
  | n + 1 => by
    have := Nat.two_pow_pos n
    simp [List.replicate_succ, bval, bval_true n, Nat.pow_succ]; omega

/-- what lies ahead of the next one -/
theorem bval_next {z b : List Bool} {i n : Nat} (hl : b.length = z.length) (hi : i < n) (hn : n ≤ z.length) (h0 : z.getD i false = false) (h1 : ∀ j, i < j → j < n → z.getD j false = true)
    (h : bval b < bval (z.take i ++ true :: List.replicate (z.length - i - 1) false)) : bval b < bval z ∨ b.take n = z.take n := by
  have hp : z.take n = z.take i ++ false :: List.replicate (n - i - 1) true := by
    apply List.ext_getElem
    · simp; omega
    · intro j hj1 hj2
      simp only [List.length_take] at hj1
      have hjz : j < z.length := by omega
      have hz : z.getD j false = z[j] := by simp [List.getD, hjz]
      rcases Nat.lt_trichotomy j i with hlt | rfl | hgt
      · rw [List.getElem_append_left (by simp; omega)]; simp
      · rw [List.getElem_append_right (by simp; omega)]
        simp only [List.getElem_take, List.length_take, Nat.min_eq_left (show j ≤ z.length by omega), Nat.sub_self, List.getElem_cons_zero]
        rw [← hz, h0]
      · rw [List.getElem_append_right (by simp; omega)]
        have := h1 j hgt (by omega)
        rw [hz] at this
        have e : j - (z.take i).length = (j - i - 1) + 1 := by simp; omega
        simp only [List.getElem_take, this]
        simp only [e, List.getElem_cons_succ, List.getElem_replicate]
  have hz : z = z.take n ++ z.drop n := (List.take_append_drop n z).symm
  have hb : b = b.take n ++ b.drop n := (List.take_append_drop n b).symm
  have ez : bval z = bval (z.take n) * 2 ^ (z.length - n) + bval (z.drop n) := by
    conv => lhs; rw [hz]
    rw [bval_append, List.length_drop]
  have eb : bval b = bval (b.take n) * 2 ^ (z.length - n) + bval (b.drop n) := by
    conv => lhs; rw [hb]
    rw [bval_append, List.length_drop, hl]
  have en : bval (z.take i ++ true :: List.replicate (z.length - i - 1) false) = (bval (z.take n) + 1) * 2 ^ (z.length - n) := by
    have e1 : z.take i ++ true :: List.replicate (z.length - i - 1) false = (z.take i ++ true :: List.replicate (n - i - 1) false) ++ List.replicate (z.length - n) false := by
      rw [List.append_assoc, List.cons_append, List.replicate_append_replicate, show n - i - 1 + (z.length - n) = z.length - i - 1 by omega]
    rw [e1, bval_append, bval_false, hp, List.length_replicate]
    rw [bval_append, bval_append]
    simp only [bval, bval_false, bval_true, List.length_cons, List.length_replicate]
    have := Nat.two_pow_pos (n - i - 1)
    simp only [↓reduceIte, Bool.false_eq_true]
    rw [Nat.add_zero]
    congr 1
    omega
  have hd := bval_lt (b.drop n)
  rw [List.length_drop, hl] at hd
  rw [en, eb] at h
  by_cases hc : bval (b.take n) < bval (z.take n)
  · left
    rw [ez, eb]
    have : (bval (b.take n) + 1) * 2 ^ (z.length - n) ≤ bval (z.take n) * 2 ^ (z.length - n) := Nat.mul_le_mul_right _ hc
    rw [Nat.add_mul] at this
    omega
  · right
    refine bval_inj _ _ (by simp; omega) ?_
    by_cases hc2 : bval (b.take n) = bval (z.take n)
    · exact hc2
    · have : (bval (z.take n) + 1) * 2 ^ (z.length - n) ≤ bval (b.take n) * 2 ^ (z.length - n) := Nat.mul_le_mul_right _ (by omega)
      omega
/-- the next one lies behind -/
theorem bval_step {z : List Bool} {i : Nat} (hi : i < z.length) (h0 : z.getD i false = false) : bval z < bval (z.take i ++ true :: List.replicate (z.length - i - 1) false) := by
  have hz : z = z.take i ++ false :: z.drop (i + 1) := by
    have e : z[i] = false := by simpa [List.getD, hi] using h0
    conv => lhs; rw [← List.take_append_drop i z, List.drop_eq_getElem_cons hi, e]
  have ez : bval z = bval (z.take i) * 2 ^ (z.length - i - 1 + 1) + bval (z.drop (i + 1)) := by
    conv => lhs; rw [hz]
    rw [bval_append]
    simp only [bval, List.length_cons, List.length_drop, Bool.false_eq_true, ↓reduceIte, Nat.zero_add]
    rw [show z.length - (i + 1) + 1 = z.length - i - 1 + 1 by omega]
  have hd := bval_lt (z.drop (i + 1))
  rw [List.length_drop, show z.length - (i + 1) = z.length - i - 1 by omega] at hd
  rw [bval_append]
  simp only [bval, bval_false, List.length_cons, List.length_replicate, ↓reduceIte]
  omega
/-- where the first ones are all true, what doesn't lie ahead has the same first ones -/
theorem bval_last {z b : List Bool} {n : Nat} (hl : b.length = z.length) (hn : n ≤ z.length) (h1 : ∀ j, j < n → z.getD j false = true) (h : bval z ≤ bval b) : b.take n = z.take n := by
  have hp : z.take n = List.replicate n true := by
    apply List.ext_getElem
    · simp; omega
    · intro j hj1 hj2
      simp only [List.length_take] at hj1
      have := h1 j (by omega)
      simp [List.getD, show j < z.length by omega] at this
      simp [this]
  have ez : bval z = bval (z.take n) * 2 ^ (z.length - n) + bval (z.drop n) := by
    conv => lhs; rw [← List.take_append_drop n z]
    rw [bval_append, List.length_drop]
  have eb : bval b = bval (b.take n) * 2 ^ (z.length - n) + bval (b.drop n) := by
    conv => lhs; rw [← List.take_append_drop n b]
    rw [bval_append, List.length_drop, hl]
  refine bval_inj _ _ (by simp; omega) ?_
  have hd := bval_lt (b.drop n)
  rw [List.length_drop, hl] at hd
  have hb := bval_lt (b.take n)
  rw [List.length_take, hl, Nat.min_eq_left hn] at hb
  have hz : bval (z.take n) = 2 ^ n - 1 := by rw [hp, bval_true]
  by_cases hc : bval (b.take n) < bval (z.take n)
  · have : (bval (b.take n) + 1) * 2 ^ (z.length - n) ≤ bval (z.take n) * 2 ^ (z.length - n) := Nat.mul_le_mul_right _ hc
    rw [Nat.add_mul] at this
    omega
  · omega

/-- the greatest variable of a clause -/
def maxVar (c : List Int) : Int := c.foldl (fun m l => max m (litVar l)) 0
theorem maxVar_snoc (c : List Int) (l : Int) : maxVar (c ++ [l]) = max (maxVar c) (litVar l) := by simp [maxVar, List.foldl_append]
theorem foldl_max_le (c : List Int) : ∀ m : Int, m ≤ c.foldl (fun m l => max m (litVar l)) m := by
  induction c with
  | nil => intro m; exact Int.le_refl _
  | cons l r ih => intro m; have := ih (max m (litVar l)); simp only [List.foldl_cons]; omega
theorem maxVar_nonneg (c : List Int) : 0 ≤ maxVar c := foldl_max_le c 0
theorem foldl_max_mem (c : List Int) : ∀ (m : Int), ∀ l ∈ c, litVar l ≤ c.foldl (fun m l => max m (litVar l)) m := by
  induction c with
  | nil => intro m l h; cases h
  | cons x r ih =>
    intro m l h
    simp only [List.foldl_cons]
    rcases List.mem_cons.1 h with rfl | h
    · have := foldl_max_le r (max m (litVar l)); omega
    · exact ih _ l h
theorem maxVar_mem {c : List Int} {l : Int} (h : l ∈ c) : litVar l ≤ maxVar c := foldl_max_mem c 0 l h
/-- assignments that agree as far as the clause goes -/
theorem clauseSat_agree {z b : List Bool} {c : List Int} {n : Nat} (hl : b.length = z.length) (hn : (n : Int) = min (maxVar c) z.length) (h : b.take n = z.take n) : clauseSat b c = clauseSat z c := by
  unfold clauseSat
  rw [Bool.eq_iff_iff, List.any_eq_true, List.any_eq_true]
  have key : ∀ l ∈ c, litHolds l b.length (fun j => b.getD j false) = litHolds l z.length (fun j => z.getD j false) := by
    intro l hlc
    have hm := maxVar_mem hlc
    unfold litHolds
    rw [hl]
    split
    · rename_i hv
      have hj : (litVar l - 1).toNat < n := by omega
      have e : ∀ (x : List Bool) (k : Nat), k < n → x.getD k false = (x.take n).getD k false := by
        intro x k hx
        simp [List.getD, hx]
      show (b.getD _ false == _) = (z.getD _ false == _)
      rw [e b _ hj, e z _ hj, h]
    · rfl
  constructor <;> rintro ⟨l, h1, h2⟩ <;> refine ⟨l, h1, ?_⟩
  · rw [← key l h1]; exact h2
  · rw [key l h1]; exact h2
/-- a clause that isn't satisfied -/
theorem formSat_false {z : List Bool} {xss : List (List Int)} {k : Nat} (hk : k < xss.length) (h : clauseSat z (xss.getD k []) = false) : formSat z xss = false := by
  unfold formSat
  rw [List.all_eq_false]
  refine ⟨xss[k], List.getElem_mem hk, ?_⟩
  simp [List.getD, hk] at h
  simp [h]
end Go.Proofs.Ytdacdodigbpdoaa
