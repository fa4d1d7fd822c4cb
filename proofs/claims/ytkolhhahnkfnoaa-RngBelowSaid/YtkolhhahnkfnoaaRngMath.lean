/- The numbers behind a seed, as plain numbers: unlike ones are followed by unlike ones. No program is named here. -/
import Derived.WalkKit
import Derived.Laws.BitsAllLaws
namespace Go.Proofs.Ytkolhhahnkfnoaa

/-- exclusive or with what is shifted up -/
def up64 (x s : Nat) : Nat := x ^^^ (x * 2 ^ s % 2 ^ 64)
/-- exclusive or with what is shifted down -/
def down64 (x s : Nat) : Nat := x ^^^ (x / 2 ^ s)
/-- the number behind one -/
def stepN (x : Nat) : Nat := up64 (down64 (up64 x 13) 7) 17

theorem up_lt {x s : Nat} (h : x < 2 ^ 64) : up64 x s < 2 ^ 64 := Nat.xor_lt_two_pow h (Nat.mod_lt _ (by decide))
theorem down_lt {x s : Nat} (h : x < 2 ^ 64) : down64 x s < 2 ^ 64 := Nat.xor_lt_two_pow h (Nat.lt_of_le_of_lt (Nat.div_le_self _ _) h)
theorem step_lt {x : Nat} (h : x < 2 ^ 64) : stepN x < 2 ^ 64 := up_lt (down_lt (up_lt h))

theorem up_bit (x s i : Nat) : (up64 x s).testBit i = (x.testBit i ^^ (decide (i < 64) && (decide (s ≤ i) && x.testBit (i - s)))) := by
  unfold up64
  rw [Nat.testBit_xor, Nat.testBit_mod_two_pow, ← Nat.shiftLeft_eq, Nat.testBit_shiftLeft]
theorem down_bit (x s i : Nat) : (down64 x s).testBit i = (x.testBit i ^^ x.testBit (s + i)) := by
  unfold down64
  rw [Nat.testBit_xor, ← Nat.shiftRight_eq_div_pow, Nat.testBit_shiftRight]

theorem up_inj {x y s : Nat} (hs : 0 < s) (h : up64 x s = up64 y s) : x = y := by
  refine Nat.eq_of_testBit_eq fun i => ?_
  induction i using Nat.strongRecOn with
  | _ i ih =>
    have hb : (up64 x s).testBit i = (up64 y s).testBit i := by rw [h]
    rw [up_bit, up_bit] at hb
    by_cases h2 : s ≤ i
    · rw [ih (i - s) (by omega)] at hb
      exact Bool.xor_left_inj.1 hb
    · simpa [h2] using hb
theorem down_inj {x y s : Nat} (hs : 0 < s) (hx : x < 2 ^ 64) (hy : y < 2 ^ 64) (h : down64 x s = down64 y s) : x = y := by
  have big : ∀ i, 64 ≤ i → x.testBit i = y.testBit i := fun i hi => by
    rw [Nat.testBit_lt_two_pow (Nat.lt_of_lt_of_le hx (Nat.pow_le_pow_right (by decide) hi)), Nat.testBit_lt_two_pow (Nat.lt_of_lt_of_le hy (Nat.pow_le_pow_right (by decide) hi))]
  have all : ∀ n i, 64 - i ≤ n → x.testBit i = y.testBit i := by
    intro n
    induction n with
    | zero => exact fun i hi => big i (by omega)
    | succ n ih =>
      intro i hi
      by_cases h6 : 64 ≤ i
      · exact big i h6
      · have hb : (down64 x s).testBit i = (down64 y s).testBit i := by rw [h]
        rw [down_bit, down_bit, ih (s + i) (by omega)] at hb
        exact Bool.xor_left_inj.1 hb
  exact Nat.eq_of_testBit_eq fun i => all 64 i (by omega)
theorem step_inj {x y : Nat} (hx : x < 2 ^ 64) (hy : y < 2 ^ 64) (h : stepN x = stepN y) : x = y :=
  up_inj (by decide) (down_inj (by decide) (up_lt hx) (up_lt hy) (up_inj (by decide) h))
theorem step_zero : stepN 0 = 0 := by decide
theorem step_one : stepN 1 = 1082269761 := by decide
theorem step_eq_zero {x : Nat} (hx : x < 2 ^ 64) : stepN x = 0 ↔ x = 0 :=
  ⟨fun h => step_inj hx (by decide) (h.trans step_zero.symm), fun h => by rw [h]; exact step_zero⟩

/-- a bit more of a number -/
theorem mod_bit (z i : Nat) : z % 2 ^ (i + 1) = z % 2 ^ i + z / 2 ^ i % 2 * 2 ^ i := by
  rw [Nat.pow_succ, Nat.mod_mul, Nat.mul_comm]
theorem or_bit {z i : Nat} (h : z < 2 ^ i) : z ||| 2 ^ i = z + 2 ^ i := by
  have := Nat.two_pow_add_eq_or_of_lt h 1
  rw [Nat.mul_one, Nat.or_comm] at this
  omega
theorem xor_bit (x y i : Nat) : (x ^^^ y) / 2 ^ i % 2 = if x / 2 ^ i % 2 = y / 2 ^ i % 2 then 0 else 1 := by
  rw [← Nat.shiftRight_eq_div_pow, ← Nat.shiftRight_eq_div_pow, ← Nat.shiftRight_eq_div_pow, Nat.shiftRight_xor_distrib]
  have r := Nat.xor_mod_two_eq_one (a := x >>> i) (b := y >>> i)
  split <;> omega
/-- the law's own exclusive or: so far -/
theorem turn_step (x y i : Nat) : (x ^^^ y) % 2 ^ (i + 1) = if x / 2 ^ i % 2 = y / 2 ^ i % 2 then (x ^^^ y) % 2 ^ i else (x ^^^ y) % 2 ^ i ||| 2 ^ i := by
  rw [mod_bit, xor_bit]
  split
  · simp
  · rw [or_bit (Nat.mod_lt _ (Nat.two_pow_pos i))]; simp
end Go.Proofs.Ytkolhhahnkfnoaa
