/- Small facts on bits of an int: a mask of low ones leaves a remainder; a flip of the lowest bit. -/
import Derived.WalkKit
namespace Go.Proofs.Ytnimmlfccgnneaa

theorem i64_mask (i : Nat) (hi : i < 63) (n : Int) : bits .and .i64 n ((2 ^ i - 1 : Nat) : Int) = n % ((2 ^ i : Nat) : Int) := by
  have hlt : 2 ^ i < 2 ^ 63 := Nat.pow_lt_pow_right (by decide) hi
  have hpos : 0 < 2 ^ i := Nat.two_pow_pos i
  have hm : (BitVec.ofInt 64 ((2 ^ i - 1 : Nat) : Int)).toNat = 2 ^ i - 1 := by
    rw [BitVec.ofInt_natCast, BitVec.toNat_ofNat, Nat.mod_eq_of_lt (by omega)]
  have key : (BitVec.ofInt 64 n &&& BitVec.ofInt 64 ((2 ^ i - 1 : Nat) : Int)).toNat = (n % ((2 ^ 64 : Nat) : Int)).toNat % 2 ^ i := by
    rw [BitVec.toNat_and, BitVec.toNat_ofInt, hm, Nat.and_two_pow_sub_one_eq_mod]
  show IntKind.i64.wrap ((BitVec.ofInt 64 n &&& BitVec.ofInt 64 ((2 ^ i - 1 : Nat) : Int)).toNat : Nat) = _
  rw [key]
  have h0 : 0 ≤ n % ((2 ^ 64 : Nat) : Int) := Int.emod_nonneg _ (by decide)
  have hd : ((2 ^ i : Nat) : Int) ∣ ((2 ^ 64 : Nat) : Int) := Int.natCast_dvd_natCast.2 (Nat.pow_dvd_pow 2 (by omega))
  have e : (((n % ((2 ^ 64 : Nat) : Int)).toNat % 2 ^ i : Nat) : Int) = n % ((2 ^ i : Nat) : Int) := by
    rw [Int.natCast_emod, Int.toNat_of_nonneg h0, Int.emod_emod_of_dvd _ hd]
  rw [e]
  have b0 := Int.emod_nonneg n (b := ((2 ^ i : Nat) : Int)) (by omega)
  have b1 := Int.emod_lt_of_pos n (b := ((2 ^ i : Nat) : Int)) (by omega)
  exact IntWalk.i64_in _ ⟨by omega, by omega⟩

theorem i64_and_1 (n : Int) : bits .and .i64 n 1 = n % 2 := i64_mask 1 (by decide) n
theorem i64_and_65535 (n : Int) : bits .and .i64 n 65535 = n % 65536 := i64_mask 16 (by decide) n
theorem i64_and_1048575 (n : Int) : bits .and .i64 n 1048575 = n % 1048576 := i64_mask 20 (by decide) n

theorem i16_and_1 (n : Int) : bits .and .i16 n 1 = n % 2 := by
  have key : (BitVec.ofInt 16 n &&& BitVec.ofInt 16 1).toNat = (n % 65536).toNat % 2 := by
    rw [BitVec.toNat_and, BitVec.toNat_ofInt, show (BitVec.ofInt 16 1).toNat = 2 ^ 1 - 1 by decide, Nat.and_two_pow_sub_one_eq_mod]
    rfl
  show IntKind.i16.wrap ((BitVec.ofInt 16 n &&& BitVec.ofInt 16 1).toNat : Nat) = _
  rw [key]
  have e : (((n % 65536).toNat % 2 : Nat) : Int) = n % 2 := by omega
  rw [e]
  rcases Int.emod_two_eq n with h | h <;> rw [h] <;> decide
theorem u16_wrap (n : Int) : IntKind.u16.wrap n = n % 65536 := by simp [IntKind.wrap, IntKind.signed, IntKind.bits]

theorem i64_xor_1 (n : Int) (h0 : 0 ≤ n) (h1 : n < 4611686018427387904) : bits .xor .i64 n 1 = if n % 2 = 0 then n + 1 else n - 1 := by
  obtain ⟨m, rfl⟩ := Int.eq_ofNat_of_zero_le h0
  have hm : m < 4611686018427387904 := by omega
  have e1 : (BitVec.ofInt 64 (m : Int)).toNat = m := by rw [BitVec.ofInt_natCast, BitVec.toNat_ofNat, Nat.mod_eq_of_lt (by omega)]
  have e2 : (BitVec.ofInt 64 1).toNat = 1 := by decide
  show IntKind.i64.wrap ((BitVec.ofInt 64 (m : Int) ^^^ BitVec.ofInt 64 1).toNat : Nat) = _
  rw [BitVec.toNat_xor, e1, e2]
  have e3 : m ^^^ 1 = if m % 2 = 0 then m + 1 else m - 1 := by
    have d : (m ^^^ 1) / 2 = m / 2 := by rw [Nat.xor_div_two, show 1 / 2 = 0 from rfl, Nat.xor_zero]
    have r : (m ^^^ 1) % 2 = 1 ↔ ¬ (m % 2 = 1) := by rw [Nat.xor_mod_two_eq_one]; simp
    by_cases h : m % 2 = 0
    · rw [if_pos h]; have := r.2 (by omega); omega
    · rw [if_neg h]; have : ¬ (m ^^^ 1) % 2 = 1 := fun hh => (r.1 hh) (by omega)
      omega
  rw [e3]
  by_cases h : m % 2 = 0
  · rw [if_pos h, if_pos (by omega), IntWalk.i64_in _ ⟨by omega, by omega⟩]; omega
  · rw [if_neg h, if_neg (by omega), IntWalk.i64_in _ ⟨by omega, by omega⟩]; omega
end Go.Proofs.Ytnimmlfccgnneaa
