/- The statement on what holds, and the one on bounds, walked. -/
import Derived.Test.YtacmgahininbhaaLaw01
import Derived.Test.YtacmgahininbhaaOpen
import Derived.Deep.QuietTactic
import Derived.BigQuiet
import Derived.Outline
import Derived.WalkSmall
namespace Go.Proofs.Ytacmgahininbhaa
open Go.RowKit

theorem holdslaw_out (a : Option Addr) (len cap : Nat) (n : Int) (w : World) (h : len = 0 ∨ 200 < len) (hlen : len ≤ maxLen) :
    Calls Try.prog 5 #[.slice a len cap, .int .i64 n] w fun e w' => e = .returned (.bool true) ∧ Below w.heap.size w w' := by
  unfold maxLen at hlen
  rcases h with rfl | h
  · go_enter Try.func5, Try.ntmps5
    go_wp2_with fail
    refine (fit_any _).mono ?_
    rintro e w1 ⟨rfl, hb⟩
    go_wp2
    go_ret
    exact ⟨rfl, hb⟩
  · have h' : ((len : Int) == 0) = false := by simp; omega
    go_enter Try.func5, Try.ntmps5
    go_wp2_with fail
    refine (fit_any _).mono ?_
    rintro e w1 ⟨rfl, hb⟩
    go_wp2
    go_ret
    exact ⟨rfl, hb⟩

theorem holdslaw_in (b off len cap : Nat) (z : Nat → Bool) (n : Int) (w : World) (h0 : 0 < len) (h1 : len ≤ 200) (hold : b < w.heap.size)
    (hc : ∀ j, j < len → w.cell? ⟨b, off + j, none⟩ = some (.bool (z j))) :
    Calls Try.prog 5 #[.slice (some ⟨b, off, none⟩) len cap, .int .i64 n] w fun e w' => e = .returned (.bool true) ∧ Below w.heap.size w w' := by
  obtain ⟨m, hm⟩ : ∃ m : Nat, bits .and .i64 n 65535 = (m : Int) := ⟨(n % 65536).toNat, by rw [i64_and_65535]; omega⟩
  obtain ⟨k, hk⟩ : ∃ k : Nat, (m : Int) % (len : Int) = (k : Int) := ⟨m % len, by omega⟩
  have hmb : m < 65536 := by have := i64_and_65535 n; omega
  have hkl : k < len := by have : (m : Int) % len < len := Int.emod_lt_of_pos _ (by omega); omega
  have h' : ((len : Int) == 0) = false := by simp; omega
  have p1 : litHolds (1 + (k : Int)) len z = z k := by rw [Int.add_comm]; exact litHolds_pos hkl
  have p2 : litHolds (-(1 + (k : Int))) len z = !z k := by rw [Int.add_comm]; exact litHolds_neg hkl
  have HC : Hid (∀ j, j < len → w.cell? ⟨b, off + j, none⟩ = some (.bool (z j))) := hc
  clear hc
  go_enter Try.func5, Try.ntmps5
  go_wp2_with fail
  refine (fit_any _).mono ?_
  rintro e w1 ⟨rfl, hb⟩
  have HC1 : Hid (∀ j, j < len → w1.cell? ⟨b, off + j, none⟩ = some (.bool (z j))) := fun j hj => by rw [hb.cell (by exact hold)]; exact HC.out j hj
  have hcell : w1.cell? ⟨b, off + k, none⟩ = some (.bool (z k)) := HC1.out k hkl
  go_wp2_with fail
  have e1 : IntKind.i64.wrap (1 + (k : Int) - 1) = (k : Int) := by rw [IntWalk.i64_in _ ⟨by omega, by omega⟩]; omega
  have e2 : IntKind.i64.wrap (-(1 + (k : Int))) = -(1 + (k : Int)) := IntWalk.i64_in _ ⟨by omega, by omega⟩
  have e3 : (0 : Int) ≤ (k : Int) := by omega
  have e4 : ((k : Int)).toNat = k := by omega
  have e5 : (k : Int) < (len : Int) := by omega
  have HQ : ∀ (l : Int) (i : Nat), -9223372036854775807 ≤ l → l ≤ 9223372036854775807 → Calls Try.prog 14 #[.int .i64 l, .slice (some ⟨b, off, none⟩) len cap] (w1.drewN i) fun e w' => e = .returned (.bool (litHolds l len z)) ∧ w' = w1.drewN i :=
    fun l i a1 a2 => (holds_any l b off len cap z (w1.drewN i) a1 a2 (by omega) HC1.out).mono fun _ _ ⟨he, hw⟩ => ⟨he, hw.symm⟩
  go_quiet ((go_at_call 14; exact Calls.quiet_of_same (HQ _ _ (by omega) (by omega))))
  clear e1 e2 e3 e4 e5 HQ
  go_wp2
  go_ret
  exact ⟨rfl, below_drewN hb _⟩

theorem holdslaw_any (a : Option Addr) (len cap : Nat) (z : Nat → Bool) (n : Int) (w : World) (h : IsBools w a len cap z) :
    Calls Try.prog 5 #[.slice a len cap, .int .i64 n] w fun e w' => e = .returned (.bool true) ∧ Below w.heap.size w w' := by
  obtain ⟨h1, h2, h3⟩ := h
  by_cases ho : len = 0 ∨ 200 < len
  · exact holdslaw_out a len cap n w ho (by omega)
  · obtain ⟨b, off, rfl, hb, hc⟩ := h3 (by omega)
    exact holdslaw_in b off len cap z n w (by omega) (by omega) hb (fun j hj => hc j (by omega))

theorem at_sign (i : Int) (h : 0 ≤ i) : ((i % 2 == 1) = true ∧ litAt i < 0) ∨ ((i % 2 == 1) = false ∧ 0 < litAt i) := by
  unfold litAt
  by_cases h2 : i % 2 = 0
  · rw [if_pos h2]; exact .inr ⟨by simp [h2], by omega⟩
  · rw [if_neg h2]; exact .inl ⟨by simp; omega, by omega⟩
theorem at_right (i : Int) (h : 0 ≤ i) (h' : i < 200000) : litRight (litAt i) 100000 = true := by
  rw [litRight_iff]; unfold litAt; split <;> omega
theorem at_var (i : Int) (h : 0 ≤ i) : litVar (litAt i) = i / 2 + 1 := by
  unfold litVar litAt; split <;> split <;> omega
theorem at_bd (i : Int) (h : 0 ≤ i) (h' : i < 200000) : -100000 ≤ litAt i ∧ litAt i ≤ 100000 := by
  unfold litAt; split <;> omega
theorem cmp_less (i : Int) : cmpInt (i - 1) i = -1 := by unfold cmpInt; rw [if_pos (by omega)]

set_option maxHeartbeats 400000 in
theorem bounds_any (k : Int) (w : World) (hk0 : 0 ≤ k) (hk : k < 65536) :
    Calls Try.prog 6 #[.int .u16 k] w fun e w' => e = .returned (.bool true) ∧ Below w.heap.size w w' := by
  go_enter Try.func6, Try.ntmps6
  go_wp2_with fail
  refine (fit_any _).mono ?_
  rintro e w1 ⟨rfl, hb⟩
  go_wp2_with fail
  obtain ⟨w2, hw2⟩ : ∃ w2, w2 = w1.alloc (Obj.cells #[Value.int IntKind.i64 k, Value.int IntKind.i64 (199999 - k)] 3) := ⟨_, rfl⟩
  have c0 : w2.cell? ⟨w1.heap.size, 0, none⟩ = some (.int .i64 k) := by rw [hw2]; go_cell
  have c1 : w2.cell? ⟨w1.heap.size, 1, none⟩ = some (.int .i64 (199999 - k)) := by rw [hw2]; go_cell
  have hb2 : Below w.heap.size w w2 := by rw [hw2]; exact hb.alloc hb.size _
  rw [← hw2]
  clear hw2
  go_loop [16] (fun i => ∃ j : Nat, j ≤ 2 ∧ i = .int .i64 j) (fun i => 2 - (intOf i).toNat)
  case atStart => exact ⟨0, by omega, rfl⟩
  case round =>
    obtain ⟨j, hj, rfl⟩ := hrel
    rcases (by omega : j = 0 ∨ j = 1 ∨ j = 2) with rfl | rfl | rfl
    · clear c1
      obtain ⟨HB1, HB2⟩ := at_bd (k) (by omega) (by omega)
      have RR := at_right (k) (by omega) (by omega)
      have VV := at_var (k) (by omega)
      have II := litIndex_at (i := k) (by omega)
      have II' := litIndex_at (i := k - 1)
      by_cases hp : 0 < k
      · have II' := litIndex_at (i := k - 1) (by omega)
        obtain ⟨HB3, HB4⟩ := at_bd (k - 1) (by omega) (by omega)
        rcases at_sign k (by omega) with ⟨S1, S2⟩ | ⟨S1, S2⟩
        all_goals go_wp2_with (first
          | (go_at_call 11; ((with_reducible refine (at_any _ _ (by omega) (by omega)).mono ?_); rintro e w' ⟨rfl, rfl⟩))
          | (go_at_call 8; ((with_reducible refine (right_any _ _ _ (by omega) (by omega) (by omega) (by omega)).mono ?_); rintro e w' ⟨rfl, rfl⟩; rw [RR]))
          | (go_at_call 10; ((with_reducible refine (index_any _ _ (by omega) (by omega)).mono ?_); rintro e w' ⟨rfl, rfl⟩; rw [II]))
          | (go_at_call 12; ((with_reducible refine (var_any _ _ (by omega) (by omega)).mono ?_); rintro e w' ⟨rfl, rfl⟩; rw [VV]))
          | (go_at_call 13; ((with_reducible refine (compare_any _ _ _ (by omega) (by omega) (by omega) (by omega)).mono ?_); rintro e w' ⟨rfl, rfl⟩; rw [II, II', cmp_less])))
        all_goals go_round
        all_goals first
          | (case rel => exact ⟨1, by omega, rfl⟩)
          | (case measure => simp [intOf])
      · have hp' : k ≤ 0 := by omega
        clear II'
        rcases at_sign k (by omega) with ⟨S1, S2⟩ | ⟨S1, S2⟩
        all_goals go_wp2_with (first
          | (go_at_call 11; ((with_reducible refine (at_any _ _ (by omega) (by omega)).mono ?_); rintro e w' ⟨rfl, rfl⟩))
          | (go_at_call 8; ((with_reducible refine (right_any _ _ _ (by omega) (by omega) (by omega) (by omega)).mono ?_); rintro e w' ⟨rfl, rfl⟩; rw [RR]))
          | (go_at_call 10; ((with_reducible refine (index_any _ _ (by omega) (by omega)).mono ?_); rintro e w' ⟨rfl, rfl⟩; rw [II]))
          | (go_at_call 12; ((with_reducible refine (var_any _ _ (by omega) (by omega)).mono ?_); rintro e w' ⟨rfl, rfl⟩; rw [VV]))
          | (go_at_call 13; ((with_reducible refine (compare_any _ _ _ (by omega) (by omega) (by omega) (by omega)).mono ?_); rintro e w' ⟨rfl, rfl⟩; fail)))
        all_goals go_round
        all_goals first
          | (case rel => exact ⟨1, by omega, rfl⟩)
          | (case measure => simp [intOf])
    · clear c0
      obtain ⟨HB1, HB2⟩ := at_bd (199999 - k) (by omega) (by omega)
      have RR := at_right (199999 - k) (by omega) (by omega)
      have VV := at_var (199999 - k) (by omega)
      have II := litIndex_at (i := 199999 - k) (by omega)
      obtain ⟨HB3, HB4⟩ := at_bd (199999 - k - 1) (by omega) (by omega)
      have II' := litIndex_at (i := 199999 - k - 1) (by omega)
      rcases at_sign (199999 - k) (by omega) with ⟨S1, S2⟩ | ⟨S1, S2⟩
      all_goals go_wp2_with (first
        | (go_at_call 11; ((with_reducible refine (at_any _ _ (by omega) (by omega)).mono ?_); rintro e w' ⟨rfl, rfl⟩))
        | (go_at_call 8; ((with_reducible refine (right_any _ _ _ (by omega) (by omega) (by omega) (by omega)).mono ?_); rintro e w' ⟨rfl, rfl⟩; rw [RR]))
        | (go_at_call 10; ((with_reducible refine (index_any _ _ (by omega) (by omega)).mono ?_); rintro e w' ⟨rfl, rfl⟩; rw [II]))
        | (go_at_call 12; ((with_reducible refine (var_any _ _ (by omega) (by omega)).mono ?_); rintro e w' ⟨rfl, rfl⟩; rw [VV]))
        | (go_at_call 13; ((with_reducible refine (compare_any _ _ _ (by omega) (by omega) (by omega) (by omega)).mono ?_); rintro e w' ⟨rfl, rfl⟩; rw [II, II', cmp_less])))
      all_goals go_round
      all_goals first
        | (case rel => exact ⟨2, by omega, rfl⟩)
        | (case measure => simp [intOf])
    · clear c0 c1
      have R1 : litRight (k + 1) k = false := by rw [Bool.eq_false_iff]; intro h; have := litRight_iff.1 h; omega
      have R2 : litRight (k + 1) (k + 1) = true := litRight_iff.2 (by omega)
      have R3 : litRight (-k - 1) (k + 1) = true := litRight_iff.2 (by omega)
      have H1 := Lib.hid R1
      have H2 := Lib.hid R2
      have H3 := Lib.hid R3
      clear R1 R2 R3
      go_wp2_with (go_at_call 8; ((with_reducible refine (right_any _ _ _ (by omega) (by omega) (by omega) (by omega)).mono ?_); rintro e w' ⟨rfl, rfl⟩; first | rw [H1.out] | rw [H2.out] | rw [H3.out]))
      go_ret
      exact ⟨rfl, hb2⟩
end Go.Proofs.Ytacmgahininbhaa
