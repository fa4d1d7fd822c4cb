/- Literals as numbers, numbers as bytes: what the functions of the package of proofs answer. -/
import Derived.Test.YtdehlikmefpgnaaDoorDratMem
import Derived.Test.YtdehlikmefpgnaaDoorLit
import Derived.Test.YtdehlikmefpgnaaDoorOwn
import Derived.Deep.LoopGhost
namespace Go.Proofs.YtdehlikmefpgnaaDoor
open Go.RowKit
set_option linter.unusedSimpArgs false
set_option linter.unusedVariables false

theorem isLiteral_any (l : Int) (w : World) (h1 : -9223372036854775808 ≤ l) (h2 : l ≤ 9223372036854775807) :
    Calls Tryd.prog 37 #[.int .i64 l] w fun e w' => e = .returned (.bool (isLit l)) ∧ w = w' := by
  have R := Lib.hid (right_any l 100000 w h1 h2 (by omega) (by omega))
  clear h1 h2
  go_enter Tryd.func37, Tryd.ntmps37
  go_wp2_with (go_at_call 50; refine R.out.mono ?_; rintro e w' ⟨rfl, rfl⟩)
  go_ret
  exact ⟨rfl, rfl⟩

theorem numberOf_any (l : Int) (w : World) (h1 : -4611686018427387000 ≤ l) (h2 : l ≤ 4611686018427387000) :
    Calls Tryd.prog 29 #[.int .i64 l] w fun e w' => e = .returned (.int .i64 (litNum l)) ∧ w = w' := by
  by_cases h : l < 0
  · have hv : litVar l = -l := litVar_neg h
    have hn : litNum l = 2 * -l + 1 := by unfold litNum; rw [hv, if_pos h]
    rw [hn]
    go_enter Tryd.func29, Tryd.ntmps29
    go_wp2_with (go_at_call 43; refine (var_any _ _ (by omega) (by omega)).mono ?_; rintro e w' ⟨rfl, rfl⟩; rw [hv])
    go_ret
    exact ⟨rfl, rfl⟩
  · have hv : litVar l = l := litVar_pos (by omega)
    have hn : litNum l = 2 * l := by unfold litNum; rw [hv, if_neg h]; omega
    rw [hn]
    go_enter Tryd.func29, Tryd.ntmps29
    go_wp2_with (go_at_call 43; refine (var_any _ _ (by omega) (by omega)).mono ?_; rintro e w' ⟨rfl, rfl⟩; rw [hv])
    go_ret
    exact ⟨rfl, rfl⟩

theorem literalOf_any (n : Int) (w : World) (h1 : 0 ≤ n) (h2 : n ≤ 4611686018427387000) :
    Calls Tryd.prog 49 #[.int .i64 n] w fun e w' => e = .returned (.int .i64 (numLit n)) ∧ w = w' := by
  by_cases h : n % 2 = 1
  · have hn : numLit n = -(n / 2) := by unfold numLit; rw [if_pos h]
    rw [hn]
    clear hn
    have hq : (n % 2 == 1) = true := by simpa using h
    clear h
    go_enter Tryd.func49, Tryd.ntmps49
    go_wp2
    go_ret
    exact ⟨rfl, rfl⟩
  · have hn : numLit n = n / 2 := by unfold numLit; rw [if_neg h]
    rw [hn]
    clear hn
    have hq : (n % 2 == 1) = false := by simpa using h
    clear h
    go_enter Tryd.func49, Tryd.ntmps49
    go_wp2
    go_ret
    exact ⟨rfl, rfl⟩

theorem Tryd.infoByte : (Tryd.prog.info? 5).map (fun i => (i.zero, i.size, i.bytes)) = some (some (.int .u8 0), 1, 1) := by kernel_rfl

/-- bytes in a row of one's own, from a block on -/
def OwnBytes (base : Nat) (xs : List UInt8) (w : World) (e : Ending) (w' : World) : Prop :=
  ∃ A c, e = .returned (.slice A xs.length c) ∧ w'.ownsRow base 5 1 (.slice A xs.length c) xs.length (Lib.byteCells xs) ∧ Below base w w'

set_option maxRecDepth 100000 in
set_option maxHeartbeats 1600000 in
theorem appendNumber_any (N B c : Nat) (A : Option Addr) (xs : List UInt8) (w : World) (hN : N < 2097152) (hown : w.ownsRow B 5 1 (.slice A xs.length c) xs.length (Lib.byteCells xs)) (hB : B ≤ w.heap.size)
    (hlen : xs.length ≤ 1099511627776) :
    Calls Tryd.prog 28 #[.slice A xs.length c, .int .i64 N] w (OwnBytes B (xs ++ nb N) w) := by
  obtain ⟨i0, hi, hz0, hz1, hz2⟩ := info_parts Tryd.infoByte
  have HOW := Lib.hid hown
  have HNL := Lib.hid (nb_len hN)
  clear hown
  go_enter Tryd.func28, Tryd.ntmps28
  go_wp2
  go_loopg [0, 1] (N + 1) (fun gk s i wr => ∃ (pre : List UInt8) (m : Nat) (A2 : Option Addr) (c2 : Nat), nb N = pre ++ nb m ∧ m < 2097152 ∧ gk = m + 1 ∧ i = .int .i64 m ∧ s = .slice A2 (xs ++ pre).length c2 ∧
    wr.ownsRow B 5 1 (.slice A2 (xs ++ pre).length c2) (xs ++ pre).length (Lib.byteCells (xs ++ pre)) ∧ Below B w wr)
  case atStart => exact ⟨[], N, A, c, rfl, hN, rfl, rfl, by simp, by simpa using HOW.out, Below.refl _ _⟩
  case round =>
    obtain ⟨pre, m, A2, c2, hpre, hm, rfl, rfl, rfl, hown, hb⟩ := hrel
    have hl3 : pre.length + (nb m).length ≤ 3 := by have := HNL.out; rw [hpre, List.length_append] at this; exact this
    obtain ⟨ys, hys⟩ : ∃ ys, ys = xs ++ pre := ⟨_, rfl⟩
    have hyl : ys.length ≤ 1099511627779 := by rw [hys, List.length_append]; omega
    rw [← hys] at hown ⊢
    have HOW2 := Lib.hid hown
    have HB2 := Lib.hid hb
    have HPRE := Lib.hid hpre
    have HYS := Lib.hid hys
    have hsz := hb.size
    clear hown hb hpre hl3 hys
    by_cases hlt : m < 128
    · have hnb := nb_low hlt
      have HNB := Lib.hid hnb
      clear hnb
      go_wp2_with (at_builtin; refine wpList_append1 _ rfl _ _ 28 rfl B 5 i0 (.int .u8 0) 1 Tryd.underlying28 hi hz0 hz1 hz2 rfl _ _ _ rfl (HOW2.out.alloc _) (.int .u8 m) wr.heap.size rfl (by go_cell) rfl (by unfold maxLen; omega) (by omega) (by simp; omega) ?_)
      intro v' w3 hown3 hg3 hob3
      obtain ⟨A3, c3, hv3, _⟩ := own_slice hown3
      subst hv3
      have HO3 := Lib.hid hown3
      have HB3 := Lib.hid ((HB2.out.alloc (by omega) _).grown hg3 (by simp; omega) (fun g hg => (HOW2.out.lt g hg).1))
      clear hown3 hg3 hob3
      go_wp2
      go_ret
      have e : xs ++ nb N = ys ++ [UInt8.ofNat m] := by rw [HPRE.out, HNB.out, HYS.out, List.append_assoc]
      have h3 := HO3.out
      refine ⟨A3, c3, ?_, ?_, HB3.out⟩
      · rw [e]; simp
      · rw [e, byteCells_append, byteCells_one, u8_low (by omega)]
        simpa using h3
    · have hnb := nb_high hlt
      have HNB := Lib.hid hnb
      clear hnb
      go_wp2_with (at_builtin; refine wpList_append1 _ rfl _ _ 28 rfl B 5 i0 (.int .u8 0) 1 Tryd.underlying28 hi hz0 hz1 hz2 rfl _ _ _ rfl (HOW2.out.alloc _) (.int .u8 (m % 128 + 128)) wr.heap.size rfl (by go_cell) rfl (by unfold maxLen; omega) (by omega) (by simp; omega) ?_)
      intro v' w3 hown3 hg3 hob3
      obtain ⟨A3, c3, hv3, _⟩ := own_slice hown3
      subst hv3
      have HO3 := Lib.hid hown3
      have HB3 := Lib.hid ((HB2.out.alloc (by omega) _).grown hg3 (by simp; omega) (fun g hg => (HOW2.out.lt g hg).1))
      clear hown3 hg3 hob3
      go_wp2
      go_roundg (m / 128 + 1)
      case measure => omega
      case rel =>
        have e : xs ++ (pre ++ [UInt8.ofNat (m % 128 + 128)]) = ys ++ [UInt8.ofNat (m % 128 + 128)] := by rw [HYS.out, List.append_assoc]
        have h3 := HO3.out
        refine ⟨pre ++ [UInt8.ofNat (m % 128 + 128)], m / 128, A3, c3, ?_, by omega, rfl, by go_num, ?_, ?_, HB3.out⟩
        · rw [HPRE.out, HNB.out]; simp
        · rw [e]; simp
        · rw [e, byteCells_append, byteCells_one, u8_low (by omega)]
          simpa using h3
end Go.Proofs.YtdehlikmefpgnaaDoor
