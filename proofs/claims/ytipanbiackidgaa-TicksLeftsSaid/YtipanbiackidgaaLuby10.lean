/- The statement on the row. -/
import Derived.Test.YtipanbiackidgaaReckon10
namespace Go.Proofs.Ytipanbiackidgaa
open Go.RowKit
set_option linter.unusedVariables false
set_option linter.unusedSimpArgs false

theorem infoI10 : (Try.prog.info? 3).map (fun i => (i.zero, i.size, i.bytes)) = some (some (.int .i64 0), 1, 8) := by kernel_rfl
def rowV (k : Nat) : List Value := (rowN k).map fun (x : Nat) => .int .i64 (x : Int)
theorem rowV_length (k : Nat) : (rowV k).length = 2 ^ k - 1 := by simp [rowV, rowN_length]
theorem rowV_getD (k j : Nat) (h : j < 2 ^ k - 1) (d : Value) : (rowV k).getD j d = .int .i64 (((rowN k).getD j 0 : Nat) : Int) := by
  have := rowN_length k
  have hj : j < (rowN k).length := by omega
  simp [rowV, List.getD, hj]
theorem rowV_twice (k : Nat) (d : Value) : rowV k ++ (List.range (2 ^ k - 1)).map (fun j => (rowV k).getD j d) ++ [.int .i64 ((2 ^ k : Nat) : Int)] = rowV (k + 1) := by
  have e : (List.range (2 ^ k - 1)).map (fun j => (rowV k).getD j d) = rowV k := by
    apply List.ext_getElem
    · simp [rowV_length]
    · intro j h1 h2
      simp [List.getD, h2]
  rw [e]
  simp [rowV, rowN]

set_option maxRecDepth 20000 in
set_option maxHeartbeats 2000000 in
theorem luby_law_any (n : Nat) (hn : n < 65536) (raw : Int) (w : World) : Calls Try.prog 5 #[.int .u16 n, .int .i64 raw] w fun e w' => e = .returned (.bool true) ∧ Below w.heap.size w w' := by
  obtain ⟨i0, hi, hz0, hz1, hz2⟩ := info_parts infoI10
  go_enter Try.func5, Try.ntmps5
  go_wp2_with fail
  refine (fit_any _).mono ?_
  rintro e w1 ⟨rfl, hb⟩
  have HB := Lib.hid hb
  clear hb
  go_wp2
  go_loopg [5, 6] 12 (fun g v p wr => ∃ k L : Nat, k ≤ 11 ∧ 2 ^ k = L + 1 ∧ g = 12 - k ∧ p = .int .i64 ((L + 1 : Nat) : Int) ∧ Hid (wr.ownsRow w.heap.size 3 1 v L (rowV k)) ∧ Hid (Below w.heap.size w wr))
  case atStart => exact ⟨0, 0, by omega, rfl, rfl, rfl, Lib.hid (World.ownsRow_nil _ _ _ _), HB⟩
  case round =>
    obtain ⟨k, L, hk, hkq, rfl, rfl, HO, HB2⟩ := hrel
    have hq1 : L + 1 ≤ 2048 := by rw [← hkq]; exact Nat.le_trans (Nat.pow_le_pow_right (by decide) hk) (by decide)
    obtain ⟨A, c, rfl, hc, hA⟩ := own_slice HO.out
    have hsz : w.heap.size ≤ wr.heap.size := HB2.out.size
    clear hA
    have HK := Lib.hid hkq
    by_cases hlt : L < 1200
    · have hk10 : k < 11 := by
        rcases Nat.lt_or_ge k 11 with h | h
        · exact h
        · have : 2 ^ 11 ≤ 2 ^ k := Nat.pow_le_pow_right (by decide) h
          omega
      have hcells := Lib.hid (cells_of_own HO.out undef)
      clear hkq
      go_wp2_with (at_builtin; refine wpList_append_cells _ rfl _ _ 26 rfl w.heap.size 3 i0 (.int .i64 0) 8 Try.underlying26 hi hz0 hz1 hz2 rfl _ _ _ rfl HO.out _ _ _ _ _ rfl hcells.out (fun j hj => ?_) (by unfold maxLen; omega) (by omega) hsz ?_)
      · rw [rowV_getD _ _ (by rw [HK.out]; exact hj)]; rfl
      intro v' w2 hown hg _
      have HO2 := Lib.hid hown
      have HB3 := Lib.hid (HB2.out.grown hg hsz (fun k hk => (HO.out.lt k hk).1))
      have hsz2 : w.heap.size ≤ w2.heap.size := HB3.out.size
      clear hown hg
      go_wp2_with (at_builtin; refine wpList_append1 _ rfl _ _ 26 rfl w.heap.size 3 i0 (.int .i64 0) 8 Try.underlying26 hi hz0 hz1 hz2 rfl _ _ _ rfl (HO2.out.alloc _) (.int .i64 ((L + 1 : Nat) : Int)) w2.heap.size rfl (by go_cell) rfl (by unfold maxLen; omega) (by omega) (by simp; omega) ?_)
      intro v2 w3 hown hg _
      have HB4 := Lib.hid ((HB3.out.alloc hsz2 _).grown hg (by simp; omega) (fun k hk => (HO2.out.lt k hk).1))
      have HO3 := Lib.hid hown
      clear hown hg
      have hrow : rowV k ++ (List.range L).map (fun j => (rowV k).getD j undef) ++ [.int .i64 ((L + 1 : Nat) : Int)] = rowV (k + 1) := by
        have := rowV_twice k undef
        rw [HK.out] at this
        simpa using this
      have HO4 := Lib.hid (show w3.ownsRow w.heap.size 3 1 v2 (L + L + 1) (rowV (k + 1)) by rw [← hrow]; simpa using HO3.out)
      clear hrow
      go_wp2
      go_roundg (11 - k)
      case measure => omega
      case rel => exact ⟨k + 1, L + L + 1, by omega, by rw [Nat.pow_succ, HK.out]; omega, by omega, by go_num, HO4, HB4⟩
    · have hk11 : k = 11 := by
        rcases Nat.lt_or_ge k 11 with h | h
        · have : 2 ^ k ≤ 2 ^ 10 := Nat.pow_le_pow_right (by decide) (by omega)
          omega
        · omega
      subst hk11
      obtain rfl : L = 2047 := by simp at hkq; omega
      clear hkq HK hlt hk hq1
      obtain ⟨i, hin⟩ : ∃ i : Nat, n % 1200 = i := ⟨_, rfl⟩
      have hil : i < 1200 := by omega
      have ei : (n : Int) % 1200 = (i : Int) := by omega
      have hlub := rowN_lub 11 i (by omega)
      obtain ⟨x, hx⟩ : ∃ x, (rowN 11).getD i 0 = x := ⟨_, rfl⟩
      have hxc := cells_of_own HO.out undef
      obtain ⟨g, o, rfl, hg, hcell⟩ := hxc.at_ (k := i) (by omega)
      rw [rowV_getD 11 i (by omega), hx] at hcell
      rw [hx] at hlub
      have HL := Lib.hid (fun w => (by rw [show (1 : Int) + (i : Int) = ((i + 1 : Nat) : Int) by omega]; exact luby_any hlub (by omega) w : Calls Try.prog 18 #[.int .i64 (1 + (i : Int))] w fun e w' => e = .returned (.int .i64 x) ∧ w = w'))
      clear hin hlub hx hxc
      by_cases hr : raw < 1
      · have HR := Lib.hid (fun w => luby_low raw hr w)
        go_wp2
        go_quiet ((go_at_call 18; with_reducible exact quiet_left (HL.out _)))
        go_wp2_with fail
        refine (HR.out _).mono ?_
        rintro e w2 ⟨rfl, rfl⟩
        go_wp2
        go_ret
        exact ⟨by simp, below_drewN HB2.out _⟩
      · obtain ⟨m, hm⟩ : ∃ m : Nat, raw % ((2 ^ 40 : Nat) : Int) = m := ⟨(raw % ((2 ^ 40 : Nat) : Int)).toNat, by omega⟩
        have hml : m < 2 ^ 40 := by omega
        have hand : bits .and .i64 raw 1099511627775 = (m : Int) := by rw [← hm]; exact i64_mask 40 (by decide) raw
        obtain ⟨v, hv1, hv2, hv3⟩ : ∃ v : Nat, 0 < v ∧ v ≤ 2 ^ 40 ∧ bits .and .i64 (v : Int) ((v : Int) - 1) = 0 ∧ ∀ w, Calls Try.prog 18 #[.int .i64 m] w fun e w' => e = .returned (.int .i64 v) ∧ w = w' := by
          rcases Nat.eq_zero_or_pos m with rfl | hm0
          · exact ⟨1, by decide, by decide, by decide, fun w => luby_low 0 (by decide) w⟩
          · obtain ⟨v, hv⟩ := Lub.any m hm0
            obtain ⟨k, rfl, hk⟩ := hv.power
            have hp : 0 < 2 ^ k := Nat.two_pow_pos k
            refine ⟨2 ^ k, hp, by omega, ?_, fun w => luby_any hv (by omega) w⟩
            have hk40 : k < 63 := by
              rcases Nat.lt_or_ge k 63 with h | h
              · exact h
              · have : 2 ^ 63 ≤ 2 ^ k := Nat.pow_le_pow_right (by decide) h
                omega
            have := i64_mask k hk40 ((2 ^ k : Nat) : Int)
            rw [Int.emod_self] at this
            rw [← this]
            congr 1
            omega
        have HV := Lib.hid hv3.2
        have hand2 := hv3.1
        clear hm hv3
        go_wp2
        go_quiet ((go_at_call 18; with_reducible exact quiet_left (HL.out _)))
        go_wp2_with fail
        refine (HV.out _).mono ?_
        rintro e w2 ⟨rfl, rfl⟩
        go_wp2
        go_ret
        exact ⟨by simp, below_drewN HB2.out _⟩

theorem luby_all (n raw : Int) (w : World) (h : (Lit.int .u16 n).wf = true) : Calls Try.prog 5 #[.int .u16 n, .int .i64 raw] w fun e w' => e = .returned (.bool true) ∧ Below w.heap.size w w' := by
  simp [Lit.wf, IntKind.min, IntKind.max, IntKind.signed, IntKind.bits] at h
  obtain ⟨t, rfl⟩ : ∃ t : Nat, n = (t : Int) := ⟨n.toNat, by omega⟩
  exact luby_law_any t (by omega) raw w
end Go.Proofs.Ytipanbiackidgaa
