/- What package ticks answers: a count. -/
import Derived.Test.YtipanbiackidgaaTick1
namespace Go.Proofs.Ytipanbiackidgaa
open Go.RowKit
set_option linter.unusedVariables false
set_option linter.unusedSimpArgs false

/-- a count: its value and its budget -/
def Cnt (w : World) (b : Nat) (v m : Nat) : Prop := Blk w b 40 #[.int .i64 v, .int .i64 m] ∧ v ≤ 4611686018427387904 ∧ m ≤ 4611686018427387904
def budN (n : Int) : Nat := if n < 0 then 4611686018427387904 else clampN n
theorem budN_le (n : Int) : budN n ≤ 4611686018427387904 := by have := clampN_le n; unfold budN; split <;> omega

theorem value_any {w : World} {b v m : Nat} (h : Cnt w b v m) : Calls Try.prog 14 #[.pointer (some ⟨b, 0, none⟩)] w fun e w' => e = .returned (.int .i64 v) ∧ w = w' := by
  have c0 := h.1.cell 0
  simp at c0
  go_enter Try.func14, Try.ntmps14
  go_wp2
  go_ret
  exact ⟨rfl, rfl⟩
theorem over_any {w : World} {b v m : Nat} (h : Cnt w b v m) : Calls Try.prog 15 #[.pointer (some ⟨b, 0, none⟩)] w fun e w' => e = .returned (.bool (decide (m ≤ v ∧ m < 4611686018427387904))) ∧ ∃ n, w' = w.drewN n := by
  have c0 := h.1.cell 0
  have c1 := h.1.cell 1
  simp at c0 c1
  by_cases h1 : m ≤ v
  · rw [show decide (m ≤ v ∧ m < 4611686018427387904) = decide ((m : Int) < 4611686018427387904) by rw [Bool.eq_iff_iff]; simp; omega]
    go_enter Try.func15, Try.ntmps15
    go_wp2
    go_quiet (fail)
    go_wp2
    go_ret
    exact ⟨rfl, _, rfl⟩
  · rw [show decide (m ≤ v ∧ m < 4611686018427387904) = false by simp; omega]
    go_enter Try.func15, Try.ntmps15
    go_wp2
    go_quiet (fail)
    go_wp2
    go_ret
    exact ⟨rfl, _, rfl⟩
theorem left_any {w : World} {b v m : Nat} (h : Cnt w b v m) : Calls Try.prog 16 #[.pointer (some ⟨b, 0, none⟩)] w fun e w' => e = .returned (.int .i64 ((m - v : Nat) : Int)) ∧ ∃ n, w' = w.drewN n := by
  have c0 := h.1.cell 0
  have c1 := h.1.cell 1
  have h1 := h.2.1
  have h2 := h.2.2
  simp at c0 c1
  rw [show ((m - v : Nat) : Int) = max ((m : Int) - v) 0 by omega]
  go_enter Try.func16, Try.ntmps16
  go_wp2
  go_quiet (fail)
  go_wp2
  go_ret
  exact ⟨rfl, _, rfl⟩
end Go.Proofs.Ytipanbiackidgaa
