/- Pieces of strings: the runs. No program is named here. -/
import Derived.Test.YtnjcegjcaaplgaaGreatDoorMem
namespace Go.Proofs.YtnjcegjcaaplgaaGreatDoor
open Go.RowKit
set_option linter.unusedSimpArgs false
set_option linter.unusedVariables false

theorem bound_run {P : Program} (w : World) (x y : Nat) (code : BoundsCode) (h : x ≤ y) : (Instr.sliceBound (.int .i64 x) y code).run P w = .ok x w := by
  have h1 : (0 : Int) ≤ x ∧ (x : Int) ≤ y := by omega
  simp [Instr.sliceBound, asIntOf, h, go_sem]
theorem run_piece {P : Program} (t : TypeId) (ht : P.underlying t = some .string) (s : ByteArray) (lo hi : Nat) (h1 : lo ≤ hi) (h2 : hi ≤ s.size) (w : World) :
    (Instr.slice t (.string s) (some (.int .i64 lo)) (some (.int .i64 hi)) none).run P w = .ok (.string (s.extract lo hi)) w := by
  have e1 := fun code => bound_run (P := P) w hi s.size code h2
  have e2 := fun code => bound_run (P := P) w lo hi code h1
  simp [Instr.slice, run_underlying ht, Instr.sliceBounds, e1, e2, go_sem]
  first | done | (intro h3; omega)
theorem run_front {P : Program} (t : TypeId) (ht : P.underlying t = some .string) (s : ByteArray) (hi : Nat) (h2 : hi ≤ s.size) (w : World) :
    (Instr.slice t (.string s) none (some (.int .i64 hi)) none).run P w = .ok (.string (s.extract 0 hi)) w := by
  have e1 := fun code => bound_run (P := P) w hi s.size code h2
  simp [Instr.slice, run_underlying ht, Instr.sliceBounds, e1, go_sem]
theorem run_back {P : Program} (t : TypeId) (ht : P.underlying t = some .string) (s : ByteArray) (lo : Nat) (h1 : lo ≤ s.size) (w : World) :
    (Instr.slice t (.string s) (some (.int .i64 lo)) none none).run P w = .ok (.string (s.extract lo s.size)) w := by
  have e2 := fun code => bound_run (P := P) w lo s.size code h1
  simp [Instr.slice, run_underlying ht, Instr.sliceBounds, e2, go_sem]
theorem piece_one (s : List UInt8) (k : Nat) (h : k < s.length) : (⟨s.toArray⟩ : ByteArray).extract k (k + 1) = ⟨[s[k]].toArray⟩ := by
  apply ByteArray.ext
  rw [ByteArray.data_extract]
  simp
  rw [List.take_one]
  simp [List.head?_drop, h]
theorem piece_front (s : List UInt8) (k : Nat) (h : k ≤ s.length) : (⟨s.toArray⟩ : ByteArray).extract 0 k = ⟨(s.take k).toArray⟩ := by
  apply ByteArray.ext
  rw [ByteArray.data_extract]
  simp
theorem piece_back (s : List UInt8) (k : Nat) (h : k ≤ s.length) : (⟨s.toArray⟩ : ByteArray).extract k (⟨s.toArray⟩ : ByteArray).size = ⟨(s.drop k).toArray⟩ := by
  apply ByteArray.ext
  rw [ByteArray.data_extract]
  have : (⟨s.toArray⟩ : ByteArray).size = s.length := by show s.toArray.size = _; simp
  rw [this]
  simp
  rw [List.take_of_length_le (by simp)]
end Go.Proofs.YtnjcegjcaaplgaaGreatDoor
