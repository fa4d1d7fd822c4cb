/- The statements' own helpers of layer 14: an assignment of raw bits, how many literals hold, the example. -/
import Derived.Test.YtllgepabjglnaaaLoc11
import Derived.Test.YtllgepabjglnaaaLaw04
import Derived.Laws.BitsAllLaws
namespace Go.Proofs.Ytllgepabjglnaaa
open Go.RowKit
set_option linter.unusedVariables false
set_option linter.unusedSimpArgs false

theorem new_no14 (F : Nat) (A Az : Option Addr) (c k n cz : Nat) (w : World) (hF : F ≤ 1000) (hn : n ≤ 1000) (hne : n ≠ F) :
    Calls Try.prog 13 #[.agg #[.int .i64 F, .slice A k c], .slice Az n cz] w fun e w' => e = .returned (.tuple #[.pointer none, .int .i64 1]) ∧ Below w.heap.size w w' := by
  have hd : ((n : Int) == (F : Int)) = false := by simp; omega
  go_enter Try.func13, Try.ntmps13
  go_wp2
  go_ret2
  exact ⟨rfl, (Below.refl _ _).alloc (Nat.le_refl _) _⟩

theorem madeBools14 (n : Nat) : madeCells #[Value.bool false] n = boolCells (List.replicate n false) := by
  apply Array.ext'
  rw [toList_madeCells_one]
  simp [boolCells]
def startB (bits : Int) (j : Nat) : Bool := Go.bits BinOp.and IntKind.u32 (bits / 2 ^ (j % 32)) 1 == 1
def startZ (n : Nat) (bits : Int) : List Bool := (List.range n).map (startB bits)
def startTo (n : Nat) (bits : Int) (j : Nat) : List Bool := (List.range n).map fun i => if i < j then startB bits i else false
theorem startZ_len (n : Nat) (bits : Int) : (startZ n bits).length = n := by simp [startZ]
theorem startTo_len (n : Nat) (bits : Int) (j : Nat) : (startTo n bits j).length = n := by simp [startTo]
theorem startTo_zero (n : Nat) (bits : Int) : startTo n bits 0 = List.replicate n false := by
  apply List.ext_getElem
  · simp [startTo]
  · intro i h1 h2
    simp [startTo]
theorem startTo_full (n : Nat) (bits : Int) : startTo n bits n = startZ n bits := by
  unfold startTo startZ
  refine List.map_congr_left fun i hi => ?_
  rw [if_pos (List.mem_range.1 hi)]
theorem startTo_next {n : Nat} (bits : Int) {j : Nat} (hj : j < n) : (startTo n bits j).set j (startB bits j) = startTo n bits (j + 1) := by
  apply List.ext_getElem
  · simp [startTo]
  · intro i h1 h2
    rw [List.getElem_set]
    simp only [startTo, List.getElem_map, List.getElem_range]
    by_cases e : j = i
    · subst e
      rw [if_pos rfl, if_pos (by omega)]
    · rw [if_neg e]
      by_cases hl : i < j
      · rw [if_pos hl, if_pos (by omega)]
      · rw [if_neg hl, if_neg (by omega)]
set_option maxRecDepth 100000 in
set_option maxHeartbeats 1000000 in
theorem start_any (n : Nat) (bits : Int) (w : World) (hn : n ≤ 1000) (hb : 0 ≤ bits ∧ bits < 4294967296) :
    Calls Try.prog 12 #[.int .i64 n, .int .u32 bits] w fun e w' => e = .returned (.slice (some ⟨w.heap.size, 0, none⟩) n n) ∧ BlkB w' w.heap.size 4 (startZ n bits) ∧ Below w.heap.size w w' := by
  have hmk := run_make_row' (P := Try.prog) 34 4 (.bool false) 1 Try.underlying34 infoCB rfl .i64 .i64 n (by omega) (by omega)
  go_enter Try.func12, Try.ntmps12
  go_wp2
  clear hmk
  obtain ⟨w7, hw7⟩ : ∃ w7, w7 = w.alloc (Obj.cells (madeCells #[Value.bool false] n) 4) := ⟨_, rfl⟩
  have HBK7 := Lib.hid (show BlkB w7 w.heap.size 4 (startTo n bits 0) by rw [hw7, madeBools14, startTo_zero]; exact Blk.new w _ _)
  have HB7 := Lib.hid (show Below w.heap.size w w7 by rw [hw7]; exact (Below.refl _ _).alloc (Nat.le_refl _) _)
  rw [← hw7]
  clear hw7
  go_loopg [11] (n + 1) (fun gk i wr => ∃ (j : Nat), j ≤ n ∧ gk = n - j + 1 ∧ i = .int .i64 j ∧ Hid (BlkB wr w.heap.size 4 (startTo n bits j)) ∧ Hid (Below w.heap.size w wr))
  case atStart => exact ⟨0, by omega, by omega, rfl, HBK7, HB7⟩
  case round =>
    obtain ⟨j, hj, rfl, rfl, HBKr, HBr⟩ := hrel
    clear HBK7 HB7
    by_cases hjl : j < n
    · have hc : wr.cell? ⟨w.heap.size, j, none⟩ = some (.bool ((startTo n bits j).getD j false)) := HBKr.out.cell (by rw [startTo_len]; omega)
      have hf : wr.frozen? ⟨w.heap.size, j, none⟩ = false := HBKr.out.frozen j
      obtain ⟨zj, hzj⟩ : ∃ zj, zj = (startTo n bits j).getD j false := ⟨_, rfl⟩
      rw [← hzj] at hc
      have HN : Hid (BlkB (wr.setCell ⟨w.heap.size, j, none⟩ (.bool (startB bits j))) w.heap.size 4 (startTo n bits (j + 1))) := Lib.hid (by rw [← startTo_next bits hjl]; exact HBKr.out.set_ j _)
      clear hzj
      go_wp2
      go_roundg (n - j)
      case measure => omega
      case rel => exact ⟨j + 1, by omega, by omega, by go_num, HN, Lib.hid (HBr.out.setCell (Nat.le_refl _) _)⟩
    · have hjl : n = j := by omega
      subst hjl
      rw [startTo_full] at HBKr
      go_wp2
      go_ret
      exact ⟨rfl, HBKr.out, HBr.out⟩
end Go.Proofs.Ytllgepabjglnaaa
