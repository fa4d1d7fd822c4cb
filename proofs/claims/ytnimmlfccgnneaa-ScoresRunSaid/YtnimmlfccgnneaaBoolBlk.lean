/- A row of bools that a call makes for itself, known whole: read, written, cleared behind a place. No program is named here. -/
import Derived.Test.YtnimmlfccgnneaaOwnRows
import Derived.Laws.MakeOwn
namespace Go.Proofs.Ytnimmlfccgnneaa
open Go.RowKit

def boolCells (z : List Bool) : Array Value := (z.map Value.bool).toArray
/-- block g is just this row of bools -/
def BlkB (w : World) (g : Nat) (t : TypeId) (z : List Bool) : Prop := Blk w g t (boolCells z)
section
variable {w w' : World} {g : Nat} {t : TypeId} {z : List Bool}
theorem BlkB.cell (h : BlkB w g t z) {i : Nat} (hi : i < z.length) : w.cell? ⟨g, i, none⟩ = some (.bool (z.getD i false)) := by
  rw [Blk.cell h i]; simp [boolCells, List.getD, hi]
theorem BlkB.frozen (h : BlkB w g t z) (i : Nat) : w.frozen? ⟨g, i, none⟩ = false := Blk.frozen h i
theorem BlkB.lt (h : BlkB w g t z) : g < w.heap.size := Blk.lt h
theorem BlkB.set_ (h : BlkB w g t z) (i : Nat) (b : Bool) : BlkB (w.setCell ⟨g, i, none⟩ (.bool b)) g t (z.set i b) := by
  have := Blk.set_ h i (.bool b)
  unfold BlkB
  have e : boolCells (z.set i b) = (boolCells z).setIfInBounds i (.bool b) := by
    unfold boolCells
    apply Array.ext'
    simp [List.map_set]
  rw [e]; exact this
theorem BlkB.bools (h : BlkB w g t z) : Bools w w.heap.size (some ⟨g, 0, none⟩) z := fun _ => ⟨g, 0, rfl, h.lt, fun j hj => by rw [Nat.zero_add]; exact h.cell hj⟩

theorem grown_trans {row : Option Nat} {a b c : World} (h : a.grownBy b row) (k : b.grownBy c row) : a.grownBy c row :=
  ⟨k.os.trans h.os, k.tape.trans h.tape, k.output.trans h.output, Nat.le_trans h.size k.size, fun i hi hne => (k.block i (Nat.lt_of_lt_of_le hi h.size) hne).trans (h.block i hi hne)⟩
theorem below_of_grown {B g : Nat} (hg : w.grownBy w' (some g)) (hB : B ≤ w.heap.size) (hgB : B ≤ g) : Below B w w' :=
  ⟨hg.os, hg.tape, hg.output, hg.size, fun k hk => hg.block k (by omega) (fun e => by injection e with e; omega)⟩

/-- the first k as they are, all behind false -/
def zeroTail (z : List Bool) (k : Nat) : List Bool := z.take k ++ List.replicate (z.length - k) false
theorem zeroTail_length {z : List Bool} {k : Nat} (h : k ≤ z.length) : (zeroTail z k).length = z.length := by simp [zeroTail]; omega
theorem zeroTail_full (z : List Bool) : zeroTail z z.length = z := by simp [zeroTail]
theorem zeroTail_getD {z : List Bool} {k j : Nat} (h : j < k) (hk : k ≤ z.length) : (zeroTail z k).getD j false = z.getD j false := by
  unfold zeroTail
  simp [List.getD, List.getElem?_append_left (show j < (z.take k).length by simp; omega), h]
theorem zeroTail_set_false {z : List Bool} {k : Nat} (hk : k < z.length) : (zeroTail z (k + 1)).set k false = zeroTail z k := by
  unfold zeroTail
  rw [List.set_append_left _ _ (by simp; omega)]
  have e : (z.take (k + 1)).set k false = z.take k ++ [false] := by
    rw [List.take_succ_eq_append_getElem hk, List.set_append_right _ _ (by simp; omega)]
    simp [Nat.min_eq_left (Nat.le_of_lt hk)]
  rw [e, List.append_assoc, List.singleton_append, ← List.replicate_succ]
  congr 2
  omega
theorem zeroTail_set_true {z : List Bool} {k : Nat} (hk : k < z.length) : (zeroTail z (k + 1)).set k true = z.take k ++ true :: List.replicate (z.length - k - 1) false := by
  unfold zeroTail
  rw [List.set_append_left _ _ (by simp; omega)]
  have e : (z.take (k + 1)).set k true = z.take k ++ [true] := by
    rw [List.take_succ_eq_append_getElem hk, List.set_append_right _ _ (by simp; omega)]
    simp [Nat.min_eq_left (Nat.le_of_lt hk)]
  rw [e, List.append_assoc, List.singleton_append]
  congr 3

theorem blkB_setCells : ∀ (n o : Nat) (w : World) (z : List Bool), BlkB w g t z → o + n = z.length →
    BlkB (w.setCells g o (List.replicate n (.bool false))) g t (zeroTail z o) ∧ w.grownBy (w.setCells g o (List.replicate n (.bool false))) (some g)
  | 0, o, w, z, h, e => by
    obtain rfl : o = z.length := by omega
    rw [zeroTail_full]
    exact ⟨h, World.grownBy.refl w _⟩
  | n + 1, o, w, z, h, e => by
    have ih := blkB_setCells n (o + 1) (w.setCell ⟨g, o, none⟩ (.bool false)) (z.set o false) (h.set_ o false) (by simp; omega)
    rw [List.replicate_succ]
    show BlkB (((w.setCell ⟨g, o, none⟩ (.bool false)).setCells g (o + 1) (List.replicate n (.bool false)))) g t (zeroTail z o) ∧ _
    refine ⟨?_, grown_trans (grown_setCell w ⟨g, o, none⟩ (.bool false)) ih.2⟩
    have e2 : zeroTail (z.set o false) (o + 1) = zeroTail z o := by
      rw [show zeroTail z o = (zeroTail z (o + 1)).set o false from (zeroTail_set_false (by omega)).symm]
      unfold zeroTail
      rw [List.set_append_left _ _ (by simp; omega), List.take_set, List.length_set]
    rw [← e2]
    exact ih.1
theorem run_clear_none {P : Program} (w : World) (t e ty : TypeId) (ht : P.underlying t = some (.slice e)) (A : Option Addr) (c : Nat) : (Builtin.clear_ #[t] ty #[.slice A 0 c]).run P w = .ok (.tuple #[]) w := by
  cases A <;> simp [Builtin.clear_, run_underlying ht]
end
end Go.Proofs.Ytnimmlfccgnneaa
