/- A row of one's own that the library sorts, or cuts: what it owns behind it. No program is named here. -/
import Derived.Test.YtllgepabjglnaaaOwnRows
import Derived.Shelf.GgSortFunc.Insertion
import Derived.Shelf.GgSortFunc.SW
namespace Go.Proofs.Ytllgepabjglnaaa
open Go.RowKit Go.Sort

section
variable {α : Type} [Inhabited α] {enc : α → Value} {w w' : World} {base e cap n m k g : Nat} {xs : List Value}
theorem heap_sortWorld {cur : Array Value} {fr : Nat × Nat} {d : Array α} {os : Array Obj} (h : w.heap[g]? = some (.cells cur e fr)) :
    (sortWorld enc w g 0 m d os).heap[g]? = some (.cells (putCells enc 0 d cur) e fr) := by
  have hlt := (Array.getElem?_eq_some_iff.1 h).1
  unfold sortWorld
  rw [heap_grow_old _ _ (by rw [size_putRow]; exact hlt)]
  unfold putRow mapBlock Sort.ahead
  simp [Array.getElem?_modify, h, onCells]
theorem own_sort {d : Array α} {os : Array Obj} (h : w.ownsRow base e 1 (.slice (some ⟨g, 0, none⟩) n cap) n xs) (hd : d.size ≤ cap) (hk : k ≤ d.size) :
    (sortWorld enc w g 0 m d os).ownsRow base e 1 (.slice (some ⟨g, 0, none⟩) k cap) k ((d.toList.take k).map enc) := by
  rcases h.2 with ⟨hv, _⟩ | ⟨g', cap', cur, hv, hb, hg, hnc, hcm, hcs, htk⟩
  · cases hv
  · injection hv with hA _ hC
    injection hA with hA
    injection hA with hA
    subst hA hC
    refine ⟨by simp; omega, .inr ⟨g, cap, _, rfl, hb, heap_sortWorld hg, by omega, hcm, by simpa [putCells] using hcs, ?_⟩⟩
    apply List.ext_getElem
    · simp [putCells]; omega
    · intro i h1 h2
      simp [putCells] at h1 h2
      simp [putCells, show i < d.size by omega]
theorem putRow_sort (d : Array α) (q : Nat) : putRow enc (Sort.ahead w q) g 0 d = sortWorld enc w g 0 q d #[] := by
  unfold sortWorld; rw [grow_empty]
theorem holds_of_own {ds : List α} (h : w.ownsRow base e 1 (.slice (some ⟨g, 0, none⟩) n cap) n (ds.map enc)) : Holds enc w g 0 ds.toArray := by
  rcases h.2 with ⟨hv, _⟩ | ⟨g', cap', cur, hv, hb, hg, hnc, hcm, hcs, htk⟩
  · cases hv
  · injection hv with hA _ hC
    injection hA with hA
    injection hA with hA
    subst hA hC
    intro j hj
    simp at hj
    refine ⟨?_, Blk.frozen (t := e) (cs := cur) hg _⟩
    have hl := h.1
    rw [Nat.zero_add, World.ownsRow.cellAt h j (by simp at hl; omega), getElem!_pos _ j (by simpa using hj)]
    simp [hj]
theorem below_sort {w0 : World} {B : Nat} {d : Array α} {os : Array Obj} (h : Below B w0 w) (hg : B ≤ g) (hB : B ≤ w0.heap.size) : Below B w0 (sortWorld enc w g 0 m d os) := by
  refine ⟨h.os, h.tape, h.output, ?_, fun k hk => ?_⟩
  · unfold sortWorld; rw [size_grow, size_putRow]; have := h.size; show _ ≤ w.heap.size + _; omega
  · unfold sortWorld
    have := h.size
    rw [heap_grow_old _ _ (by rw [size_putRow]; show k < w.heap.size; omega)]
    unfold putRow mapBlock Sort.ahead
    rw [show (w.heap.modify g (onCells (putCells enc 0 d)))[k]? = w.heap[k]? by rw [Array.getElem?_modify, if_neg (by omega)]]
    exact h.block k hk
end
end Go.Proofs.Ytllgepabjglnaaa
