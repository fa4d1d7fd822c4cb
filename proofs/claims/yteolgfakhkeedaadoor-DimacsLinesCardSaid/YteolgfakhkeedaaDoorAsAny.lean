/- errors.As at a fault: what a walk needs of it. -/
import Derived.Test.YteolgfakhkeedaaDoorErrsAs2
namespace Go.Proofs.YteolgfakhkeedaaDoor
open Go.RowKit
set_option linter.unusedSimpArgs false
set_option linter.unusedVariables false

theorem as_any (e : Addr) (B : Nat) (w : World) (hg : w.cell? ⟨0, 0, none⟩ = some (.iface 89 (.agg #[.pointer (some ⟨7, 33, none⟩)]))) (ht : Blk w B 46 #[.pointer none]) :
    Calls Tryd.prog 15 #[.iface 46 (.pointer (some e)), .iface 48 (.pointer (some ⟨B, 0, none⟩))] w fun ev w' => ev = .returned (.bool true) ∧ w'.cell? ⟨B, 0, none⟩ = some (.pointer (some e)) ∧ Below B w w' := by
  have hlt := ht.lt
  refine (as_hit e ⟨B, 0, none⟩ (.pointer none) w hg (by simpa using ht.cell 0) (ht.frozen 0)).mono ?_
  rintro ev w' ⟨rfl, rfl⟩
  refine ⟨rfl, ?_, ?_⟩
  · have h4 := ((((ht.alloc (.cells #[.pointer (some ⟨B, 0, none⟩)] 48)).alloc (.cells #[.pointer (some ⟨7, 48, none⟩), .pointer (some ⟨w.heap.size, 0, none⟩), .int .u64 150] 73)).alloc (.cells #[.pointer (some ⟨7, 48, none⟩), .pointer (some ⟨w.heap.size, 0, none⟩), .int .u64 150] 73)).alloc (.cells #[.pointer (some e)] 46)).set_ 0 (.pointer (some e))
    have := h4.cell 0
    simpa using this
  · have h1 : Below B w w := Below.refl _ _
    exact ((((h1.alloc (by omega) _).alloc (by simp; omega) _).alloc (by simp; omega) _).alloc (by simp; omega) _).setCell (by simp) _
end Go.Proofs.YteolgfakhkeedaaDoor
