/- errors.As at a fault: what a walk needs of it. -/
import Derived.Test.YtnjcegjcaaplgaaGreatDoorErrsAs2
namespace Go.Proofs.YtnjcegjcaaplgaaGreatDoor
open Go.RowKit
set_option linter.unusedSimpArgs false
set_option linter.unusedVariables false

theorem as_any (e : Addr) (B : Nat) (w : World) (hg : w.cell? ⟨0, 0, none⟩ = some (.iface 83 (.agg #[.pointer (some ⟨9, 30, none⟩)]))) (ht : Blk w B 38 #[.pointer none]) :
    Calls Tryz.prog 10 #[.iface 38 (.pointer (some e)), .iface 41 (.pointer (some ⟨B, 0, none⟩))] w fun ev w' => ev = .returned (.bool true) ∧ w'.cell? ⟨B, 0, none⟩ = some (.pointer (some e)) ∧ Below B w w' := by
  have hlt := ht.lt
  refine (as_hit e ⟨B, 0, none⟩ (.pointer none) w hg (by simpa using ht.cell 0) (ht.frozen 0)).mono ?_
  rintro ev w' ⟨rfl, rfl⟩
  refine ⟨rfl, ?_, ?_⟩
  · have h4 := ((((ht.alloc (.cells #[.pointer (some ⟨B, 0, none⟩)] 41)).alloc (.cells #[.pointer (some ⟨9, 41, none⟩), .pointer (some ⟨w.heap.size, 0, none⟩), .int .u64 150] 64)).alloc (.cells #[.pointer (some ⟨9, 41, none⟩), .pointer (some ⟨w.heap.size, 0, none⟩), .int .u64 150] 64)).alloc (.cells #[.pointer (some e)] 38)).set_ 0 (.pointer (some e))
    have := h4.cell 0
    simpa using this
  · have h1 : Below B w w := Below.refl _ _
    exact ((((h1.alloc (by omega) _).alloc (by simp; omega) _).alloc (by simp; omega) _).alloc (by simp; omega) _).setCell (by simp) _
end Go.Proofs.YtnjcegjcaaplgaaGreatDoor
