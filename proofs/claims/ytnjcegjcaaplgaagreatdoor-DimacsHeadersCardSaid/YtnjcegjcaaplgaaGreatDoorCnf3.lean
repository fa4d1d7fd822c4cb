/- What Clone and Copy answer. -/
import Derived.Test.YtnjcegjcaaplgaaGreatDoorCnf
import Derived.Test.YtnjcegjcaaplgaaGreatDoorOwnRows
import Derived.Deep.DeepCutAuto
import Derived.Deep.RegionHeld3
import Derived.WalkSpells
namespace Go.Proofs.YtnjcegjcaaplgaaGreatDoor
open Go.RowKit

theorem Tryz.infoInt3 : (Tryz.prog.info? 3).map (fun i => (i.zero, i.size, i.bytes)) = some (some (.int .i64 0), 1, 8) := by kernel_rfl
theorem Tryz.infoInts : (Tryz.prog.info? 45).map (fun i => (i.zero, i.size, i.bytes)) = some (some (.slice none 0 0), 1, 24) := by kernel_rfl

/-- a copy of a row -/
def Cloned (e : TypeId) (n : Nat) (f : Nat → Value) (w : World) (r : Ending) (w' : World) : Prop :=
  ∃ A c, r = .returned (.slice A n c) ∧ w'.ownsRow w.heap.size e 1 (.slice A n c) n ((List.range n).map f) ∧ Below w.heap.size w w'

theorem range_map_ints (xs : List Int) : (List.range xs.length).map (fun j => Value.int .i64 (xs.getD j 0)) = xs.map (Value.int .i64) := by
  apply List.ext_getElem
  · simp
  · intro i h1 h2
    simp at h1
    simp [List.getD, h1]
theorem rows_fn {w : World} {B : Nat} {A : Option Addr} {xss : List (List Int)} (h : Rows w B A xss) :
    ∃ f : Nat → Value, (∀ j, j < xss.length → (f j).oneCell' = true) ∧ Cells w B A xss.length f ∧ (∀ j, j < xss.length → ∃ Aj cj, f j = .slice Aj (xss.getD j []).length cj ∧ Ints w B Aj (xss.getD j [])) := by
  rcases Nat.eq_zero_or_pos xss.length with h0 | h0
  · exact ⟨fun _ => undef, fun j hj => by omega, fun hj => by omega, fun j hj => by omega⟩
  · obtain ⟨b, off, e, hb, hc⟩ := h h0
    have : ∀ j, ∃ v : Value, j < xss.length → w.cell? ⟨b, off + j, none⟩ = some v ∧ v.oneCell' = true ∧ ∃ Aj cj, v = .slice Aj (xss.getD j []).length cj ∧ Ints w B Aj (xss.getD j []) := by
      intro j
      by_cases hj : j < xss.length
      · obtain ⟨Aj, cj, h1, h2⟩ := hc j hj
        exact ⟨_, fun _ => ⟨h1, rfl, Aj, cj, rfl, h2⟩⟩
      · exact ⟨undef, fun h => absurd h hj⟩
    refine ⟨fun j => Classical.choose (this j), fun j hj => (Classical.choose_spec (this j) hj).2.1, fun _ => ⟨b, off, e, hb, fun j hj => (Classical.choose_spec (this j) hj).1⟩, fun j hj => (Classical.choose_spec (this j) hj).2.2⟩

/-- a copy of a formula -/
def Copied (V : Int) (xss : List (List Int)) (w : World) (e : Ending) (w' : World) : Prop :=
  ∃ A c vs, e = .returned (.agg #[.int .i64 V, .slice A xss.length c]) ∧ w'.ownsRow w.heap.size 45 1 (.slice A xss.length c) xss.length vs ∧ OwnList w' w.heap.size 3 vs xss ∧ Below w.heap.size w w'
end Go.Proofs.YtnjcegjcaaplgaaGreatDoor
