/- The arguments of the statement on headers, opened. -/
import Derived.Test.YtnjcegjcaaplgaaGreatDoorHeads03
import Derived.Test.YtnjcegjcaaplgaaGreatDoorOpenHead
namespace Go.Proofs.YtnjcegjcaaplgaaGreatDoor
open Go.ChangeShapes Go.WideShapes Go.ChangeAt Go.RowKit Go.Joins

theorem heads_raw (ws : List (List UInt8)) (A : Option Addr) (c : Nat) (x y : Int) (m : Int) (w : World) (hws : ws.length ≤ 8796093021952) (hsz : ∀ j, (ws.getD j []).length ≤ 9223372036854775807)
    (hx : (Lit.int .u32 x).wf = true) (hy : (Lit.int .u32 y).wf = true) (h : Strs w w.heap.size A ws) (hE : Env m w) (hX : NumErrs w)
    (hg : w.cell? ⟨0, 0, none⟩ = some (.iface 83 (.agg #[.pointer (some ⟨9, 30, none⟩)]))) :
    Calls Tryz.prog 3 #[.slice A ws.length c, .agg #[.int .u32 x, .int .u32 y]] w fun e w' => e = .returned (.bool true) ∧ Below w.heap.size w w' := by
  have hbx : 0 ≤ x ∧ x ≤ 4294967295 := bounds_u32 hx
  have hby : 0 ≤ y ∧ y ≤ 4294967295 := bounds_u32 hy
  obtain ⟨n0, rfl⟩ : ∃ n : Nat, x = n := ⟨x.toNat, by omega⟩
  obtain ⟨n1, rfl⟩ : ∃ n : Nat, y = n := ⟨y.toNat, by omega⟩
  exact heads_any ws A c n0 n1 m w hws (by omega) (by omega) hsz h hE hX hg
end Go.Proofs.YtnjcegjcaaplgaaGreatDoor
