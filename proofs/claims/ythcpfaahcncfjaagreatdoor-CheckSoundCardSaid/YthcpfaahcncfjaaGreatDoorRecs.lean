/- Objects that are neither rows nor maps: what leaves them. No program is named here. -/
import Derived.Test.YthcpfaahcncfjaaGreatDoorOwnRows
import Derived.Maps.OwnSet
namespace Go.Proofs.YthcpfaahcncfjaaGreatDoor
open Go.RowKit
set_option linter.unusedVariables false

/-- objects that are neither rows nor maps stay (the records of loops, and of what is put off) -/
def Recs (W W' : World) : Prop := ∀ (q : Nat) (o : Obj), W.heap[q]? = some o → (∀ cs t z, o ≠ Obj.cells cs t z) → (∀ es n, o ≠ Obj.map es n) → W'.heap[q]? = some o
theorem Recs.refl (W : World) : Recs W W := fun _ _ h _ _ => h
theorem Recs.trans {W W' W'' : World} (h : Recs W W') (h' : Recs W' W'') : Recs W W'' := fun q o hq h1 h2 => h' q o (h q o hq h1 h2) h1 h2
theorem Recs.of_below {W W' : World} (h : Below W.heap.size W W') : Recs W W' := fun q o hq _ _ => (h.block q (Array.getElem?_eq_some_iff.1 hq).1).trans hq
theorem Recs.set (W : World) (p : Addr) (v : Value) : Recs W (W.setCell p v) := fun q o hq h1 _ => by
  by_cases e : q = p.block
  · subst e
    unfold World.setCell
    cases o with
    | cells cs t z => exact absurd rfl (h1 cs t z)
    | _ => simp [Array.getElem?_modify, hq]
  · exact (Below.heap_setCell W p v q e).trans hq
theorem Recs.grown {W W' : World} {row : Option Nat} (h : W.grownBy W' row) (hr : ∀ g, row = some g → ∃ o : Obj, W.heap[g]? = some o ∧ ((∃ cs t z, o = Obj.cells cs t z) ∨ ∃ es n, o = Obj.map es n)) : Recs W W' := fun q o hq h1 h2 => by
  refine (h.block q (Array.getElem?_eq_some_iff.1 hq).1 fun e => ?_).trans hq
  obtain ⟨o', ho', hk⟩ := hr q e.symm
  rw [hq] at ho'
  injection ho' with ho'
  subst ho'
  rcases hk with ⟨cs, t, z, rfl⟩ | ⟨es, n, rfl⟩
  · exact h1 cs t z rfl
  · exact h2 es n rfl
theorem Recs.grown_row {W W' : World} {base n : Nat} {e : TypeId} {v : Value} {xs : List Value} (h : W.grownBy W' v.ownBlock) (ho : W.ownsRow base e 1 v n xs) : Recs W W' := Recs.grown h fun g hg => by
  rcases ho.2 with ⟨rfl, _⟩ | ⟨g', cap, cur, rfl, _, hh, _⟩
  · simp [Value.ownBlock] at hg
  · have : g' = g := by simpa [Value.ownBlock] using hg
    subst this
    exact ⟨_, hh, .inl ⟨_, _, _, rfl⟩⟩
theorem Recs.grown_map {W W' : World} {m n : Nat} {D : DataW Value} {R : Value → Option (DataW Value × List MemPlace)} {P : Program} {k : TypeId} (h : W.grownBy W' (some m)) (hm : W.ownsMap P k R m n D) : Recs W W' := Recs.grown h fun g hg => by
  injection hg with hg
  subst hg
  obtain ⟨es, clock, h1, _⟩ := hm
  exact ⟨_, h1, .inr ⟨_, _, rfl⟩⟩
theorem Recs.drewN (W : World) (n : Nat) : Recs W (W.drewN n) := fun _ _ h _ _ => h
end Go.Proofs.YthcpfaahcncfjaaGreatDoor
