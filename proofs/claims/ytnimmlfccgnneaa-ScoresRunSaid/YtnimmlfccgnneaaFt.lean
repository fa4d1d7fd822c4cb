/- What turns, told by blocks. No program is named here. -/
import Derived.Test.YtnimmlfccgnneaaOwnRows
import Derived.Maps.OwnSet
import Derived.Sort.Grow
namespace Go.Proofs.Ytnimmlfccgnneaa
open Go.RowKit
set_option linter.unusedVariables false

/-- of what was there only these blocks turn -/
structure Ft (F : Nat → Prop) (w w' : World) : Prop where
  os : w'.os = w.os
  tape : w'.tape = w.tape
  output : w'.output = w.output
  size : w.heap.size ≤ w'.heap.size
  block : ∀ k, k < w.heap.size → ¬ F k → w'.heap[k]? = w.heap[k]?
/-- a footprint behind: what was in it, and new blocks -/
def NewF (F F' : Nat → Prop) (w : World) : Prop := ∀ q, F' q → F q ∨ w.heap.size ≤ q
section
variable {F F' F'' : Nat → Prop} {w w' w'' : World}
theorem NewF.refl : NewF F F w := fun _ h => .inl h
theorem NewF.trans (h : NewF F F' w) (h' : NewF F' F'' w') (hs : w.heap.size ≤ w'.heap.size) : NewF F F'' w := fun q hq => (h' q hq).elim (fun h1 => h q h1) fun h1 => .inr (Nat.le_trans hs h1)
theorem Ft.refl (w : World) : Ft F w w := ⟨rfl, rfl, rfl, Nat.le_refl _, fun _ _ _ => rfl⟩
theorem Ft.trans (h : Ft F w w') (h' : Ft F' w' w'') (hn : NewF F F' w) : Ft F w w'' := ⟨h'.os.trans h.os, h'.tape.trans h.tape, h'.output.trans h.output, Nat.le_trans h.size h'.size, fun k hk hF =>
  (h'.block k (Nat.lt_of_lt_of_le hk h.size) fun e => (hn k e).elim hF fun h1 => by omega).trans (h.block k hk hF)⟩
theorem Ft.mono (h : Ft F w w') (hs : ∀ q, F q → F' q) : Ft F' w w' := ⟨h.os, h.tape, h.output, h.size, fun k hk hF => h.block k hk fun e => hF (hs k e)⟩
theorem Ft.of_below (h : Below w.heap.size w w') : Ft F w w' := ⟨h.os, h.tape, h.output, h.size, fun k hk _ => h.block k hk⟩
theorem Ft.drewN (h : Ft F w w') (m : Nat) : Ft F w (w'.drewN m) := ⟨h.os, h.tape, h.output, h.size, h.block⟩
theorem Ft.drew (h : Ft F w w') : Ft F w w'.drew := ⟨h.os, h.tape, h.output, h.size, h.block⟩
theorem Ft.drewE (h : Ft F w w') (hd : ∃ m, w'' = w'.drewN m) : Ft F w w'' := by
  obtain ⟨m, rfl⟩ := hd
  exact h.drewN m
theorem Ft.low (h : Ft F w w') (hb : Below w'.heap.size w' w'') : Ft F w w'' := h.trans (F' := fun _ => False) (Ft.of_below hb) fun _ e => e.elim
theorem Ft.set (h : Ft F w w') {q : Nat} (hq : q < w.heap.size → F q) (i : Nat) (v : Value) : Ft F w (w'.setCell ⟨q, i, none⟩ v) :=
  ⟨h.os, h.tape, h.output, by simpa [World.setCell] using h.size, fun k hk hF => (Below.heap_setCell w' _ v k fun e => by subst e; exact hF (hq hk)).trans (h.block k hk hF)⟩
theorem Ft.grown (h : Ft F w w') {row : Option Nat} (hg : w'.grownBy w'' row) (hr : ∀ q, row = some q → q < w.heap.size → F q) : Ft F w w'' :=
  ⟨hg.os.trans h.os, hg.tape.trans h.tape, hg.output.trans h.output, Nat.le_trans h.size hg.size, fun k hk hF => (hg.block k (Nat.lt_of_lt_of_le hk h.size) fun e => hF (hr k e.symm hk)).trans (h.block k hk hF)⟩
theorem Ft.below (h : Ft F w w') {B : Nat} (hB : B ≤ w.heap.size) (hF : ∀ q, F q → B ≤ q) : Below B w w' := ⟨h.os, h.tape, h.output, h.size, fun k hk => h.block k (by omega) fun e => by have := hF k e; omega⟩
theorem Ft.at_ (h : Ft F w w') {q : Nat} {o : Obj} (hq : w.heap[q]? = some o) (hn : ¬ F q) : w'.heap[q]? = w.heap[q]? := h.block q (Array.getElem?_eq_some_iff.1 hq).1 hn
theorem Ft.blk (h : Ft F w w') {q : Nat} {t : TypeId} {X : Array Value} (hq : Blk w q t X) (hn : ¬ F q) : Blk w' q t X := (h.at_ hq hn).trans hq
theorem Ft.own (h : Ft F w w') {base e s n : Nat} {v : Value} {xs : List Value} (ho : w.ownsRow base e s v n xs) (hn : ∀ q, v.ownBlock = some q → ¬ F q) : w'.ownsRow base e s v n xs := by
  refine ⟨ho.1, ?_⟩
  rcases ho.2 with h1 | ⟨g, cap, cur, rfl, h1, h2, rest⟩
  · exact .inl h1
  · exact .inr ⟨g, cap, cur, rfl, h1, (h.at_ h2 (hn g rfl)).trans h2, rest⟩
theorem Ft.map {H : Type} {P : Program} {k : TypeId} {R : Value → Option (DataW H × List MemPlace)} {b n : Nat} {D : DataW H} (h : Ft F w w') (hm : w.ownsMap P k R b n D) (hn : ¬ F b) : w'.ownsMap P k R b n D := by
  obtain ⟨es, clock, h1, h2⟩ := hm
  exact ⟨es, clock, (h.at_ h1 hn).trans h1, h2⟩
theorem Ft.cell (h : Ft F w w') {p : Addr} (hp : p.block < w.heap.size) (hn : ¬ F p.block) : w'.cell? p = w.cell? p := World.cell?_of_block (h.block p.block hp hn)
end
/-- a world with more blocks, after some draws -/
def Gr (w w' : World) : Prop := ∃ (q : Nat) (os : Array Obj), w' = Go.Sort.grow (w.drewN q) os
theorem Gr.refl (w : World) : Gr w w := ⟨0, #[], by rw [Go.Sort.grow_empty]; rfl⟩
theorem Gr.trans {a b c : World} (h : Gr a b) (h' : Gr b c) : Gr a c := by
  obtain ⟨q, os, rfl⟩ := h
  obtain ⟨q', os', rfl⟩ := h'
  refine ⟨q + q', os ++ os', ?_⟩
  show Go.Sort.grow (Go.Sort.grow ((a.drewN q).drewN q') os) os' = _
  rw [Go.Sort.grow_grow, World.drewN_drewN]
theorem Gr.alloc {a b : World} (h : Gr a b) (o : Obj) : Gr a (b.alloc o) := h.trans ⟨0, #[o], by rw [Go.Sort.alloc_eq_grow]; rfl⟩
theorem Gr.drewE {a b c : World} (h : Gr a b) (hd : ∃ m, c = b.drewN m) : Gr a c := by
  obtain ⟨m, rfl⟩ := hd
  exact h.trans ⟨m, #[], by rw [Go.Sort.grow_empty]⟩
theorem Gr.below {a b : World} (h : Gr a b) : Below a.heap.size a b := by
  obtain ⟨q, os, rfl⟩ := h
  exact ⟨rfl, rfl, rfl, by simp [Go.Sort.grow, World.drewN], fun k hk => Go.Sort.heap_grow_old (a.drewN q) os hk⟩
theorem Gr.ft {F : Nat → Prop} {a b : World} (h : Gr a b) : Ft F a b := Ft.of_below h.below
theorem gr_same {pr : Program} {f : FuncId} {args : Array Value} {W : World} {v : Value} (h : Calls pr f args W fun e w' => e = .returned v ∧ W = w') : Calls pr f args W fun e w' => e = .returned v ∧ ∃ q os', w' = Go.Sort.grow (W.drewN q) os' :=
  h.mono fun _ _ ⟨he, hw⟩ => ⟨he, 0, #[], by rw [← hw, Go.Sort.grow_empty]; rfl⟩
theorem gr_drew {pr : Program} {f : FuncId} {args : Array Value} {W : World} {v : Value} (h : Calls pr f args W fun e w' => e = .returned v ∧ ∃ m, w' = W.drewN m) : Calls pr f args W fun e w' => e = .returned v ∧ ∃ q os', w' = Go.Sort.grow (W.drewN q) os' :=
  h.mono fun _ _ ⟨he, m, hw⟩ => ⟨he, m, #[], by rw [hw, Go.Sort.grow_empty]⟩
theorem gr_gr {pr : Program} {f : FuncId} {args : Array Value} {W : World} {v : Value} (h : Calls pr f args W fun e w' => e = .returned v ∧ Gr W w') : Calls pr f args W fun e w' => e = .returned v ∧ ∃ q os', w' = Go.Sort.grow (W.drewN q) os' := h
end Go.Proofs.Ytnimmlfccgnneaa
