/- A store of clauses in memory. -/
import Derived.Test.YthcpfaahcncfjaaGreatDoorKey07
import Derived.Test.YthcpfaahcncfjaaGreatDoorRupMath
import Derived.Maps.Views
import Derived.Maps.OwnSet
import Derived.Test.YthcpfaahcncfjaaGreatDoorRecs
namespace Go.Proofs.YthcpfaahcncfjaaGreatDoor
open Go.RowKit
set_option linter.unusedVariables false
set_option linter.unusedSimpArgs false

/-- a clause's struct -/
structure CX where
  num : Nat
  A : Option Addr
  c : Nat
  lits : List Int
  w0 : Int
  w1 : Int
  tried : Nat
  gone : Bool
def CX.row (x : CX) : Value := .slice x.A x.lits.length x.c
def CX.cells (x : CX) : Array Value := #[.int .i64 x.num, x.row, .int .i64 x.w0, .int .i64 x.w1, .int .i64 x.tried, .bool x.gone]
/-- what is known of a store: blocks, rows, clauses (by their blocks), what was found -/
structure SX where
  s : Nat
  m : Nat
  fb : Nat
  V : Nat
  Aw : Option Addr
  cw : Nat
  vs : List Value
  pss : List (List Nat)
  ps : List Nat
  C : Nat → CX
  added : Nat
  ng : Nat
  ko : Nat → Nat
  tk : Nat
  ks : List (List UInt8)
  Af : Option Addr
  cf : Nat
  fd : List Int
def SX.fv (X : SX) : Value := .slice X.Af X.fd.length X.cf
def SX.head (X : SX) : Array Value := #[.int .i64 X.V, .int .i64 X.added, .int .i64 X.ng, X.vs.getD (2 * X.V) undef, X.vs.getD (2 * X.V + 1) undef, .slice X.Aw (2 * X.V) X.cw, .map (some X.m), .slice (some ⟨X.fb, 0, none⟩) (2 * X.V) (2 * X.V), X.fv]
def ptrs7 (ps : List Nat) : List Value := ps.map fun p => .pointer (some ⟨p, 0, none⟩)
theorem ptrs7_len (ps : List Nat) : (ptrs7 ps).length = ps.length := by simp [ptrs7]

/-- rows of pointers of one's own, no two in one block -/
structure Piles (w : World) (base : Nat) (vs : List Value) (pss : List (List Nat)) : Prop where
  len : vs.length = pss.length
  each : ∀ j, j < pss.length → ∃ Aj cj, vs.getD j undef = .slice Aj (pss.getD j []).length cj ∧ w.ownsRow base 121 1 (.slice Aj (pss.getD j []).length cj) (pss.getD j []).length (ptrs7 (pss.getD j []))
  ne : ∀ i j g, i ≠ j → i < pss.length → j < pss.length → (vs.getD i undef).ownBlock = some g → (vs.getD j undef).ownBlock = some g → False
theorem getD_set_same {α : Type} {d : α} {l : List α} {i : Nat} (h : i < l.length) (x : α) : (l.set i x).getD i d = x := by simp [List.getD, h]
theorem getD_set_other {α : Type} {d : α} {l : List α} {i j : Nat} (h : i ≠ j) (x : α) : (l.set i x).getD j d = l.getD j d := by simp [List.getD, List.getElem?_set_ne h]
section
variable {w w' : World} {base : Nat} {vs : List Value} {pss : List (List Nat)}
/-- blocks of pointers stay: so do all piles -/
theorem Piles.keep (h : Piles w base vs pss) (hk : ∀ q Y, Blk w q 121 Y → Blk w' q 121 Y) : Piles w' base vs pss := by
  refine ⟨h.len, fun j hj => ?_, h.ne⟩
  obtain ⟨Aj, cj, h1, h2⟩ := h.each j hj
  refine ⟨Aj, cj, h1, h2.1, ?_⟩
  rcases h2.2 with hn | ⟨g', cap', cur, hv, hb', hg', rest⟩
  · exact .inl hn
  · exact .inr ⟨g', cap', cur, hv, hb', hk g' cur hg', rest⟩
/-- one pile is another now, in its block or in a new one -/
theorem Piles.put {i : Nat} {A : Option Addr} {c : Nat} {ps : List Nat} (h : Piles w base vs pss) (hi : i < pss.length) (hg : w.grownBy w' (vs.getD i undef).ownBlock) (ho : w'.ownsRow base 121 1 (.slice A ps.length c) ps.length (ptrs7 ps))
    (hf : (Value.slice A ps.length c).ownBlock = (vs.getD i undef).ownBlock ∨ ∀ g, (Value.slice A ps.length c).ownBlock = some g → w.heap.size ≤ g) : Piles w' base (vs.set i (.slice A ps.length c)) (pss.set i ps) := by
  have hlen := h.len
  have hlt : ∀ k g, k < pss.length → (vs.getD k undef).ownBlock = some g → g < w.heap.size := fun k g hk hg => by
    obtain ⟨Ak, ck, h1, h2⟩ := h.each k hk
    rw [h1] at hg
    exact (h2.lt g hg).2
  have hnew : ∀ k g, k < pss.length → k ≠ i → (vs.getD k undef).ownBlock = some g → (Value.slice A ps.length c).ownBlock = some g → False := fun k g hk hki h1 h2 => by
    rcases hf with e | e
    · rw [e] at h2; exact h.ne k i g hki hk hi h1 h2
    · have := e g h2; have := hlt k g hk h1; omega
  refine ⟨by simp [hlen], fun j hj => ?_, fun k j g hkj hk hj h1 h2 => ?_⟩
  · simp at hj
    by_cases e : i = j
    · subst e
      rw [getD_set_same (by omega), getD_set_same hj]
      exact ⟨A, c, rfl, ho⟩
    · rw [getD_set_other e, getD_set_other e]
      obtain ⟨Aj, cj, h1, h2⟩ := h.each j hj
      refine ⟨Aj, cj, h1, h2.kept hg ?_⟩
      rcases hb : (Value.slice Aj (pss.getD j []).length cj).ownBlock with _ | g
      · exact .inl rfl
      · exact .inr fun e2 => h.ne i j g e hi hj e2.symm (by rw [h1]; exact hb)
  · simp at hk hj
    by_cases ek : i = k
    · subst ek
      rw [getD_set_same (by omega)] at h1
      rw [getD_set_other hkj] at h2
      exact hnew j g hj (Ne.symm hkj) h2 h1
    · rw [getD_set_other ek] at h1
      by_cases ej : i = j
      · subst ej
        rw [getD_set_same (by omega)] at h2
        exact hnew k g hk (Ne.symm ek) h1 h2
      · rw [getD_set_other ej] at h2
        exact h.ne k j g hkj hk hj h1 h2
end

/-- how an element of the map reads: it is told as it is -/
def heldE (v : Value) : Option (DataW Value × List MemPlace) := some (.held v, [])
def keyLit (k : List UInt8) : Lit := .string k
/-- a row less so many of its first ones -/
def cutv (v : Value) (d : Nat) : Value := match v with | .slice (some ⟨g, o, p⟩) l c => .slice (some ⟨g, o + d, p⟩) (l - d) (c - d) | v => v
theorem cutv_zero (v : Value) : cutv v 0 = v := by
  unfold cutv
  split <;> simp
/-- the map has the row of each key, less those at its front that are gone -/
def MapIs (X : SX) (D : DataW Value) : Prop := Maps.IsMap D ∧ ∀ k : List UInt8, D.atKey (keyLit k) (.held (.slice none 0 0)) = .held (match X.ks.findIdx? (· = k) with | some i => cutv (X.vs.getD (2 * X.V + 2 + i) undef) (X.ko i) | none => .slice none 0 0)

structure Sto (W : World) (base : Nat) (X : SX) (fo : List Bool) : Prop where
  st : Blk W X.s 117 X.head
  fol : Blk W X.fb 4 (fo.map Value.bool).toArray
  flen : fo.length = 2 * X.V
  fnd : W.ownsRow base 3 1 X.fv X.fd.length (X.fd.map (Value.int .i64))
  out : W.ownsRow base 113 1 (.slice X.Aw (2 * X.V) X.cw) (2 * X.V) (X.vs.take (2 * X.V))
  pil : Piles W base X.vs X.pss
  num : X.pss.length = 2 * X.V + 2 + X.ks.length ∧ X.ks.Nodup
  cl : ∀ p, p ∈ X.ps → Blk W p 120 (X.C p).cells ∧ base ≤ p ∧ W.ownsRow base 3 1 (X.C p).row (X.C p).lits.length ((X.C p).lits.map (Value.int .i64)) ∧ ∀ g, (X.C p).row.ownBlock = some g → X.fv.ownBlock ≠ some g
  map : ∃ D n, W.ownsMap Tryz.prog 9 heldE X.m n D ∧ n ≤ X.tk ∧ MapIs X D
  lo : base ≤ X.s ∧ base ≤ X.fb ∧ base ≤ X.m
  vb : X.V ≤ 100000
/-- what stays while a store turns -/
structure Tn (base : Nat) (X : SX) (W W' : World) : Prop where
  below : Below base W W'
  blk : ∀ q t Y, Blk W q t Y → t ≠ 117 → t ≠ 120 → t ≠ 121 → t ≠ 113 → q ≠ X.fb → some q ≠ X.fv.ownBlock → Blk W' q t Y
  recs : Recs W W'
/-- the row of what was found is where it was, or in a new block -/
def Later7 (W : World) (X X' : SX) : Prop := X'.fb = X.fb ∧ (X'.fv.ownBlock = X.fv.ownBlock ∨ ∀ g, X'.fv.ownBlock = some g → W.heap.size ≤ g)
theorem Tn.refl (base : Nat) (X : SX) (W : World) : Tn base X W W := ⟨Below.refl _ _, fun _ _ _ h _ _ _ _ _ _ => h, Recs.refl _⟩
theorem Later7.refl (W : World) (X : SX) : Later7 W X X := ⟨rfl, .inl rfl⟩
theorem Tn.trans {base : Nat} {X X' : SX} {W W' W'' : World} (h : Tn base X W W') (h' : Tn base X' W' W'') (hl : Later7 W X X') : Tn base X W W'' := by
  refine ⟨h.below.trans h'.below, fun q t Y hq h1 h2 h3 h4 h5 h6 => h'.blk q t Y (h.blk q t Y hq h1 h2 h3 h4 h5 h6) h1 h2 h3 h4 (by rw [hl.1]; exact h5) fun e => ?_, h.recs.trans h'.recs⟩
  rcases hl.2 with e2 | e2
  · rw [e2] at e; exact h6 e
  · have := e2 q e.symm; have := hq.lt; omega
theorem Later7.trans {X X' X'' : SX} {W W' : World} (h : Later7 W X X') (h' : Later7 W' X' X'') (hs : W.heap.size ≤ W'.heap.size) : Later7 W X X'' := by
  refine ⟨h'.1.trans h.1, ?_⟩
  rcases h'.2 with e | e
  · rw [e]; exact h.2
  · exact .inr fun g hg => Nat.le_trans hs (e g hg)
theorem Tn.drewN {base : Nat} {X : SX} {W W' : World} (h : Tn base X W W') (n : Nat) : Tn base X W (W'.drewN n) := ⟨below_drewN h.below n, h.blk, h.recs⟩
theorem Sto.drewN {base : Nat} {X : SX} {fo : List Bool} {W : World} (h : Sto W base X fo) (n : Nat) : Sto (W.drewN n) base X fo := ⟨h.st, h.fol, h.flen, h.fnd, h.out, h.pil.keep fun _ _ h => h, h.num, h.cl, h.map, h.lo, h.vb⟩

/-- the index of a literal, as a number -/
def ix (l : Int) : Nat := (litIndex l).toNat
/-- a literal of so many variables -/
def Lt7 (V : Nat) (l : Int) : Prop := l ≠ 0 ∧ -(V : Int) ≤ l ∧ l ≤ V
theorem ix_eq {V : Nat} {l : Int} (h : Lt7 V l) : litIndex l = (ix l : Int) ∧ ix l < 2 * V := by
  obtain ⟨h0, h1, h2⟩ := h
  unfold ix litIndex
  split <;> omega
theorem Lt7.neg {V : Nat} {l : Int} (h : Lt7 V l) : Lt7 V (-l) := by obtain ⟨h0, h1, h2⟩ := h; exact ⟨by omega, by omega, by omega⟩
theorem ix_inj {V : Nat} {l k : Int} (h : Lt7 V l) (h' : Lt7 V k) (e : ix l = ix k) : l = k := by
  have h1 := (ix_eq h).1
  have h2 := (ix_eq h').1
  exact litIndex_inj (by rw [h1, h2, e])
end Go.Proofs.YthcpfaahcncfjaaGreatDoor
