/- moves: a clause waits at one literal more. -/
import Derived.Test.YthcpfaahcncfjaaGreatDoorFree07
import Derived.Deep.RegionHeld3
namespace Go.Proofs.YthcpfaahcncfjaaGreatDoor
open Go.RowKit
set_option linter.unusedVariables false
set_option linter.unusedSimpArgs false

theorem quiet_more {P : Program} {f : FuncId} {args : Array Value} {w : World} {n : Nat} {v : Value} (h : Calls P f args (w.drewN n) fun e w' => e = .returned v ∧ ∃ q, w' = (w.drewN n).drewN q) : Calls P f args (w.drewN n) fun e w'' => e = .returned v ∧ ∃ m, w'' = w.drewN m :=
  h.mono fun _ _ ⟨he, q, hq⟩ => ⟨he, n + q, hq.trans (World.drewN_drewN w n q)⟩
theorem quiet_add_more {P : Program} {f : FuncId} {args : Array Value} {w : World} {a n : Nat} {v : Value} (h : Calls P f args (w.drewN (a + n)) fun e w' => e = .returned v ∧ ∃ q, w' = (w.drewN (a + n)).drewN q) : Calls P f args (w.drewN (a + n)) fun e w'' => e = .returned v ∧ ∃ m, w'' = w.drewN (a + m) :=
  h.mono fun _ _ ⟨he, q, hq⟩ => ⟨he, n + q, hq.trans ((World.drewN_drewN w (a + n) q).trans (by rw [Nat.add_assoc]))⟩
/-- the store with another clause in a block -/
def SX.cl (X : SX) (p : Nat) (x : CX) : SX := { X with C := fun q => if q = p then x else X.C q }
theorem SX.cl_same (X : SX) (p : Nat) (x : CX) : (X.cl p x).C p = x := by simp [SX.cl]
theorem SX.cl_cl (X : SX) (p : Nat) (x y : CX) : (X.cl p x).cl p y = X.cl p y := by
  unfold SX.cl
  congr 1
  funext q
  by_cases h : q = p <;> simp [h]
theorem Sto.clauseSet {W : World} {base : Nat} {X : SX} {fo : List Bool} {p : Nat} (h : Sto W base X fo) (hp : p ∈ X.ps) (x : CX) (j : Nat) (v : Value) (hx : x.cells = (X.C p).cells.setIfInBounds j v) (hr : x.row = (X.C p).row) (hl : x.lits = (X.C p).lits) :
    Sto (W.setCell ⟨p, j, none⟩ v) base (X.cl p x) fo ∧ Tn base X W (W.setCell ⟨p, j, none⟩ v) := by
  obtain ⟨p1, p2, p3, p4⟩ := h.cl p hp
  have far : ∀ q t Y, Blk W q t Y → t ≠ 120 → Blk (W.setCell ⟨p, j, none⟩ v) q t Y := fun q t Y hq hne => hq.far (hq.ne_ p1 hne) _
  have row : ∀ (e : TypeId) (u : Value) (n : Nat) (xs : List Value), W.ownsRow base e 1 u n xs → e ≠ 120 → (W.setCell ⟨p, j, none⟩ v).ownsRow base e 1 u n xs := fun e u n xs ho hne => own_setCell ho _ (own_blk_ne ho p1 hne)
  refine ⟨⟨far _ _ _ h.st (by decide), far _ _ _ h.fol (by decide), h.flen, row _ _ _ _ h.fnd (by decide), row _ _ _ _ h.out (by decide), h.pil.keep fun q Y hq => far _ _ _ hq (by decide), h.num, fun q hq => ?_, ?_, h.lo, h.vb⟩, ⟨(Below.refl _ _).setCell p2 _, fun q t Y hq _ h2 _ _ _ _ => far q t Y hq h2, Recs.set _ _ _⟩⟩
  · by_cases e : q = p
    · subst e
      rw [SX.cl_same, hr, hl]
      refine ⟨?_, p2, row _ _ _ _ p3 (by decide), p4⟩
      rw [hx]
      exact p1.set_ j v
    · have e2 : (X.cl p x).C q = X.C q := by simp [SX.cl, e]
      obtain ⟨c1, c2, c3, c4⟩ := h.cl q hq
      rw [e2]
      exact ⟨c1.far e _, c2, row _ _ _ _ c3 (by decide), c4⟩
  · obtain ⟨D, n, hm, h2⟩ := h.map
    exact ⟨D, n, hm.kept (grown_setCell W _ _) (fun e => blk_map_ne7 p1 hm (by simpa using e.symm)), h2⟩

theorem Tn.cl {base : Nat} {X : SX} {p : Nat} {x : CX} {W W' : World} (h : Tn base (X.cl p x) W W') : Tn base X W W' := ⟨h.below, h.blk, h.recs⟩
theorem Tn.pile {base i : Nat} {X : SX} {v : Value} {ps : List Nat} {W W' : World} (h : Tn base (X.pile i v ps) W W') : Tn base X W W' := ⟨h.below, h.blk, h.recs⟩
theorem Tn.undrew2 {base : Nat} {X : SX} {W W' : World} (h : Tn base X W.drew.drew W') : Tn base X W W' := ⟨⟨h.below.os, h.below.tape, h.below.output, h.below.size, h.below.block⟩, h.blk, h.recs⟩
/-- the three cells of a clause that moves -/
abbrev moved3 (w : World) (p k : Nat) (o x : Int) (q : Nat) : World := (((w.drewN q).setCell ⟨p, 4, none⟩ (.int .i64 k)).setCell ⟨p, 2, none⟩ (.int .i64 o)).setCell ⟨p, 3, none⟩ (.int .i64 x)
theorem Sto.moved3 {wb : World} {base : Nat} {X : SX} {fo : List Bool} {p : Nat} (h : Sto wb base X fo) (hp : p ∈ X.ps) (k : Nat) (o x : Int) (q : Nat) :
    Sto (moved3 wb p k o x q) base (X.cl p { X.C p with w0 := o, w1 := x, tried := k }) fo ∧ Tn base X wb (moved3 wb p k o x q) := by
  obtain ⟨a1, a2⟩ := (h.drewN q).clauseSet hp { X.C p with tried := k } 4 (.int .i64 k) rfl rfl rfl
  obtain ⟨b1, b2⟩ := a1.clauseSet (p := p) hp { X.C p with tried := k, w0 := o } 2 (.int .i64 o) (by rw [SX.cl_same]; rfl) (by rw [SX.cl_same]; rfl) (by rw [SX.cl_same])
  obtain ⟨c1, c2⟩ := b1.clauseSet (p := p) hp { X.C p with tried := k, w0 := o, w1 := x } 3 (.int .i64 x) (by rw [SX.cl_same]; rfl) (by rw [SX.cl_same]; rfl) (by rw [SX.cl_same])
  rw [SX.cl_cl, SX.cl_cl] at c1
  exact ⟨c1, (a2.undrew.trans b2.cl (Later7.refl _ _)).trans c2.cl.cl (Later7.refl _ _)⟩
theorem Sto.litcells {W : World} {base : Nat} {X : SX} {fo : List Bool} {p gl : Nat} (h : Sto W base X fo) (hp : p ∈ X.ps) (hA : (X.C p).A = some ⟨gl, 0, none⟩) :
    W.cell? ⟨p, 1, none⟩ = some (.slice (some ⟨gl, 0, none⟩) (X.C p).lits.length (X.C p).c) ∧ ∀ j, j < (X.C p).lits.length → W.cell? ⟨gl, j, none⟩ = some (.int .i64 ((X.C p).lits.getD j 0)) := by
  obtain ⟨p1, p2, p3, p4⟩ := h.cl p hp
  refine ⟨by rw [← hA]; exact p1.cell 1, fun j hj => ?_⟩
  have h3 := p3
  unfold CX.row at h3
  rw [hA] at h3
  rw [World.ownsRow.cellAt h3 j (by omega)]
  simp [List.getD, hj]

/-- where a clause may wait beside o: the search begins where the last one ended -/
def nextFree (fo : List Bool) (o : Int) (xs : List Int) (t : Nat) : Option Nat :=
  match (xs.drop t).findIdx? (freeB fo o) with
  | some i => some (t + i)
  | none => (xs.take t).findIdx? (freeB fo o)
theorem nextFree_some {fo : List Bool} {o : Int} {xs : List Int} {t k : Nat} (h : nextFree fo o xs t = some k) : k < xs.length ∧ freeB fo o (xs.getD k 0) = true := by
  unfold nextFree at h
  cases h1 : (xs.drop t).findIdx? (freeB fo o) with
  | some i =>
    rw [h1] at h
    obtain ⟨hi, h2, _⟩ := List.findIdx?_eq_some_iff_getElem.1 h1
    simp at hi h2 h
    subst h
    refine ⟨by omega, ?_⟩
    simp [List.getD, show t + i < xs.length by omega]
    exact h2
  | none =>
    rw [h1] at h
    obtain ⟨hi, h2, _⟩ := List.findIdx?_eq_some_iff_getElem.1 h
    simp at hi h2
    refine ⟨by omega, ?_⟩
    simp [List.getD, show k < xs.length by omega]
    exact h2
theorem nextFree_none {fo : List Bool} {o : Int} {xs : List Int} {t : Nat} (h : nextFree fo o xs t = none) : ∀ x, x ∈ xs → freeB fo o x = false := by
  unfold nextFree at h
  cases h1 : (xs.drop t).findIdx? (freeB fo o) with
  | some i => rw [h1] at h; cases h
  | none =>
    rw [h1] at h
    intro x hx
    rw [← List.take_append_drop t xs] at hx
    rcases List.mem_append.1 hx with hx | hx
    · simpa using List.findIdx?_eq_none_iff.1 h x hx
    · simpa using List.findIdx?_eq_none_iff.1 h1 x hx
theorem ints_drop7 {w : World} {B g off : Nat} {xs : List Int} (h : Ints w B (some ⟨g, off, none⟩) xs) (t : Nat) : Ints w B (some ⟨g, off + t, none⟩) (xs.drop t) := fun hn => by
  simp at hn
  obtain ⟨b, o, e, hb, hc⟩ := h (by omega)
  injection e with e
  injection e with e1 e2
  subst e1 e2
  refine ⟨_, _, rfl, hb, fun j hj => ?_⟩
  simp at hj
  rw [Nat.add_assoc, hc (t + j) (by omega)]
  simp [List.getD]
theorem ints_take7 {w : World} {B : Nat} {A : Option Addr} {xs : List Int} (h : Ints w B A xs) (t : Nat) : Ints w B A (xs.take t) := fun hn => by
  simp at hn
  obtain ⟨b, o, e, hb, hc⟩ := h (by omega)
  refine ⟨b, o, e, hb, fun j hj => ?_⟩
  simp at hj
  rw [hc j (by omega)]
  simp [List.getD, List.getElem?_take, show j < t by omega]

/-- what moves leaves -/
def Moved7 (base : Nat) (X : SX) (fo : List Bool) (p : Nat) (o : Int) (W : World) (e : Ending) (W' : World) : Prop :=
  (e = .returned (.bool false) ∧ (fo.getD (ix o) false = true ∨ nextFree fo o (X.C p).lits (X.C p).tried = none) ∧ Sto W' base X fo ∧ Tn base X W W') ∨
  (∃ (k : Nat) (A : Option Addr) (c : Nat), e = .returned (.bool true) ∧ fo.getD (ix o) false = false ∧ nextFree fo o (X.C p).lits (X.C p).tried = some k ∧
    Sto W' base ((X.cl p { X.C p with w0 := o, w1 := (X.C p).lits.getD k 0, tried := k }).pile (ix ((X.C p).lits.getD k 0)) (.slice A (X.pss.getD (ix ((X.C p).lits.getD k 0)) [] ++ [p]).length c) (X.pss.getD (ix ((X.C p).lits.getD k 0)) [] ++ [p])) fo ∧ Tn base X W W')
set_option maxRecDepth 100000 in
set_option maxHeartbeats 2000000 in
theorem moves7_any {W : World} {base : Nat} {X : SX} {fo : List Bool} (h : Sto W base X fo) (p : Nat) (o : Int) (hp : p ∈ X.ps) (ho : Lt7 X.V o) (hx : ∀ x, x ∈ (X.C p).lits → Lt7 X.V x) (h0 : 0 < (X.C p).lits.length) (hn : (X.C p).lits.length ≤ 1000000000) (ht : (X.C p).tried < (X.C p).lits.length) (hpl : ∀ i, i < 2 * X.V → (X.pss.getD i []).length ≤ 1000000000) :
    Calls Tryz.prog 112 #[.pointer (some ⟨X.s, 0, none⟩), .pointer (some ⟨p, 0, none⟩), .int .i64 o] W (Moved7 base X fo p o W) := by
  have hvb := h.vb
  obtain ⟨wb, hwb⟩ : ∃ wb, wb = (W.alloc (.cells #[.pointer (some ⟨X.s, 0, none⟩)] 53)).alloc (.cells #[.int .i64 o] 3) := ⟨_, rfl⟩
  have hb : Below W.heap.size W wb := by rw [hwb]; exact ((Below.refl _ _).alloc (Nat.le_refl _) _).alloc (by simp) _
  have hS := h.below hb
  have hT : Tn base X W wb := Tn.of_below hb (by have := h.lo.1; have := h.st.lt; omega)
  have hsb : Blk wb W.heap.size 53 #[.pointer (some ⟨X.s, 0, none⟩)] := by rw [hwb]; exact (Blk.new W _ _).alloc _
  have hob : Blk wb (W.heap.size + 1) 3 #[.int .i64 o] := by
    rw [hwb]
    have := Blk.new (W.alloc (.cells #[.pointer (some ⟨X.s, 0, none⟩)] 53)) 3 #[.int .i64 o]
    simpa using this
  obtain ⟨p1, p2, p3, p4⟩ := hS.cl p hp
  obtain ⟨gl, hA, hg1, hg2⟩ := own_addr (A := (X.C p).A) (c := (X.C p).c) p3 h0
  obtain ⟨e1, b1⟩ := ix_eq ho
  obtain ⟨c0, c5, c7, c8, cf⟩ := hS.cells
  obtain ⟨g1, g1f⟩ := hS.folcell b1
  have q1 := p1.cell 1
  have q4 := p1.cell 4
  have q1' : wb.cell? ⟨p, 1, none⟩ = some (.slice (some ⟨gl, 0, none⟩) (X.C p).lits.length (X.C p).c) := by rw [← hA]; exact q1
  have q4' : wb.cell? ⟨p, 4, none⟩ = some (.int .i64 (X.C p).tried) := q4
  have s0 := hsb.cell 0
  have o0 := hob.cell 0
  simp at s0 o0
  have hII : Ints wb wb.heap.size (some ⟨gl, 0, none⟩) (X.C p).lits := by rw [← hA]; exact ints_of_own p3
  have hcap : (X.C p).lits.length ≤ (X.C p).c := by
    obtain ⟨A', c', e, hc, _⟩ := own_slice p3
    have e' : Value.slice (X.C p).A (X.C p).lits.length (X.C p).c = .slice A' (X.C p).lits.length c' := e
    injection e' with _ _ e3
    omega
  have hS1 := Lib.hid (fun n : Nat => search_any (hS.drewN n) o (W.heap.size + 1) W.heap.size (hob.drewN n) (hsb.drewN n) ((X.C p).lits.drop (X.C p).tried) (fun x hx' => hx x (List.mem_of_mem_drop hx')) (by simp; omega) wb.heap.size (some ⟨gl, (X.C p).tried, none⟩) ((X.C p).c - (X.C p).tried) (by have := (ints_drop7 hII (X.C p).tried).drewN n; rw [Nat.zero_add] at this; exact this))
  have hS2 := Lib.hid (fun n : Nat => search_any (hS.drewN n) o (W.heap.size + 1) W.heap.size (hob.drewN n) (hsb.drewN n) ((X.C p).lits.take (X.C p).tried) (fun x hx' => hx x (List.mem_of_mem_take hx')) (by simp; omega) wb.heap.size (some ⟨gl, 0, none⟩) (X.C p).c ((ints_take7 hII _).drewN n))
  have HNF : Hid (nextFree fo o (X.C p).lits (X.C p).tried = match ((X.C p).lits.drop (X.C p).tried).findIdx? (freeB fo o) with | some i => some ((X.C p).tried + i) | none => ((X.C p).lits.take (X.C p).tried).findIdx? (freeB fo o)) := Lib.hid rfl
  obtain ⟨hl0, hl1, hl2⟩ := ho
  have HI := Lib.hid (fun w => index_any o w (by omega) (by omega))
  rw [e1] at HI
  rw [List.length_drop] at hS1
  rw [List.length_take, Nat.min_eq_left (Nat.le_of_lt ht)] at hS2
  have f2 := p1.frozen 2
  have f3 := p1.frozen 3
  have f4 := p1.frozen 4
  have q2' : wb.cell? ⟨p, 2, none⟩ = some (.int .i64 (X.C p).w0) := p1.cell 2
  have q3' : wb.cell? ⟨p, 3, none⟩ = some (.int .i64 (X.C p).w1) := p1.cell 3
  have n1 : W.heap.size ≠ p := hsb.ne_ p1 (by decide)
  have n2 : W.heap.size + 1 ≠ p := hob.ne_ p1 (by decide)
  have hlit : ∀ j, j < (X.C p).lits.length → wb.cell? ⟨gl, j, none⟩ = some (.int .i64 ((X.C p).lits.getD j 0)) := fun j hj => by
    obtain ⟨b, off, e, _, hc⟩ := hII.at_ hj
    injection e with e
    injection e with e1 e2
    subst e1 e2
    rw [Nat.zero_add] at hc
    exact hc
  have n3 : gl ≠ p := by
    have h3 := p3
    unfold CX.row at h3
    rw [hA] at h3
    obtain ⟨Yl, hYl⟩ := own_blk7 h3
    exact hYl.ne_ p1 (by decide)
  have HLIT := Lib.hid hlit
  have HA := Lib.hid hA
  have HST := Lib.hid hS
  have HTN := Lib.hid hT
  have HWB := Lib.hid hwb
  have HSB := Lib.hid hsb
  have HOB := Lib.hid hob
  have HP1 := Lib.hid p1
  have HX := Lib.hid hx
  have HPP := Lib.hid hp
  have HPL := Lib.hid hpl
  obtain ⟨t, htt⟩ : ∃ t, t = (X.C p).tried := ⟨_, rfl⟩
  obtain ⟨n, hnn⟩ : ∃ n, n = (X.C p).lits.length := ⟨_, rfl⟩
  obtain ⟨cc, hcc⟩ : ∃ cc, cc = (X.C p).c := ⟨_, rfl⟩
  obtain ⟨r1, hr1⟩ : ∃ r1, r1 = firstFree fo o ((X.C p).lits.drop (X.C p).tried) := ⟨_, rfl⟩
  obtain ⟨r2, hr2⟩ : ∃ r2, r2 = firstFree fo o ((X.C p).lits.take (X.C p).tried) := ⟨_, rfl⟩
  obtain ⟨i, hii⟩ : ∃ i, i = ix o := ⟨_, rfl⟩
  obtain ⟨N, hNN⟩ : ∃ N, N = 2 * X.V := ⟨_, rfl⟩
  rw [← hr1, ← htt, ← hnn, ← hcc] at hS1
  rw [← hr2, ← htt, ← hcc] at hS2
  rw [← hnn, ← hcc] at q1'
  rw [← htt] at q4'
  rw [← hii] at HI b1 g1 g1f
  rw [← hNN] at c7 b1
  rw [← hnn] at h0 hn
  rw [← hnn, ← hcc] at hcap
  rw [← hnn, ← htt] at ht
  have HTT := Lib.hid htt
  have HCC := Lib.hid hcc
  have HNN := Lib.hid hnn
  have HR1 := Lib.hid hr1
  have HR2 := Lib.hid hr2
  have HII := Lib.hid hii
  have hb1 : (i : Int) < (N : Int) := by omega
  have hti : (t : Int) ≤ (n : Int) := by omega
  have htc : (t : Int) ≤ (cc : Int) := by omega
  have hct : ¬ cc = t := by omega
  have hct' : ¬ (cc : Int) = (t : Int) := by omega
  have hnc : (n : Int) ≤ (cc : Int) := by omega
  clear h hwb hb hS hT hsb hob p1 p2 p3 p4 hA hg1 e1 c0 c5 c8 cf q1 q4 hII hlit hx hp hpl htt hnn hcc hr1 hr2 hii hNN
  cases hF : fo.getD i false with
  | true =>
    have HF := Lib.hid hF
    rw [hF] at g1
    clear hF
    go_enter Tryz.func112, Tryz.ntmps112
    go_wp2
    rw [← HWB.out]
    go_quiet ((go_at_call 88; with_reducible exact quiet_left (HI.out _)))
    go_wp2
    go_ret
    exact .inl ⟨rfl, .inl (by rw [← HII.out]; exact HF.out), HST.out.drewN _, HTN.out.drewN _⟩
  | false =>
    have HF := Lib.hid hF
    rw [hF] at g1
    clear hF
    cases hD : ((X.C p).lits.drop (X.C p).tried).findIdx? (freeB fo o) with
    | some j =>
      obtain ⟨k, hk⟩ : ∃ k, k = (X.C p).tried + j := ⟨_, rfl⟩
      have HK : Hid (nextFree fo o (X.C p).lits (X.C p).tried = some k) := Lib.hid (by rw [HNF.out, hD]; rw [hk])
      obtain ⟨hk1, hk2⟩ := nextFree_some HK.out
      have hlk := HLIT.out k hk1
      have hxk := HX.out _ (take_snoc7 hk1).2
      obtain ⟨x, hxx⟩ : ∃ x, x = (X.C p).lits.getD k 0 := ⟨_, rfl⟩
      rw [← hxx] at hlk hxk
      have HXX := Lib.hid hxx
      have HXK := Lib.hid hxk
      rw [← HNN.out] at hk1
      have hkn : (k : Int) < (n : Int) := by omega
      have hv1 : r1 = (j : Int) := by rw [HR1.out]; unfold firstFree; rw [hD]
      have HM3 := Lib.hid (fun q : Nat => HST.out.moved3 HPP.out k o x q)
      have HS5 := Lib.hid (fun q : Nat => (show Sto (moved3 wb p k o x q).drew.drew base (X.cl p { X.C p with w0 := o, w1 := x, tried := k }) fo from ((HM3.out q).1.drewN 1).drewN 1))
      have HB5 : Hid (∀ q : Nat, Blk ((moved3 wb p k o x q).drew.drew) W.heap.size 53 #[.pointer (some ⟨X.s, 0, none⟩)]) := Lib.hid fun q => (HM3.out q).2.blk _ _ _ HSB.out (by decide) (by decide) (by decide) (by decide) (HSB.out.ne_ HST.out.fol (by decide)) (own_blk_ne HST.out.fnd HSB.out (by decide))
      have HC5 : Hid (∀ q : Nat, (moved3 wb p k o x q).drew.drew.cell? ⟨W.heap.size, 0, none⟩ = some (.pointer (some ⟨X.s, 0, none⟩)) ∧ (moved3 wb p k o x q).drew.drew.cell? ⟨p, 1, none⟩ = some (.slice (some ⟨gl, 0, none⟩) n cc) ∧ (moved3 wb p k o x q).drew.drew.cell? ⟨gl, k, none⟩ = some (.int .i64 x)) := Lib.hid fun q => by
        obtain ⟨l1, l2⟩ := (HS5.out q).litcells HPP.out (gl := gl) (by rw [SX.cl_same]; exact HA.out)
        rw [SX.cl_same] at l1 l2
        refine ⟨(HB5.out q).cell 0, by rw [HNN.out, HCC.out]; exact l1, (l2 k (by rw [← HNN.out]; exact hk1)).trans (congrArg (fun z => some (Value.int .i64 z)) HXX.out.symm)⟩
      have HENL := Lib.hid (fun q : Nat => enlist_any (HS5.out q) p x HXK.out (HPL.out _ (ix_eq HXK.out).2))
      have hjt : (j : Int) + (t : Int) = (k : Int) := by rw [hk, ← HTT.out]; omega
      have hj0 : (0 : Int) ≤ (j : Int) := Int.natCast_nonneg _
      subst hv1
      clear hD hk hxx hxk hk2
      go_enter Tryz.func112, Tryz.ntmps112
      go_wp2
      rw [← HWB.out]
      go_quiet ((go_at_call 88; with_reducible exact quiet_left (HI.out _)))
      go_wp2
      go_quiet ((go_at_call 71; first | with_reducible exact quiet_add_more (hS1.out _) | with_reducible exact quiet_more (hS1.out _)))
      go_wp2
      go_region
      go_wp2_with fail
      refine wp_region_held_drew (S := fun w' => w'.cell? ⟨W.heap.size, 0, none⟩ = some (.pointer (some ⟨X.s, 0, none⟩)) ∧ w'.cell? ⟨p, 1, none⟩ = some (.slice (some ⟨gl, 0, none⟩) n cc) ∧ w'.cell? ⟨gl, k, none⟩ = some (.int .i64 x)) (by kernel_rfl) (HC5.out _) (fun hHeld => ?_)
      refine wpAnyH_take (i := 0) (oi := { dst := some 66, op := _, type := _, pos := _, after := _, guard := _ }) (v := ?v1) rfl (by kernel_rfl) (by kernel_rfl) (by kernel_rfl) (fun _ _ _ h => h) (Or.inl ⟨by rfl, ?hy1⟩) (by assumption) ?rest1
      case hy1 => (intro w99 hSw; obtain ⟨s1, s2, s3⟩ := hSw; go_simp; try with_reducible rfl)
      try simp only [Act.put, List.setIfInBounds_toArray, List.set_cons_zero, List.set_cons_succ]
      refine wpAnyH_take (i := 1) (oi := { dst := some 67, op := _, type := _, pos := _, after := _, guard := _ }) (v := ?v2) rfl (by kernel_rfl) (by kernel_rfl) (by kernel_rfl) (fun _ _ _ h => h) (Or.inl ⟨by rfl, ?hy2⟩) (by assumption) ?rest2
      case hy2 => (intro w99 hSw; obtain ⟨s1, s2, s3⟩ := hSw; go_simp; try with_reducible rfl)
      try simp only [Act.put, List.setIfInBounds_toArray, List.set_cons_zero, List.set_cons_succ]
      refine wpAnyH_take (i := 2) (oi := { dst := some 68, op := _, type := _, pos := _, after := _, guard := _ }) (v := ?v3) rfl (by kernel_rfl) (by kernel_rfl) (by kernel_rfl) (fun _ _ _ h => h) (Or.inl ⟨by rfl, ?hy3⟩) (by assumption) ?rest3
      case hy3 => (intro w99 hSw; obtain ⟨s1, s2, s3⟩ := hSw; go_simp; try with_reducible rfl)
      try simp only [Act.put, List.setIfInBounds_toArray, List.set_cons_zero, List.set_cons_succ]
      refine wpAnyH_take (i := 3) (oi := { dst := some 69, op := _, type := _, pos := _, after := _, guard := _ }) (v := ?v4) rfl (by kernel_rfl) (by kernel_rfl) (by kernel_rfl) (fun _ _ _ h => h) (Or.inl ⟨by rfl, ?hy4⟩) (by assumption) ?rest4
      case hy4 => (intro w99 hSw; obtain ⟨s1, s2, s3⟩ := hSw; go_simp; try with_reducible rfl)
      try simp only [Act.put, List.setIfInBounds_toArray, List.set_cons_zero, List.set_cons_succ]
      refine wpAnyH_take (i := 4) (oi := { dst := some 70, op := _, type := _, pos := _, after := _, guard := _ }) (v := ?v5) rfl (by kernel_rfl) (by kernel_rfl) (by kernel_rfl) (fun _ _ _ h => h) (Or.inl ⟨by rfl, ?hy5⟩) (by assumption) ?rest5
      case hy5 => (intro w99 hSw; obtain ⟨s1, s2, s3⟩ := hSw; go_simp; try with_reducible rfl)
      try simp only [Act.put, List.setIfInBounds_toArray, List.set_cons_zero, List.set_cons_succ]
      refine wpAnyH_take (i := 5) (oi := { dst := some 71, op := _, type := _, pos := _, after := _, guard := _ }) (v := ?v6) rfl (by kernel_rfl) (by kernel_rfl) (by kernel_rfl) (fun _ _ _ h => h) (Or.inl ⟨by rfl, ?hy6⟩) (by assumption) ?rest6
      case hy6 => (intro w99 hSw; obtain ⟨s1, s2, s3⟩ := hSw; go_simp; try with_reducible rfl)
      try simp only [Act.put, List.setIfInBounds_toArray, List.set_cons_zero, List.set_cons_succ]
      refine wpAnyH_take (i := 6) (oi := { dst := some 72, op := _, type := _, pos := _, after := _, guard := _ }) (v := ?v7) rfl (by kernel_rfl) (by kernel_rfl) (by kernel_rfl) (fun _ _ _ h => h) (Or.inl ⟨by rfl, ?hy7⟩) (by assumption) ?rest7
      case hy7 => (intro w99 hSw; obtain ⟨s1, s2, s3⟩ := hSw; go_simp; try with_reducible rfl)
      try simp only [Act.put, List.setIfInBounds_toArray, List.set_cons_zero, List.set_cons_succ]
      refine wpAnyH_take (i := 7) (oi := { dst := some 73, op := _, type := _, pos := _, after := _, guard := _ }) (v := ?v8) rfl (by kernel_rfl) (by kernel_rfl) (by kernel_rfl) (fun _ _ _ h => h) (Or.inl ⟨by rfl, ?hy8⟩) (by assumption) ?rest8
      case hy8 => (intro w99 hSw; obtain ⟨s1, s2, s3⟩ := hSw; go_simp; try with_reducible rfl)
      try simp only [Act.put, List.setIfInBounds_toArray, List.set_cons_zero, List.set_cons_succ]
      refine wpAnyH_take (i := 8) (oi := { dst := some 74, op := _, type := _, pos := _, after := _, guard := _ }) (v := ?v9) rfl (by kernel_rfl) (by kernel_rfl) (by kernel_rfl) (fun _ _ _ h => h) (Or.inl ⟨by rfl, ?hy9⟩) (by assumption) ?rest9
      case hy9 => (intro w99 hSw; obtain ⟨s1, s2, s3⟩ := hSw; go_simp; try with_reducible rfl)
      try simp only [Act.put, List.setIfInBounds_toArray, List.set_cons_zero, List.set_cons_succ]
      refine wpAnyH_ready (rs := [9]) (by kernel_rfl) (by simp) ?_
      refine AllReadyH.cons rfl (fun K hK => ?_) AllReadyH.nil
      go_simp
      refine (HENL.out _).mono ?_
      rintro e1 w2 ⟨rfl, A3, c3, k1, k2⟩
      obtain ⟨l1, l2⟩ := k1.litcells (p := p) HPP.out (gl := gl) (by simp only [SX.pile, SX.cl, if_true]; exact HA.out)
      simp only [SX.pile, SX.cl, if_true] at l1 l2
      have hS2 : w2.cell? ⟨W.heap.size, 0, none⟩ = some (.pointer (some ⟨X.s, 0, none⟩)) ∧ w2.cell? ⟨p, 1, none⟩ = some (.slice (some ⟨gl, 0, none⟩) n cc) ∧ w2.cell? ⟨gl, k, none⟩ = some (.int .i64 x) := ⟨(k2.blk _ _ _ (HB5.out _) (by decide) (by decide) (by decide) (by decide) (Blk.ne_ (HB5.out 0) (HS5.out 0).fol (by decide)) (own_blk_ne (HS5.out 0).fnd (HB5.out 0) (by decide))).cell 0, by rw [HNN.out, HCC.out]; exact l1, (l2 k (by rw [← HNN.out]; exact hk1)).trans (congrArg (fun z => some (Value.int .i64 z)) HXX.out.symm)⟩
      have HK1 := Lib.hid k1
      have HK3 := Lib.hid k2
      clear l1 l2 k1
      refine hK.out _ _ hS2  (fun hHeld => ?_)
      clear hK
      try simp only [Act.put, List.setIfInBounds_toArray, List.set_cons_zero, List.set_cons_succ]
      refine wpAnyH_done (by kernel_rfl) ?_ _
      go_wp2
      go_ret
      refine .inr ⟨k, A3, c3, rfl, by rw [← HII.out]; exact HF.out, HK.out, ?_, ?_⟩
      · rw [← HXX.out]; exact HK1.out
      · exact (HTN.out.trans (HM3.out _).2 (Later7.refl _ _)).trans (Tn.cl (show Tn base (X.cl p _) (moved3 wb p k o x _) w2 from HK3.out.undrew2)) (Later7.refl _ _)
    | none =>
      cases hE : ((X.C p).lits.take (X.C p).tried).findIdx? (freeB fo o) with
      | none =>
        have hv1 : r1 = -1 := by rw [HR1.out]; unfold firstFree; rw [hD]
        have hv2 : r2 = -1 := by rw [HR2.out]; unfold firstFree; rw [hE]
        have HNONE : Hid (nextFree fo o (X.C p).lits (X.C p).tried = none) := Lib.hid (by rw [HNF.out, hD]; exact hE)
        subst hv1 hv2
        clear hD hE
        go_enter Tryz.func112, Tryz.ntmps112
        go_wp2
        rw [← HWB.out]
        go_quiet ((go_at_call 88; with_reducible exact quiet_left (HI.out _)))
        go_wp2
        go_quiet ((go_at_call 71; first | with_reducible exact quiet_add_more (hS1.out _) | with_reducible exact quiet_more (hS1.out _)))
        go_wp2
        go_quiet ((go_at_call 71; first | with_reducible exact quiet_add_more (hS2.out _) | with_reducible exact quiet_more (hS2.out _)))
        go_wp2
        go_ret
        exact .inl ⟨rfl, .inr HNONE.out, HST.out.drewN _, HTN.out.drewN _⟩
      | some k =>
        have HK : Hid (nextFree fo o (X.C p).lits (X.C p).tried = some k) := Lib.hid (by rw [HNF.out, hD]; exact hE)
        obtain ⟨hk1, hk2⟩ := nextFree_some HK.out
        have hlk := HLIT.out k hk1
        have hxk := HX.out _ (take_snoc7 hk1).2
        obtain ⟨x, hxx⟩ : ∃ x, x = (X.C p).lits.getD k 0 := ⟨_, rfl⟩
        rw [← hxx] at hlk hxk
        have HXX := Lib.hid hxx
        have HXK := Lib.hid hxk
        rw [← HNN.out] at hk1
        have hkn : (k : Int) < (n : Int) := by omega
        have hv1 : r1 = -1 := by rw [HR1.out]; unfold firstFree; rw [hD]
        have hv2 : r2 = (k : Int) := by rw [HR2.out]; unfold firstFree; rw [hE]
        have HM3 := Lib.hid (fun q : Nat => HST.out.moved3 HPP.out k o x q)
        have HS5 := Lib.hid (fun q : Nat => (show Sto (moved3 wb p k o x q).drew.drew base (X.cl p { X.C p with w0 := o, w1 := x, tried := k }) fo from ((HM3.out q).1.drewN 1).drewN 1))
        have HB5 : Hid (∀ q : Nat, Blk ((moved3 wb p k o x q).drew.drew) W.heap.size 53 #[.pointer (some ⟨X.s, 0, none⟩)]) := Lib.hid fun q => (HM3.out q).2.blk _ _ _ HSB.out (by decide) (by decide) (by decide) (by decide) (HSB.out.ne_ HST.out.fol (by decide)) (own_blk_ne HST.out.fnd HSB.out (by decide))
        have HC5 : Hid (∀ q : Nat, (moved3 wb p k o x q).drew.drew.cell? ⟨W.heap.size, 0, none⟩ = some (.pointer (some ⟨X.s, 0, none⟩)) ∧ (moved3 wb p k o x q).drew.drew.cell? ⟨p, 1, none⟩ = some (.slice (some ⟨gl, 0, none⟩) n cc) ∧ (moved3 wb p k o x q).drew.drew.cell? ⟨gl, k, none⟩ = some (.int .i64 x)) := Lib.hid fun q => by
          obtain ⟨l1, l2⟩ := (HS5.out q).litcells HPP.out (gl := gl) (by rw [SX.cl_same]; exact HA.out)
          rw [SX.cl_same] at l1 l2
          refine ⟨(HB5.out q).cell 0, by rw [HNN.out, HCC.out]; exact l1, (l2 k (by rw [← HNN.out]; exact hk1)).trans (congrArg (fun z => some (Value.int .i64 z)) HXX.out.symm)⟩
        have HENL := Lib.hid (fun q : Nat => enlist_any (HS5.out q) p x HXK.out (HPL.out _ (ix_eq HXK.out).2))
        have hj0 : (0 : Int) ≤ (k : Int) := Int.natCast_nonneg _
        subst hv1 hv2
        clear hD hE hxx hxk hk2
        go_enter Tryz.func112, Tryz.ntmps112
        go_wp2
        rw [← HWB.out]
        go_quiet ((go_at_call 88; with_reducible exact quiet_left (HI.out _)))
        go_wp2
        go_quiet ((go_at_call 71; first | with_reducible exact quiet_add_more (hS1.out _) | with_reducible exact quiet_more (hS1.out _)))
        go_wp2
        go_quiet ((go_at_call 71; first | with_reducible exact quiet_add_more (hS2.out _) | with_reducible exact quiet_more (hS2.out _)))
        go_wp2
        go_region
        go_wp2_with fail
        refine wp_region_held_drew (S := fun w' => w'.cell? ⟨W.heap.size, 0, none⟩ = some (.pointer (some ⟨X.s, 0, none⟩)) ∧ w'.cell? ⟨p, 1, none⟩ = some (.slice (some ⟨gl, 0, none⟩) n cc) ∧ w'.cell? ⟨gl, k, none⟩ = some (.int .i64 x)) (by kernel_rfl) (HC5.out _) (fun hHeld => ?_)
        refine wpAnyH_take (i := 0) (oi := { dst := some 66, op := _, type := _, pos := _, after := _, guard := _ }) (v := ?v101) rfl (by kernel_rfl) (by kernel_rfl) (by kernel_rfl) (fun _ _ _ h => h) (Or.inl ⟨by rfl, ?hy101⟩) (by assumption) ?rest101
        case hy101 => (intro w99 hSw; obtain ⟨s1, s2, s3⟩ := hSw; go_simp; try with_reducible rfl)
        try simp only [Act.put, List.setIfInBounds_toArray, List.set_cons_zero, List.set_cons_succ]
        refine wpAnyH_take (i := 1) (oi := { dst := some 67, op := _, type := _, pos := _, after := _, guard := _ }) (v := ?v102) rfl (by kernel_rfl) (by kernel_rfl) (by kernel_rfl) (fun _ _ _ h => h) (Or.inl ⟨by rfl, ?hy102⟩) (by assumption) ?rest102
        case hy102 => (intro w99 hSw; obtain ⟨s1, s2, s3⟩ := hSw; go_simp; try with_reducible rfl)
        try simp only [Act.put, List.setIfInBounds_toArray, List.set_cons_zero, List.set_cons_succ]
        refine wpAnyH_take (i := 2) (oi := { dst := some 68, op := _, type := _, pos := _, after := _, guard := _ }) (v := ?v103) rfl (by kernel_rfl) (by kernel_rfl) (by kernel_rfl) (fun _ _ _ h => h) (Or.inl ⟨by rfl, ?hy103⟩) (by assumption) ?rest103
        case hy103 => (intro w99 hSw; obtain ⟨s1, s2, s3⟩ := hSw; go_simp; try with_reducible rfl)
        try simp only [Act.put, List.setIfInBounds_toArray, List.set_cons_zero, List.set_cons_succ]
        refine wpAnyH_take (i := 3) (oi := { dst := some 69, op := _, type := _, pos := _, after := _, guard := _ }) (v := ?v104) rfl (by kernel_rfl) (by kernel_rfl) (by kernel_rfl) (fun _ _ _ h => h) (Or.inl ⟨by rfl, ?hy104⟩) (by assumption) ?rest104
        case hy104 => (intro w99 hSw; obtain ⟨s1, s2, s3⟩ := hSw; go_simp; try with_reducible rfl)
        try simp only [Act.put, List.setIfInBounds_toArray, List.set_cons_zero, List.set_cons_succ]
        refine wpAnyH_take (i := 4) (oi := { dst := some 70, op := _, type := _, pos := _, after := _, guard := _ }) (v := ?v105) rfl (by kernel_rfl) (by kernel_rfl) (by kernel_rfl) (fun _ _ _ h => h) (Or.inl ⟨by rfl, ?hy105⟩) (by assumption) ?rest105
        case hy105 => (intro w99 hSw; obtain ⟨s1, s2, s3⟩ := hSw; go_simp; try with_reducible rfl)
        try simp only [Act.put, List.setIfInBounds_toArray, List.set_cons_zero, List.set_cons_succ]
        refine wpAnyH_take (i := 5) (oi := { dst := some 71, op := _, type := _, pos := _, after := _, guard := _ }) (v := ?v106) rfl (by kernel_rfl) (by kernel_rfl) (by kernel_rfl) (fun _ _ _ h => h) (Or.inl ⟨by rfl, ?hy106⟩) (by assumption) ?rest106
        case hy106 => (intro w99 hSw; obtain ⟨s1, s2, s3⟩ := hSw; go_simp; try with_reducible rfl)
        try simp only [Act.put, List.setIfInBounds_toArray, List.set_cons_zero, List.set_cons_succ]
        refine wpAnyH_take (i := 6) (oi := { dst := some 72, op := _, type := _, pos := _, after := _, guard := _ }) (v := ?v107) rfl (by kernel_rfl) (by kernel_rfl) (by kernel_rfl) (fun _ _ _ h => h) (Or.inl ⟨by rfl, ?hy107⟩) (by assumption) ?rest107
        case hy107 => (intro w99 hSw; obtain ⟨s1, s2, s3⟩ := hSw; go_simp; try with_reducible rfl)
        try simp only [Act.put, List.setIfInBounds_toArray, List.set_cons_zero, List.set_cons_succ]
        refine wpAnyH_take (i := 7) (oi := { dst := some 73, op := _, type := _, pos := _, after := _, guard := _ }) (v := ?v108) rfl (by kernel_rfl) (by kernel_rfl) (by kernel_rfl) (fun _ _ _ h => h) (Or.inl ⟨by rfl, ?hy108⟩) (by assumption) ?rest108
        case hy108 => (intro w99 hSw; obtain ⟨s1, s2, s3⟩ := hSw; go_simp; try with_reducible rfl)
        try simp only [Act.put, List.setIfInBounds_toArray, List.set_cons_zero, List.set_cons_succ]
        refine wpAnyH_take (i := 8) (oi := { dst := some 74, op := _, type := _, pos := _, after := _, guard := _ }) (v := ?v109) rfl (by kernel_rfl) (by kernel_rfl) (by kernel_rfl) (fun _ _ _ h => h) (Or.inl ⟨by rfl, ?hy109⟩) (by assumption) ?rest109
        case hy109 => (intro w99 hSw; obtain ⟨s1, s2, s3⟩ := hSw; go_simp; try with_reducible rfl)
        try simp only [Act.put, List.setIfInBounds_toArray, List.set_cons_zero, List.set_cons_succ]
        refine wpAnyH_ready (rs := [9]) (by kernel_rfl) (by simp) ?_
        refine AllReadyH.cons rfl (fun K hK => ?_) AllReadyH.nil
        go_simp
        refine (HENL.out _).mono ?_
        rintro e1 w2 ⟨rfl, A3, c3, k1, k2⟩
        obtain ⟨l1, l2⟩ := k1.litcells (p := p) HPP.out (gl := gl) (by simp only [SX.pile, SX.cl, if_true]; exact HA.out)
        simp only [SX.pile, SX.cl, if_true] at l1 l2
        have hS2 : w2.cell? ⟨W.heap.size, 0, none⟩ = some (.pointer (some ⟨X.s, 0, none⟩)) ∧ w2.cell? ⟨p, 1, none⟩ = some (.slice (some ⟨gl, 0, none⟩) n cc) ∧ w2.cell? ⟨gl, k, none⟩ = some (.int .i64 x) := ⟨(k2.blk _ _ _ (HB5.out _) (by decide) (by decide) (by decide) (by decide) (Blk.ne_ (HB5.out 0) (HS5.out 0).fol (by decide)) (own_blk_ne (HS5.out 0).fnd (HB5.out 0) (by decide))).cell 0, by rw [HNN.out, HCC.out]; exact l1, (l2 k (by rw [← HNN.out]; exact hk1)).trans (congrArg (fun z => some (Value.int .i64 z)) HXX.out.symm)⟩
        have HK1 := Lib.hid k1
        have HK3 := Lib.hid k2
        clear l1 l2 k1
        refine hK.out _ _ hS2  (fun hHeld => ?_)
        clear hK
        try simp only [Act.put, List.setIfInBounds_toArray, List.set_cons_zero, List.set_cons_succ]
        refine wpAnyH_done (by kernel_rfl) ?_ _
        go_wp2
        go_ret
        refine .inr ⟨k, A3, c3, rfl, by rw [← HII.out]; exact HF.out, HK.out, ?_, ?_⟩
        · rw [← HXX.out]; exact HK1.out
        · exact (HTN.out.trans (HM3.out _).2 (Later7.refl _ _)).trans (Tn.cl (show Tn base (X.cl p _) (moved3 wb p k o x _) w2 from HK3.out.undrew2)) (Later7.refl _ _)
end Go.Proofs.YthcpfaahcncfjaaGreatDoor
