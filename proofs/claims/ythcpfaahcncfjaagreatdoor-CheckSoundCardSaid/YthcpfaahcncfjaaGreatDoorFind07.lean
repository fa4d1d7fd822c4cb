/- find: a literal follows. -/
import Derived.Test.YthcpfaahcncfjaaGreatDoorSto07
namespace Go.Proofs.YthcpfaahcncfjaaGreatDoor
open Go.RowKit
set_option linter.unusedVariables false
set_option linter.unusedSimpArgs false

theorem blk_map_ne7 {w : World} {g b n : Nat} {t : TypeId} {cs : Array Value} {P : Program} {k : TypeId} {R : Value → Option (DataW Value × List MemPlace)} {D : DataW Value} (h : Blk w g t cs) (hm : w.ownsMap P k R b n D) : g ≠ b := by
  rintro rfl
  obtain ⟨es, clock, hb, _⟩ := hm
  unfold Blk at h
  rw [h] at hb
  cases hb
theorem own_map_ne7 {w : World} {b n base m : Nat} {e : TypeId} {v : Value} {xs : List Value} {P : Program} {k : TypeId} {R : Value → Option (DataW Value × List MemPlace)} {D : DataW Value} (h : w.ownsRow base e 1 v m xs) (hm : w.ownsMap P k R b n D) : some b ≠ v.ownBlock := by
  rcases h.2 with ⟨rfl, _⟩ | ⟨g', cap, cur, rfl, _, hh, _⟩
  · simp [Value.ownBlock]
  · intro e
    have e2 : b = g' := by simpa [Value.ownBlock] using e
    exact blk_map_ne7 (show Blk w g' _ cur from hh) hm e2.symm
theorem own_kept7 {w w' : World} {base n m : Nat} {e t : TypeId} {v u : Value} {xs ys : List Value} (h : w.ownsRow base e 1 v n xs) (hg : w.grownBy w' u.ownBlock) (hu : w.ownsRow base t 1 u m ys) (hne : e ≠ t) : w'.ownsRow base e 1 v n xs := by
  refine h.kept hg ?_
  rcases own_own_ne h hu hne with e1 | e1
  · exact .inl e1
  · exact .inr e1
section
variable {W W' : World} {base : Nat} {X : SX} {fo : List Bool}
theorem Sto.cells (h : Sto W base X fo) : W.cell? ⟨X.s, 0, none⟩ = some (.int .i64 X.V) ∧ W.cell? ⟨X.s, 5, none⟩ = some (.slice X.Aw (2 * X.V) X.cw) ∧ W.cell? ⟨X.s, 7, none⟩ = some (.slice (some ⟨X.fb, 0, none⟩) (2 * X.V) (2 * X.V)) ∧ W.cell? ⟨X.s, 8, none⟩ = some X.fv ∧ ∀ j, W.frozen? ⟨X.s, j, none⟩ = false :=
  ⟨h.st.cell 0, h.st.cell 5, h.st.cell 7, h.st.cell 8, fun j => h.st.frozen j⟩
theorem Sto.folcell (h : Sto W base X fo) {i : Nat} (hi : i < 2 * X.V) : W.cell? ⟨X.fb, i, none⟩ = some (.bool (fo.getD i false)) ∧ W.frozen? ⟨X.fb, i, none⟩ = false := by
  have := h.flen
  refine ⟨?_, h.fol.frozen i⟩
  rw [h.fol.cell i]
  simp [List.getD, show i < fo.length by omega]
/-- a bool of follows is another -/
theorem Sto.setFol (h : Sto W base X fo) (i : Nat) (x : Bool) : Sto (W.setCell ⟨X.fb, i, none⟩ (.bool x)) base X (fo.set i x) ∧ Tn base X W (W.setCell ⟨X.fb, i, none⟩ (.bool x)) := by
  have far : ∀ q t Y, Blk W q t Y → t ≠ 4 → Blk (W.setCell ⟨X.fb, i, none⟩ (.bool x)) q t Y := fun q t Y hq hne => hq.far (hq.ne_ h.fol hne) _
  have row : ∀ (e : TypeId) (v : Value) (n : Nat) (xs : List Value), W.ownsRow base e 1 v n xs → e ≠ 4 → (W.setCell ⟨X.fb, i, none⟩ (.bool x)).ownsRow base e 1 v n xs := fun e v n xs ho hne => own_setCell ho _ (own_blk_ne ho h.fol hne)
  refine ⟨⟨far _ _ _ h.st (by decide), ?_, by rw [List.length_set]; exact h.flen, row _ _ _ _ h.fnd (by decide), row _ _ _ _ h.out (by decide), h.pil.keep fun q Y hq => far _ _ _ hq (by decide), h.num, fun p hp => ?_, ?_, h.lo, h.vb⟩, ⟨(Below.refl _ _).setCell h.lo.2.1 _, fun q t Y hq _ _ _ _ h5 _ => hq.far h5 _, Recs.set _ _ _⟩⟩
  · have := h.fol.set_ i (.bool x)
    rw [show (fo.set i x).map Value.bool = (fo.map Value.bool).set i (.bool x) by rw [List.map_set]]
    simpa using this
  · obtain ⟨c1, c2, c3, c4⟩ := h.cl p hp
    exact ⟨far _ _ _ c1 (by decide), c2, row _ _ _ _ c3 (by decide), c4⟩
  · obtain ⟨D, n, hm, h2⟩ := h.map
    exact ⟨D, n, hm.kept (grown_setCell W _ _) (fun e => blk_map_ne7 h.fol hm (by simpa using e.symm)), h2⟩
/-- a literal behind those that were found: what the append and the store into the struct leave -/
theorem Sto.addFound {W2 : World} {A' : Option Addr} {c' : Nat} {l : Int} (h : Sto W base X fo) (hg : (W.alloc (.cells #[.int .i64 l] 3)).grownBy W2 X.fv.ownBlock)
    (ho : W2.ownsRow base 3 1 (.slice A' (X.fd.length + 1) c') (X.fd.length + 1) (X.fd.map (Value.int .i64) ++ [.int .i64 l])) (hat : (Value.slice A' (X.fd.length + 1) c').ownBlock = X.fv.ownBlock ∨ (Value.slice A' (X.fd.length + 1) c').ownBlock = some (W.heap.size + 1)) :
    Sto (W2.setCell ⟨X.s, 8, none⟩ (.slice A' (X.fd.length + 1) c')) base { X with Af := A', cf := c', fd := X.fd ++ [l] } fo ∧ Tn base X W (W2.setCell ⟨X.s, 8, none⟩ (.slice A' (X.fd.length + 1) c')) ∧ Later7 W X { X with Af := A', cf := c', fd := X.fd ++ [l] } := by
  have hfv : ({ X with Af := A', cf := c', fd := X.fd ++ [l] } : SX).fv = .slice A' (X.fd.length + 1) c' := by simp [SX.fv]
  have hst2 : Blk W2 X.s 117 X.head := (h.st.alloc _).grown hg (own_blk_ne h.fnd h.st (by decide))
  have far : ∀ q t Y, Blk W q t Y → t ≠ 3 → t ≠ 117 → Blk (W2.setCell ⟨X.s, 8, none⟩ (.slice A' (X.fd.length + 1) c')) q t Y := fun q t Y hq h1 h2 =>
    have h3 : Blk W2 q t Y := (hq.alloc _).grown hg (own_blk_ne h.fnd hq (Ne.symm h1))
    h3.far (h3.ne_ hst2 h2) _
  have row : ∀ (e : TypeId) (v : Value) (n : Nat) (xs : List Value), W.ownsRow base e 1 v n xs → e ≠ 3 → e ≠ 117 → (W2.setCell ⟨X.s, 8, none⟩ (.slice A' (X.fd.length + 1) c')).ownsRow base e 1 v n xs := fun e v n xs ho h1 h2 =>
    have h3 := own_kept7 (ho.alloc _) hg (h.fnd.alloc _) h1
    own_setCell h3 _ (own_blk_ne h3 hst2 h2)
  have ho2 : (W2.setCell ⟨X.s, 8, none⟩ (.slice A' (X.fd.length + 1) c')).ownsRow base 3 1 (.slice A' (X.fd.length + 1) c') (X.fd.length + 1) (X.fd.map (Value.int .i64) ++ [.int .i64 l]) := own_setCell ho _ (own_blk_ne ho hst2 (by decide))
  have hlt : ∀ g, X.fv.ownBlock = some g → g < W.heap.size := fun g hg => (h.fnd.lt g hg).2
  have hbW : base ≤ W.heap.size := by have := h.lo.1; have := h.st.lt; omega
  refine ⟨⟨?_, far _ _ _ h.fol (by decide) (by decide), h.flen, ?_, row _ _ _ _ h.out (by decide) (by decide), h.pil.keep fun q Y hq => far _ _ _ hq (by decide) (by decide), h.num, fun p hp => ?_, ?_, h.lo, h.vb⟩, ⟨?_, fun q t Y hq h1 h2 h3 h4 h5 h6 => ?_, ((Recs.of_below ((Below.refl _ _).alloc (Nat.le_refl _) _)).trans (Recs.grown_row hg (h.fnd.alloc _))).trans (Recs.set _ _ _)⟩, rfl, ?_⟩
  · have := hst2.set_ 8 (.slice A' (X.fd.length + 1) c')
    have e : ({ X with Af := A', cf := c', fd := X.fd ++ [l] } : SX).head = X.head.setIfInBounds 8 (.slice A' (X.fd.length + 1) c') := by simp [SX.head, SX.fv]
    rw [e]; exact this
  · rw [hfv]
    simpa using ho2
  · obtain ⟨c1, c2, c3, c4⟩ := h.cl p hp
    have hkn : (X.C p).row.ownBlock = none ∨ (X.C p).row.ownBlock ≠ X.fv.ownBlock := by
      rcases hb : (X.C p).row.ownBlock with _ | g
      · exact .inl rfl
      · exact .inr fun e => c4 g hb (e.symm.trans rfl)
    have k3 : W2.ownsRow base 3 1 (X.C p).row (X.C p).lits.length ((X.C p).lits.map (Value.int .i64)) := (c3.alloc _).kept hg hkn
    refine ⟨far _ _ _ c1 (by decide) (by decide), c2, own_setCell k3 _ (own_blk_ne k3 hst2 (by decide)), fun g hg2 => ?_⟩
    rw [hfv]
    rcases hat with e | e
    · rw [e]; exact c4 g hg2
    · rw [e]; intro e2; injection e2 with e2; have := (c3.lt g hg2).2; omega
  · obtain ⟨D, n, hm, h2⟩ := h.map
    have hm2 : W2.ownsMap Tryz.prog 9 heldE X.m n D := (hm.alloc _).kept hg (own_map_ne7 h.fnd hm)
    exact ⟨D, n, hm2.kept (grown_setCell W2 _ _) (fun e => blk_map_ne7 hst2 hm2 (by simpa using e.symm)), h2⟩
  · refine (((Below.refl base W).alloc hbW _).grown hg (by simp; omega) fun g hg2 => (h.fnd.lt g hg2).1).setCell h.lo.1 _
  · have k : Blk W2 q t Y := (hq.alloc _).grown hg h6
    exact k.far (k.ne_ hst2 h1) _
  · rw [hfv]
    rcases hat with e | e
    · exact .inl e
    · exact .inr fun g hg2 => by rw [e] at hg2; injection hg2 with hg2; omega
end

theorem Tn.undrew {base : Nat} {X : SX} {W W' : World} {n : Nat} (h : Tn base X (W.drewN n) W') : Tn base X W W' := ⟨⟨h.below.os, h.below.tape, h.below.output, h.below.size, h.below.block⟩, h.blk, h.recs⟩
/-- the store but for what was found -/
structure SameButFd (X X' : SX) : Prop where
  s : X'.s = X.s
  m : X'.m = X.m
  fb : X'.fb = X.fb
  V : X'.V = X.V
  ps : X'.ps = X.ps
  C : X'.C = X.C
  vs : X'.vs = X.vs
  pss : X'.pss = X.pss
  ks : X'.ks = X.ks
  Aw : X'.Aw = X.Aw
  cw : X'.cw = X.cw
  more : X'.added = X.added ∧ X'.ng = X.ng ∧ X'.ko = X.ko ∧ X'.tk = X.tk
/-- what find leaves: false just if the negation follows already -/
def Found (base : Nat) (X : SX) (fo : List Bool) (l : Int) (W : World) (e : Ending) (W' : World) : Prop :=
  ∃ (X' : SX) (fo' : List Bool), e = .returned (.bool (!(fo.getD (ix (-l)) false))) ∧ Sto W' base X' fo' ∧ Tn base X W W' ∧ Later7 W X X' ∧ SameButFd X X' ∧
    (fo.getD (ix (-l)) false = true → X' = X ∧ fo' = fo) ∧ (fo.getD (ix (-l)) false = false → fo.getD (ix l) false = true → X' = X ∧ fo' = fo) ∧
    (fo.getD (ix (-l)) false = false → fo.getD (ix l) false = false → X'.fd = X.fd ++ [l] ∧ fo' = fo.set (ix l) true)
theorem SameButFd.refl (X : SX) : SameButFd X X := ⟨rfl, rfl, rfl, rfl, rfl, rfl, rfl, rfl, rfl, rfl, rfl, rfl, rfl, rfl, rfl⟩
set_option maxRecDepth 100000 in
set_option maxHeartbeats 1000000 in
theorem find_any {W : World} {base : Nat} {X : SX} {fo : List Bool} (h : Sto W base X fo) (l : Int) (hl : Lt7 X.V l) (hn : X.fd.length ≤ 1000000000) :
    Calls Tryz.prog 91 #[.pointer (some ⟨X.s, 0, none⟩), .int .i64 l] W (Found base X fo l W) := by
  obtain ⟨i0, hi, hz0, hz1, hz2⟩ := info_parts Tryz.infoInt3
  have hvb := h.vb
  obtain ⟨e1, b1⟩ := ix_eq hl
  obtain ⟨e2, b2⟩ := ix_eq hl.neg
  obtain ⟨c0, c5, c7, c8, cf⟩ := h.cells
  obtain ⟨g1, g1f⟩ := h.folcell b1
  obtain ⟨g2, g2f⟩ := h.folcell b2
  obtain ⟨hl0, hl1, hl2⟩ := hl
  have HI := Lib.hid (fun w => index_any l w (by omega) (by omega))
  have HJ := Lib.hid (fun w => index_any (-l) w (by omega) (by omega))
  have hwl : IntKind.i64.wrap (-l) = -l := IntWalk.i64_in _ (by omega)
  rw [e1] at HI
  rw [e2] at HJ
  obtain ⟨i, hi'⟩ : ∃ i, i = ix l := ⟨_, rfl⟩
  obtain ⟨j, hj'⟩ : ∃ j, j = ix (-l) := ⟨_, rfl⟩
  obtain ⟨N, hN⟩ : ∃ N, N = 2 * X.V := ⟨_, rfl⟩
  have H := Lib.hid h
  have hF : Found base X fo l W = Found base X fo l W := rfl
  unfold Found
  rw [← hi', ← hj'] 
  rw [← hi'] at HI b1 g1 g1f
  rw [← hj'] at HJ b2 g2 g2f
  rw [← hN] at c7 b1 b2
  have HII := Lib.hid hi'
  have HJJ := Lib.hid hj'
  have HNN := Lib.hid hN
  clear h e1 e2 hF hi' hj' hN
  have hb1 : (i : Int) < (N : Int) := by omega
  have hb2 : (j : Int) < (N : Int) := by omega
  cases hn1 : fo.getD j false with
  | true =>
    rw [hn1] at g2
    go_enter Tryz.func91, Tryz.ntmps91
    go_wp2
    go_quiet ((go_at_call 88; with_reducible exact quiet_left (HJ.out _)))
    go_wp2
    go_ret
    exact ⟨X, fo, rfl, H.out.drewN _, (Tn.refl base X W).drewN _, Later7.refl _ _, SameButFd.refl X, fun _ => ⟨rfl, rfl⟩, fun h => absurd h (by decide), fun h => absurd h (by decide)⟩
  | false =>
    rw [hn1] at g2
    cases hn2 : fo.getD i false with
    | true =>
      rw [hn2] at g1
      go_enter Tryz.func91, Tryz.ntmps91
      go_wp2
      go_quiet ((go_at_call 88; with_reducible exact quiet_left (HJ.out _)))
      go_wp2_with fail
      refine (HI.out _).mono ?_
      rintro e w2 ⟨rfl, rfl⟩
      go_wp2
      go_ret
      exact ⟨X, fo, rfl, H.out.drewN _, (Tn.refl base X W).drewN _, Later7.refl _ _, SameButFd.refl X, fun h => absurd h (by decide), fun _ _ => ⟨rfl, rfl⟩, fun _ h => absurd h (by decide)⟩
    | false =>
      rw [hn2] at g1
      have hne : X.s ≠ X.fb := H.out.st.ne_ H.out.fol (by decide)
      have hbW : base ≤ W.heap.size := by have := H.out.lo.1; have := H.out.st.lt; omega
      have HSF := Lib.hid (fun q : Nat => (H.out.drewN q).setFol i true)
      go_enter Tryz.func91, Tryz.ntmps91
      go_wp2
      go_quiet ((go_at_call 88; with_reducible exact quiet_left (HJ.out _)))
      go_wp2_with fail
      refine (HI.out _).mono ?_
      rintro e w2 ⟨rfl, rfl⟩
      go_wp2_with (at_builtin; refine wpList_append1 _ rfl _ _ 55 rfl base 3 i0 (.int .i64 0) 8 Tryz.underlying55 hi hz0 hz1 hz2 rfl _ X.fd.length _ rfl ((HSF.out _).1.fnd.alloc _) (.int .i64 l) W.heap.size rfl (by go_cell) rfl (by unfold maxLen; omega) (by omega) (by simp [World.setCell]; omega) ?_)
      intro v3 w3 hown3 hg3 hat3
      obtain ⟨A3, c3, hv3, _⟩ := own_slice hown3
      subst hv3
      have hs1 : ∀ q, ((W.drewN q).setCell ⟨X.fb, i, none⟩ (.bool true)).heap.size = W.heap.size := fun q => by simp [World.setCell, World.drewN]
      have HFIN := Lib.hid ((HSF.out _).1.addFound hg3 hown3 (by rw [hs1]; exact hat3))
      have hst3 := ((HSF.out _).1.st.alloc _).grown hg3 (own_blk_ne (HSF.out 0).1.fnd (HSF.out 0).1.st (by decide))
      have HT1 := Lib.hid (fun q => (HSF.out q).2.undrew)
      have d8 := hst3.cell 8
      have d8f := hst3.frozen 8
      have d8' : w3.cell? ⟨X.s, 8, none⟩ = some X.fv := d8
      clear hown3 hg3 hat3 hst3 d8 c0 c5 c7 c8 cf g1 g2 g1f g2f HI HJ HSF
      go_wp2
      go_ret
      exact ⟨_, _, rfl, HFIN.out.1, (HT1.out _).trans HFIN.out.2.1 (Later7.refl _ _), ⟨rfl, by rcases HFIN.out.2.2.2 with e | e; exact .inl e; exact .inr fun g hg => (by have := e g hg; rw [hs1] at this; exact this)⟩, ⟨rfl, rfl, rfl, rfl, rfl, rfl, rfl, rfl, rfl, rfl, rfl, rfl, rfl, rfl, rfl⟩, fun h => absurd h (by decide), fun _ h => absurd h (by decide), fun _ _ => ⟨rfl, rfl⟩⟩
end Go.Proofs.YthcpfaahcncfjaaGreatDoor
