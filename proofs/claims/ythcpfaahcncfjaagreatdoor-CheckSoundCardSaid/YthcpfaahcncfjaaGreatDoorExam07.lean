/- A clause that waits at a literal whose negation follows: what is done with it. -/
import Derived.Test.YthcpfaahcncfjaaGreatDoorMoves07
namespace Go.Proofs.YthcpfaahcncfjaaGreatDoor
open Go.RowKit
set_option linter.unusedVariables false
set_option linter.unusedSimpArgs false

/-- a bool in a box of the caller's is another -/
theorem Sto.box {W : World} {base : Nat} {X : SX} {fo : List Bool} {q : Nat} {Y : Array Value} (h : Sto W base X fo) (hq : Blk W q 4 Y) (hne : q ≠ X.fb) (j : Nat) (v : Value) : Sto (W.setCell ⟨q, j, none⟩ v) base X fo := by
  have far : ∀ r t Z, Blk W r t Z → t ≠ 4 → Blk (W.setCell ⟨q, j, none⟩ v) r t Z := fun r t Z hr ht => hr.far (hr.ne_ hq ht) _
  have row : ∀ (e : TypeId) (u : Value) (n : Nat) (xs : List Value), W.ownsRow base e 1 u n xs → e ≠ 4 → (W.setCell ⟨q, j, none⟩ v).ownsRow base e 1 u n xs := fun e u n xs ho ht => own_setCell ho _ (own_blk_ne ho hq ht)
  refine ⟨far _ _ _ h.st (by decide), h.fol.far (Ne.symm hne) _, h.flen, row _ _ _ _ h.fnd (by decide), row _ _ _ _ h.out (by decide), h.pil.keep fun r Y hr => far _ _ _ hr (by decide), h.num, fun p hp => ?_, ?_, h.lo, h.vb⟩
  · obtain ⟨c1, c2, c3, c4⟩ := h.cl p hp
    exact ⟨far _ _ _ c1 (by decide), c2, row _ _ _ _ c3 (by decide), c4⟩
  · obtain ⟨D, n, hm, h2⟩ := h.map
    exact ⟨D, n, hm.kept (grown_setCell W _ _) (fun e => blk_map_ne7 hq hm (by simpa using e.symm)), h2⟩
/-- what stays while a store turns, but for one box -/
structure TnB (base : Nat) (X : SX) (bb : Nat) (W W' : World) : Prop where
  below : Below base W W'
  blk : ∀ q t Y, Blk W q t Y → t ≠ 117 → t ≠ 120 → t ≠ 121 → t ≠ 113 → q ≠ X.fb → some q ≠ X.fv.ownBlock → q ≠ bb → Blk W' q t Y
  recs : Recs W W'
theorem Tn.toB {base bb : Nat} {X : SX} {W W' : World} (h : Tn base X W W') : TnB base X bb W W' := ⟨h.below, fun q t Y hq h1 h2 h3 h4 h5 h6 _ => h.blk q t Y hq h1 h2 h3 h4 h5 h6, h.recs⟩
theorem TnB.trans {base bb : Nat} {X X' : SX} {W W' W'' : World} (h : TnB base X bb W W') (h' : TnB base X' bb W' W'') (hl : Later7 W X X') : TnB base X bb W W'' := by
  refine ⟨h.below.trans h'.below, fun q t Y hq h1 h2 h3 h4 h5 h6 h7 => h'.blk q t Y (h.blk q t Y hq h1 h2 h3 h4 h5 h6 h7) h1 h2 h3 h4 (by rw [hl.1]; exact h5) (fun e => ?_) h7, h.recs.trans h'.recs⟩
  rcases hl.2 with e2 | e2
  · rw [e2] at e; exact h6 e
  · have := e2 q e.symm; have := hq.lt; omega
theorem TnB.box {base bb : Nat} {X : SX} {W W' : World} (h : TnB base X bb W W') (hb : base ≤ bb) (j : Nat) (v : Value) : TnB base X bb W (W'.setCell ⟨bb, j, none⟩ v) :=
  ⟨h.below.setCell hb v, fun q t Y hq h1 h2 h3 h4 h5 h6 h7 => (h.blk q t Y hq h1 h2 h3 h4 h5 h6 h7).far h7 v, h.recs.trans (Recs.set _ _ _)⟩

theorem Later7.trans_of {W W' : World} {X X' : SX} (h : Later7 W' X X') (hs : W.heap.size ≤ W'.heap.size) : Later7 W X X' := ⟨h.1, by rcases h.2 with e | e; exact .inl e; exact .inr fun g hg => Nat.le_trans hs (e g hg)⟩
/-- the literal at which a clause waits beside l -/
def otherOf (x : CX) (l : Int) : Int := if x.w0 = l then x.w1 else x.w0
/-- one clause of those that wait at l, all being well so far -/
def Exam (X : SX) (fo : List Bool) (l : Int) (p : Nat) (r b : Bool) (X' : SX) (fo' : List Bool) : Prop :=
  ((X.C p).gone = true ∧ r = true ∧ b = true ∧ X' = X ∧ fo' = fo) ∨
  ((X.C p).gone = false ∧ r = true ∧ b = true ∧ fo' = fo ∧ fo.getD (ix (otherOf (X.C p) l)) false = false ∧ ∃ (k : Nat) (v : Value), nextFree fo (otherOf (X.C p) l) (X.C p).lits (X.C p).tried = some k ∧
    X' = (X.cl p { X.C p with w0 := otherOf (X.C p) l, w1 := (X.C p).lits.getD k 0, tried := k }).pile (ix ((X.C p).lits.getD k 0)) v (X.pss.getD (ix ((X.C p).lits.getD k 0)) [] ++ [p])) ∨
  ((X.C p).gone = false ∧ r = false ∧ (fo.getD (ix (otherOf (X.C p) l)) false = true ∨ nextFree fo (otherOf (X.C p) l) (X.C p).lits (X.C p).tried = none) ∧ b = !(fo.getD (ix (-(otherOf (X.C p) l))) false) ∧ SameButFd X X' ∧
    (fo.getD (ix (-(otherOf (X.C p) l))) false = true → X' = X ∧ fo' = fo) ∧ (fo.getD (ix (-(otherOf (X.C p) l))) false = false → fo.getD (ix (otherOf (X.C p) l)) false = true → X' = X ∧ fo' = fo) ∧
    (fo.getD (ix (-(otherOf (X.C p) l))) false = false → fo.getD (ix (otherOf (X.C p) l)) false = false → X'.fd = X.fd ++ [otherOf (X.C p) l] ∧ fo' = fo.set (ix (otherOf (X.C p) l)) true))
/-- one clause, whether all was well or not -/
def StepE (X : SX) (fo : List Bool) (b : Bool) (l : Int) (p : Nat) (r b' : Bool) (X' : SX) (fo' : List Bool) : Prop :=
  (b = false ∧ r = false ∧ b' = false ∧ X' = X ∧ fo' = fo) ∨ (b = true ∧ Exam X fo l p r b' X' fo')
/-- what the closure leaves -/
def Examined (base : Nat) (X : SX) (fo : List Bool) (b : Bool) (bb : Nat) (l : Int) (p : Nat) (W : World) (e : Ending) (W' : World) : Prop :=
  ∃ (r b' : Bool) (X' : SX) (fo' : List Bool), e = .returned (.bool r) ∧ StepE X fo b l p r b' X' fo' ∧ Sto W' base X' fo' ∧ TnB base X bb W W' ∧ Later7 W X X' ∧ Blk W' bb 4 #[.bool b']
set_option maxRecDepth 100000 in
set_option maxHeartbeats 2000000 in
theorem exam_any {W : World} {base : Nat} {X : SX} {fo : List Bool} (h : Sto W base X fo) (p : Nat) (l : Int) (b : Bool) (bb lb sb : Nat) (hbb : Blk W bb 4 #[.bool b]) (hlb : Blk W lb 3 #[.int .i64 l]) (hsb : Blk W sb 53 #[.pointer (some ⟨X.s, 0, none⟩)])
    (hne : bb ≠ X.fb) (hbase : base ≤ bb) (hlv : some lb ≠ X.fv.ownBlock) (hp : p ∈ X.ps) (hw0 : Lt7 X.V (X.C p).w0) (hw1 : Lt7 X.V (X.C p).w1) (hx : ∀ x, x ∈ (X.C p).lits → Lt7 X.V x) (h0 : 0 < (X.C p).lits.length) (hn : (X.C p).lits.length ≤ 1000000000) (ht : (X.C p).tried < (X.C p).lits.length) (hpl : ∀ i, i < 2 * X.V → (X.pss.getD i []).length ≤ 1000000000) (hfd : X.fd.length ≤ 1000000000) :
    Calls Tryz.prog 110 #[.pointer (some ⟨p, 0, none⟩), .pointer (some ⟨bb, 0, none⟩), .pointer (some ⟨lb, 0, none⟩), .pointer (some ⟨sb, 0, none⟩)] W (Examined base X fo b bb l p W) := by
  have b0 := hbb.cell 0
  have b0f := hbb.frozen 0
  have l0 := hlb.cell 0
  have s0 := hsb.cell 0
  simp at b0 l0 s0
  cases b with
  | false =>
    have H := Lib.hid h
    have HBB := Lib.hid hbb
    clear h hbb hlb hsb
    go_enter Tryz.func110, Tryz.ntmps110
    go_wp2
    go_ret
    exact ⟨false, false, X, fo, rfl, .inl ⟨rfl, rfl, rfl, rfl, rfl⟩, H.out, (Tn.refl base X W).toB, Later7.refl _ _, HBB.out⟩
  | true =>
    obtain ⟨p1, p2, p3, p4⟩ := h.cl p hp
    have q5 : W.cell? ⟨p, 5, none⟩ = some (.bool (X.C p).gone) := p1.cell 5
    have HOT := Lib.hid (other_any p (X.C p) l W p1)
    have hol : Lt7 X.V (otherOf (X.C p) l) := by unfold otherOf; split; exact hw1; exact hw0
    have HMV := Lib.hid (moves7_any h p (otherOf (X.C p) l) hp hol hx h0 hn ht hpl)
    have HOL := Lib.hid hol
    have H := Lib.hid h
    have HBB := Lib.hid hbb
    have HSB := Lib.hid hsb
    have HLB := Lib.hid hlb
    have HFD := Lib.hid hfd
    rw [show (if (X.C p).w0 = l then (X.C p).w1 else (X.C p).w0) = otherOf (X.C p) l from rfl] at HOT
    obtain ⟨o, hoo⟩ : ∃ o, o = otherOf (X.C p) l := ⟨_, rfl⟩
    rw [← hoo] at HOT HMV HOL
    have HOO := Lib.hid hoo
    clear h hbb hlb hsb p1 p3 p4 hol hoo hx hpl
    cases hgn : (X.C p).gone with
    | true =>
    rw [hgn] at q5
    have HGN := Lib.hid hgn
    clear hgn
    go_enter Tryz.func110, Tryz.ntmps110
    go_wp2_with fail
    refine HOT.out.mono ?_
    rintro e w1 ⟨rfl, rfl⟩
    go_wp2
    go_ret
    exact ⟨true, true, X, fo, rfl, .inr ⟨rfl, .inl ⟨HGN.out, rfl, rfl, rfl, rfl⟩⟩, H.out, (Tn.refl base X W).toB, Later7.refl _ _, HBB.out⟩
    | false =>
    rw [hgn] at q5
    have HGN := Lib.hid hgn
    clear hgn
    go_enter Tryz.func110, Tryz.ntmps110
    go_wp2_with fail
    refine HOT.out.mono ?_
    rintro e w1 ⟨rfl, rfl⟩
    go_wp2_with fail
    refine HMV.out.mono ?_
    rintro e w2 (⟨rfl, hwhy, hs2, ht2⟩ | ⟨k, A3, c3, rfl, hf, hk, hs2, ht2⟩)
    · have hbb2 := ht2.blk _ _ _ HBB.out (by decide) (by decide) (by decide) (by decide) hne (own_blk_ne H.out.fnd HBB.out (by decide))
      have hsb2 := ht2.blk _ _ _ HSB.out (by decide) (by decide) (by decide) (by decide) (HSB.out.ne_ H.out.fol (by decide)) (own_blk_ne H.out.fnd HSB.out (by decide))
      have HFN := Lib.hid (find_any hs2 o HOL.out HFD.out)
      have s2 := hsb2.cell 0
      simp at s2
      have HBB2 := Lib.hid hbb2
      have HT2 := Lib.hid ht2
      have HS2 := Lib.hid hs2
      have HWHY := Lib.hid hwhy
      clear hbb2 hsb2 ht2 hs2 hwhy
      go_wp2_with fail
      refine HFN.out.mono ?_
      rintro e w3 ⟨X', fo', rfl, hs3, ht3, hl3, hsm, ha, hb, hc⟩
      have hbb3 := ht3.blk _ _ _ HBB2.out (by decide) (by decide) (by decide) (by decide) hne (own_blk_ne HS2.out.fnd HBB2.out (by decide))
      have b3 := hbb3.cell 0
      have b3f := hbb3.frozen 0
      simp at b3
      have HS3 := Lib.hid hs3
      have HT3 := Lib.hid ht3
      have HL3 := Lib.hid hl3
      have HBB3 := Lib.hid hbb3
      have HSM := Lib.hid hsm
      have HABC := Lib.hid (And.intro ha (And.intro hb hc))
      obtain ⟨fb', hfb'⟩ : ∃ z, z = !(fo.getD (ix (-o)) false) := ⟨_, rfl⟩
      rw [← hfb']
      have HFB := Lib.hid hfb'
      clear hs3 ht3 hl3 hbb3 hsm ha hb hc hfb'
      go_wp2
      go_ret
      have hl2 : Later7 W X X' := HL3.out.trans_of (by have := HT2.out.below.size; exact this)
      refine ⟨false, fb', X', fo', rfl, .inr ⟨rfl, .inr (.inr ⟨HGN.out, rfl, ?_, ?_, HSM.out, ?_, ?_, ?_⟩)⟩, HS3.out.box HBB3.out (by rw [HSM.out.fb]; exact hne) 0 _, TnB.box ((HT2.out.toB).trans HT3.out.toB (Later7.refl _ _)) hbase 0 _, hl2, by have := HBB3.out.set_ 0 (.bool fb'); simpa using this⟩
      all_goals rw [← HOO.out]
      · exact HWHY.out
      · exact HFB.out
      · exact HABC.out.1
      · exact HABC.out.2.1
      · exact HABC.out.2.2
    · have hbb2 := ht2.blk _ _ _ HBB.out (by decide) (by decide) (by decide) (by decide) hne (own_blk_ne H.out.fnd HBB.out (by decide))
      have HBB2 := Lib.hid hbb2
      have HT2 := Lib.hid ht2
      have HS2 := Lib.hid hs2
      have HFK := Lib.hid (And.intro hf hk)
      clear hbb2 ht2 hs2 hf hk
      go_wp2
      go_ret
      refine ⟨true, true, _, fo, rfl, .inr ⟨rfl, .inr (.inl ⟨HGN.out, rfl, rfl, rfl, ?_, k, .slice A3 (X.pss.getD (ix ((X.C p).lits.getD k 0)) [] ++ [p]).length c3, ?_, ?_⟩)⟩, HS2.out, HT2.out.toB, ⟨rfl, .inl rfl⟩, HBB2.out⟩
      · rw [← HOO.out]; exact HFK.out.1
      · rw [← HOO.out]; exact HFK.out.2
      · rw [← HOO.out]
end Go.Proofs.YthcpfaahcncfjaaGreatDoor
