/- examine: all clauses that wait at a literal whose negation follows. -/
import Derived.Test.YthcpfaahcncfjaaGreatDoorWat07b
import Derived.Test.YthcpfaahcncfjaaGreatDoorDel07
namespace Go.Proofs.YthcpfaahcncfjaaGreatDoor
open Go.RowKit
set_option linter.unusedVariables false
set_option linter.unusedSimpArgs false

/-- a store's clauses and piles, between searches -/
structure Wfs (X : SX) : Prop where
  cl : ∀ p, p ∈ X.ps → Clw X.V (X.C p)
  plen : X.ps.length ≤ 1000000000
  pile : ∀ j, j < 2 * X.V → InPile X (X.pss.getD j []) j
/-- .. and within one, behind the literals E -/
structure Good (X : SX) (fo : List Bool) (L : List Int) (E : Int → Prop) : Prop where
  wf : Wfs X
  fw : Fw X fo
  sound : ∀ x, x ∈ X.fd → Fol X.cs L x
  eF : ∀ x, E x → x ∈ X.fd
  watch : ∀ p, p ∈ X.ps → (X.C p).gone = false → 2 ≤ (X.C p).lits.length → (E (-(X.C p).w0) → (X.C p).w1 ∈ X.fd) ∧ (E (-(X.C p).w1) → (X.C p).w0 ∈ X.fd)
/-- what a search never turns -/
structure Same7 (X X' : SX) : Prop where
  s : X'.s = X.s
  m : X'.m = X.m
  fb : X'.fb = X.fb
  V : X'.V = X.V
  ps : X'.ps = X.ps
  ks : X'.ks = X.ks
  lits : ∀ p, (X'.C p).lits = (X.C p).lits
  Aw : X'.Aw = X.Aw
  cw : X'.cw = X.cw
  fd : ∃ t, X'.fd = X.fd ++ t
  pl : X'.pss.length = X.pss.length
  high : ∀ j, 2 * X.V ≤ j → X'.vs.getD j undef = X.vs.getD j undef ∧ X'.pss.getD j [] = X.pss.getD j []
  gn : ∀ p, (X'.C p).gone = (X.C p).gone ∧ (X'.C p).num = (X.C p).num
  more : X'.added = X.added ∧ X'.ng = X.ng ∧ X'.ko = X.ko ∧ X'.tk = X.tk
theorem Same7.refl (X : SX) : Same7 X X := ⟨rfl, rfl, rfl, rfl, rfl, rfl, fun _ => rfl, rfl, rfl, ⟨[], by simp⟩, rfl, fun _ _ => ⟨rfl, rfl⟩, fun _ => ⟨rfl, rfl⟩, rfl, rfl, rfl, rfl⟩
theorem Same7.trans {X X' X'' : SX} (h : Same7 X X') (h' : Same7 X' X'') : Same7 X X'' := by
  obtain ⟨t, ht⟩ := h.fd
  obtain ⟨t', ht'⟩ := h'.fd
  exact ⟨h'.s.trans h.s, h'.m.trans h.m, h'.fb.trans h.fb, h'.V.trans h.V, h'.ps.trans h.ps, h'.ks.trans h.ks, fun p => (h'.lits p).trans (h.lits p), h'.Aw.trans h.Aw, h'.cw.trans h.cw, ⟨t ++ t', by rw [ht', ht, List.append_assoc]⟩, h'.pl.trans h.pl,
    fun j hj => ⟨(h'.high j (by rw [h.V]; exact hj)).1.trans (h.high j hj).1, (h'.high j (by rw [h.V]; exact hj)).2.trans (h.high j hj).2⟩, fun p => ⟨(h'.gn p).1.trans (h.gn p).1, (h'.gn p).2.trans (h.gn p).2⟩, h'.more.1.trans h.more.1, h'.more.2.1.trans h.more.2.1, h'.more.2.2.1.trans h.more.2.2.1, h'.more.2.2.2.trans h.more.2.2.2⟩
theorem Same7.live {X X' : SX} (h : Same7 X X') : X'.live = X.live := by unfold SX.live; rw [h.ps]; exact List.filter_congr fun p _ => by rw [(h.gn p).1]
theorem Same7.cs {X X' : SX} (h : Same7 X X') : X'.cs = X.cs := by unfold SX.cs; rw [h.live]; exact List.map_congr_left fun p _ => h.lits p
theorem SameButFd.same7 {X X' : SX} (h : SameButFd X X') (hf : ∃ t, X'.fd = X.fd ++ t) : Same7 X X' := ⟨h.s, h.m, h.fb, h.V, h.ps, h.ks, fun p => by rw [h.C], h.Aw, h.cw, hf, by rw [h.pss], fun j _ => by rw [h.vs, h.pss]; exact ⟨rfl, rfl⟩, fun p => by rw [h.C]; exact ⟨rfl, rfl⟩, h.more⟩

section
variable {X X' : SX} {fo fo' : List Bool} {L : List Int} {E : Int → Prop} {l : Int} {kept rest : List Nat} {p : Nat} {r b b' : Bool}
theorem Mid8.step_same (h : Mid8 X fo L E l kept (p :: rest) b) (hl : Lt7 X.V l) (he : StepE X fo b l p r b' X' fo') : X'.pss.getD (ix l) [] = X.pss.getD (ix l) [] ∧ X'.vs.getD (ix l) undef = X.vs.getD (ix l) undef ∧ Same7 X X' := by
  rcases he with ⟨rfl, rfl, rfl, rfl, rfl⟩ | ⟨rfl, he⟩
  · exact ⟨rfl, rfl, Same7.refl _⟩
  · rcases he with ⟨_, rfl, rfl, rfl, rfl⟩ | ⟨_, rfl, rfl, rfl, _, k, v, hk, rfl⟩ | ⟨_, rfl, h1, h2, h3, h4, h5, h6⟩
    · exact ⟨rfl, rfl, Same7.refl _⟩
    · obtain ⟨hp, hw, hpk, hpr⟩ := h.waits
      have hcl := h.cl p hp
      obtain ⟨hk1, hk2⟩ := nextFree_some hk
      have hxm := (take_snoc7 hk1).2
      obtain ⟨x, hx⟩ : ∃ x, x = (X.C p).lits.getD k 0 := ⟨_, rfl⟩
      rw [← hx] at hk2 hxm ⊢
      have hxl := hcl.lt x hxm
      obtain ⟨f1, f2⟩ := (free_iff h.fw hxl).1 hk2
      have hixl : ix x ≠ ix l := fun e => f2 ((ix_inj hxl hl e) ▸ h.neg)
      have hxV := (ix_eq hxl).2
      refine ⟨getD_set_other hixl _, getD_set_other hixl _, ⟨rfl, rfl, rfl, rfl, rfl, rfl, fun q => ?_, rfl, rfl, ⟨[], by simp [SX.pile, SX.cl]⟩, by simp [SX.pile, SX.cl], fun j hj => ⟨getD_set_other (by omega) _, getD_set_other (by omega) _⟩, fun q => ?_, rfl, rfl, rfl, rfl⟩⟩
      · show (if q = p then _ else X.C q).lits = _
        by_cases e : q = p
        · rw [if_pos e, e]
        · rw [if_neg e]
      · show (if q = p then _ else X.C q).gone = _ ∧ (if q = p then _ else X.C q).num = _
        by_cases e : q = p
        · rw [if_pos e, e]; exact ⟨rfl, rfl⟩
        · rw [if_neg e]; exact ⟨rfl, rfl⟩
    · refine ⟨by rw [h3.pss], by rw [h3.vs], h3.same7 ?_⟩
      cases c1 : fo.getD (ix (-(otherOf (X.C p) l))) false with
      | true => rw [(h4 c1).1]; exact ⟨[], by simp⟩
      | false =>
        cases c2 : fo.getD (ix (otherOf (X.C p) l)) false with
        | true => rw [(h5 c1 c2).1]; exact ⟨[], by simp⟩
        | false => exact ⟨_, (h6 c1 c2).1⟩
theorem Good.mid (h : Good X fo L E) (hl : Lt7 X.V l) (hn : -l ∈ X.fd) : Mid8 X fo L E l [] (X.pss.getD (ix l) []) true := by
  have hlt := (ix_eq hl).2
  refine ⟨h.wf.cl, h.wf.plen, fun j hj _ => h.wf.pile j hj, h.wf.pile _ hlt, h.fw, hn, h.sound, h.eF, fun _ p hp hpg h2 => ?_, fun e => (by cases e)⟩
  have hw := h.watch p hp hpg h2
  have hin := fun hx => (h.wf.pile _ hlt).2.2 p hp hpg ⟨h2, hx⟩
  exact ⟨fun hE => (by rcases hE with hE | ⟨a, e⟩; exact hw.1 hE; exact absurd (hin (.inl (by rw [e]))) a), fun hE => (by rcases hE with hE | ⟨a, e⟩; exact hw.2 hE; exact absurd (hin (.inr (by rw [e]))) a)⟩
theorem Mid8.wfs (h : Mid8 X fo L E l kept [] b) (hl : Lt7 X.V l) (hnum : 2 * X.V ≤ X.pss.length) (v : Value) : Wfs (X.pile (ix l) v kept) := by
  have hlt := (ix_eq hl).2
  refine ⟨h.cl, h.plen, fun j hj => ?_⟩
  have hj' : j < 2 * X.V := hj
  show InPile _ ((X.pss.set (ix l) kept).getD j []) j
  by_cases e : j = ix l
  · subst e
    rw [getD_set_same (by omega)]
    have := h.here
    rw [List.append_nil] at this
    exact this
  · rw [getD_set_other (Ne.symm e)]
    exact h.pile j hj' e
theorem Mid8.good (h : Mid8 X fo L E l kept [] true) (hl : Lt7 X.V l) (hnum : 2 * X.V ≤ X.pss.length) (v : Value) : Good (X.pile (ix l) v kept) fo L (fun x => E x ∨ x = -l) := by
  refine ⟨h.wfs hl hnum v, ⟨h.fw.flen, h.fw.tie, h.fw.nd, h.fw.lt, h.fw.con⟩, h.sound, fun x hx => by rcases hx with hx | rfl; exact h.eF x hx; exact h.neg, fun p hp hpg h2 => ?_⟩
  have hw := h.watch rfl p hp hpg h2
  exact ⟨fun hE => hw.1 (by rcases hE with hE | hE; exact .inl hE; exact .inr ⟨by simp, by have : -(X.C p).w0 = -l := hE; omega⟩), fun hE => hw.2 (by rcases hE with hE | hE; exact .inl hE; exact .inr ⟨by simp, by have : -(X.C p).w1 = -l := hE; omega⟩)⟩
end

/-- one pointer of a pile is another -/
theorem Sto.pileSet {W : World} {base : Nat} {X : SX} {fo : List Bool} {i gb n c : Nat} (h : Sto W base X fo) (hi : i < 2 * X.V) (hv : X.vs.getD i undef = .slice (some ⟨gb, 0, none⟩) n c) (hn : (X.pss.getD i []).length = n) (j v : Nat) :
    Sto (W.setCell ⟨gb, j, none⟩ (.pointer (some ⟨v, 0, none⟩))) base { X with pss := X.pss.set i ((X.pss.getD i []).set j v) } fo ∧ Tn base X W (W.setCell ⟨gb, j, none⟩ (.pointer (some ⟨v, 0, none⟩))) := by
  have hnum := h.num.1
  obtain ⟨Ai, ci, hvi, hoi⟩ := h.pil.each i (by omega)
  have e := hv.symm.trans hvi
  injection e with e1 e2 e3
  subst e1 e3
  rw [hn] at hoi
  obtain ⟨Y, hY⟩ := own_blk7 hoi
  have far : ∀ r t Z, Blk W r t Z → t ≠ 121 → Blk (W.setCell ⟨gb, j, none⟩ (.pointer (some ⟨v, 0, none⟩))) r t Z := fun r t Z hr ht => hr.far (hr.ne_ hY ht) _
  have row : ∀ (e : TypeId) (u : Value) (m : Nat) (xs : List Value), W.ownsRow base e 1 u m xs → e ≠ 121 → (W.setCell ⟨gb, j, none⟩ (.pointer (some ⟨v, 0, none⟩))).ownsRow base e 1 u m xs := fun e u m xs ho ht => own_setCell ho _ (own_blk_ne ho hY ht)
  have hlen := h.pil.len
  have hbase : base ≤ gb := by
    rcases hoi.2 with ⟨hv9, _⟩ | ⟨g', cap', cur, hv9, hb', _⟩
    · cases hv9
    · injection hv9 with hA; injection hA with hA; injection hA with hA; subst hA; exact hb'
  have hpil : Piles (W.setCell ⟨gb, j, none⟩ (.pointer (some ⟨v, 0, none⟩))) base X.vs (X.pss.set i ((X.pss.getD i []).set j v)) := by
    have hset : X.vs.set i (.slice (some ⟨gb, 0, none⟩) n c) = X.vs := by
      apply List.ext_getElem
      · simp
      · intro q h1 h2
        rw [List.getElem_set]
        split
        · rename_i e; subst e
          have : X.vs.getD i undef = X.vs[i] := by simp [List.getD, show i < X.vs.length by omega]
          rw [← this, hv]
        · rfl
    have := h.pil.put (w' := W.setCell ⟨gb, j, none⟩ (.pointer (some ⟨v, 0, none⟩))) (i := i) (A := some ⟨gb, 0, none⟩) (c := c) (ps := (X.pss.getD i []).set j v) (by omega) (by rw [hv]; exact grown_setCell W ⟨gb, j, none⟩ _)
      (by rw [List.length_set, hn]; have := own_putv hoi j (.pointer (some ⟨v, 0, none⟩)); rw [show ptrs7 ((X.pss.getD i []).set j v) = (ptrs7 (X.pss.getD i [])).set j (.pointer (some ⟨v, 0, none⟩)) by simp [ptrs7, List.map_set]]; exact this) (.inl (by rw [hv]; rfl))
    rw [List.length_set, hn, hset] at this
    exact this
  refine ⟨⟨far _ _ _ h.st (by decide), far _ _ _ h.fol (by decide), h.flen, row _ _ _ _ h.fnd (by decide), row _ _ _ _ h.out (by decide), hpil, ⟨by show (X.pss.set i _).length = _; rw [List.length_set]; exact hnum, h.num.2⟩, fun p hp => ?_, ?_, h.lo, h.vb⟩, ⟨(Below.refl _ _).setCell hbase _, fun q t Z hq h1 h2 h3 h4 h5 h6 => far q t Z hq h3, Recs.set _ _ _⟩⟩
  · obtain ⟨c1, c2, c3, c4⟩ := h.cl p hp
    exact ⟨far _ _ _ c1 (by decide), c2, row _ _ _ _ c3 (by decide), c4⟩
  · obtain ⟨D, m, hm, h2⟩ := h.map
    exact ⟨D, m, hm.kept (grown_setCell W _ _) (fun e => blk_map_ne7 hY hm (by simpa using e.symm)), h2⟩

/-- how things stand while the clauses that wait at l are gone through -/
def ExInv (base : Nat) (X : SX) (L : List Int) (E : Int → Prop) (l : Int) (bb gb n c : Nat) (ps0 : List Nat) (wd : World) (k : Nat) (kept Lp : List Nat) (W' : World) : Prop :=
  ∃ (Y : SX) (fo' : List Bool) (b' : Bool), Mid8 Y fo' L E l kept (ps0.drop k) b' ∧ Sto W' base Y fo' ∧ Y.pss.getD (ix l) [] = Lp ∧ Y.vs.getD (ix l) undef = .slice (some ⟨gb, 0, none⟩) n c ∧ Lp.length = n ∧ TnB base X bb wd W' ∧ Later7 wd X Y ∧ Blk W' bb 4 #[.bool b'] ∧ Same7 X Y
theorem Same7.cs' {X X' : SX} (h : Same7 X X') : X'.cs = X.cs := h.cs
theorem exam_inv {base : Nat} {X : SX} {L : List Int} {E : Int → Prop} {l : Int} {bb gb n c lb sb : Nat} {ps0 : List Nat} {wd : World} {fo : List Bool} (hS : Sto wd base X fo) (hl : Lt7 X.V l) (hbase : base ≤ bb) (hbb : bb ≠ X.fb) (hlb : Blk wd lb 3 #[.int .i64 l]) (hsb : Blk wd sb 53 #[.pointer (some ⟨X.s, 0, none⟩)])
    (hlv : some lb ≠ X.fv.ownBlock) (hl2 : lb ≠ bb) (hs2 : sb ≠ bb) (hn : n ≤ 1000000000) (hps : ps0.length = n) :
    DelInv base gb n c 110 #[.pointer (some ⟨bb, 0, none⟩), .pointer (some ⟨lb, 0, none⟩), .pointer (some ⟨sb, 0, none⟩)] ps0 (ExInv base X L E l bb gb n c ps0 wd) := by
  refine ⟨fun {k kept Lp W} hi => ?_, fun {k kept Lp W} hi hk => ?_, fun {k kept Lp W} j v hi hj => ?_⟩
  · obtain ⟨Y, fo', b', hm, hs, h1, h2, h3, h4, h5, h6, h7⟩ := hi
    have hnum := hs.num.1
    have hlt := (ix_eq hl).2
    have hV := h7.V
    obtain ⟨Aj, cj, hvj, hoj⟩ := hs.pil.each (ix l) (by omega)
    have e := h2.symm.trans hvj
    injection e with e1 e2 e3
    subst e1 e3
    rw [h1, h3] at hoj
    exact hoj
  · obtain ⟨Y, fo', b', hm, hs, h1, h2, h3, h4, h5, h6, h7⟩ := hi
    have hV := h7.V
    have hlY : Lt7 Y.V l := by rw [hV]; exact hl
    have hdrop : ps0.drop k = ps0.getD k 0 :: ps0.drop (k + 1) := by rw [List.drop_eq_getElem_cons (by omega)]; simp [List.getD, show k < ps0.length by omega]
    rw [hdrop] at hm
    obtain ⟨p, hpp⟩ : ∃ p, p = ps0.getD k 0 := ⟨_, rfl⟩
    rw [← hpp] at hm ⊢
    have hmem := hm.here.2.1 p (by simp)
    have hcl := hm.cl p hmem.1
    obtain ⟨o1, o2, o3, o4⟩ := hcl.two hmem.2.1
    have hlb' := h4.blk _ _ _ hlb (by decide) (by decide) (by decide) (by decide) (hlb.ne_ hS.fol (by decide)) hlv hl2
    have hsb' := h4.blk _ _ _ hsb (by decide) (by decide) (by decide) (by decide) (hsb.ne_ hS.fol (by decide)) (own_blk_ne hS.fnd hsb (by decide)) hs2
    have hlvY : some lb ≠ Y.fv.ownBlock := by
      rcases h5.2 with e | e
      · rw [e]; exact hlv
      · intro e2; have := e lb e2.symm; have := hlb.lt; omega
    have hsz : hm.fw.len = hm.fw.len := rfl
    have hfl := hm.fw.len
    have hvb := hs.vb
    refine (exam_any hs p l b' bb lb sb h6 hlb' (by rw [h7.s]; exact hsb') (by rw [h7.fb]; exact hbb) hbase hlvY hmem.1 (hcl.lt _ o1) (hcl.lt _ o2) hcl.lt (by have := hmem.2.1; omega) hcl.len o4 (fun i hi => ?_) (by omega)).mono ?_
    · by_cases e : i = ix l
      · rw [e, h1, h3]; exact hn
      · obtain ⟨q1, q2, _⟩ := hm.pile i hi e
        exact Nat.le_trans (nodup_len7 q1 fun x hx => (q2 x hx).1) hm.plen
    · rintro e W' ⟨r, b2, Y2, fo2, rfl, hst, hs2', ht2, hl2', hbb2⟩
      have hnum := hs.num.1
      obtain ⟨s1, s2, s3⟩ := hm.step_same hlY hst
      exact ⟨r, rfl, Y2, fo2, b2, hm.step hlY (by omega) hst, hs2', s1.trans h1, s2.trans h2, h3, h4.trans ht2 h5, h5.trans hl2' h4.below.size, hbb2, h7.trans s3⟩
  · obtain ⟨Y, fo', b', hm, hs, h1, h2, h3, h4, h5, h6, h7⟩ := hi
    have hV := h7.V
    have hlt := (ix_eq hl).2
    have hnum := hs.num.1
    obtain ⟨p1, p2⟩ := hs.pileSet (i := ix l) (by rw [hV]; exact hlt) h2 (by rw [h1]; exact h3) j v
    rw [h1] at p1
    obtain ⟨Yb, hYb⟩ : ∃ Z, Blk W gb 121 Z := by
      obtain ⟨Aj, cj, hvj, hoj⟩ := hs.pil.each (ix l) (by omega)
      have e := h2.symm.trans hvj
      injection e with e1 e2 e3
      subst e1
      exact own_blk7 hoj
    refine ⟨{ Y with pss := Y.pss.set (ix l) (Lp.set j v) }, fo', b', ⟨hm.cl, hm.plen, fun i hi hne => ?_, hm.here, ⟨hm.fw.flen, hm.fw.tie, hm.fw.nd, hm.fw.lt, hm.fw.con⟩, hm.neg, hm.sound, hm.eF, hm.watch, hm.clash⟩, p1, ?_, h2, by rw [List.length_set]; exact h3, h4.trans p2.toB h5, ⟨h5.1, h5.2⟩, h6.far (h6.ne_ hYb (by decide)) _, ⟨h7.s, h7.m, h7.fb, h7.V, h7.ps, h7.ks, h7.lits, h7.Aw, h7.cw, h7.fd, by show (Y.pss.set _ _).length = _; rw [List.length_set]; exact h7.pl, fun i hi => ⟨(h7.high i hi).1, ?_⟩, h7.gn, h7.more⟩⟩
    · show InPile _ ((Y.pss.set (ix l) (Lp.set j v)).getD i []) i
      rw [getD_set_other (Ne.symm hne)]
      exact hm.pile i hi hne
    · show (Y.pss.set (ix l) (Lp.set j v)).getD (ix l) [] = _
      rw [getD_set_same (by omega)]
    · show (Y.pss.set (ix l) (Lp.set j v)).getD i [] = _
      rw [getD_set_other (show ix l ≠ i by omega)]
      exact (h7.high i hi).2
end Go.Proofs.YthcpfaahcncfjaaGreatDoor
