/- sweep: the clauses that are gone leave all lists. sweep, walked. Remove: a clause less. Remove, walked. The document's own Remove. Remove, as its callers know it; rows of one's own beside a store. -/
import Derived.Test.YthcpfaahcncfjaaGreatDoorUse7
import Derived.Deep.RegionHeld3
import Derived.BigQuiet
import Derived.Test.YthcpfaahcncfjaaGreatDoorWith7
namespace Go.Proofs.YthcpfaahcncfjaaGreatDoor
open Go.RowKit
set_option linter.unusedVariables false
set_option linter.unusedSimpArgs false

theorem gone_any7 (p : Nat) (x : CX) (W : World) (h : Blk W p 120 x.cells) : Calls Tryz.prog 85 #[.pointer (some ⟨p, 0, none⟩)] W fun e W' => e = .returned (.bool x.gone) ∧ W = W' := by
  have c5 : W.cell? ⟨p, 5, none⟩ = some (.bool x.gone) := h.cell 5
  obtain ⟨b, hb⟩ : ∃ b, b = x.gone := ⟨_, rfl⟩
  rw [← hb] at c5 ⊢
  clear h hb
  go_enter Tryz.func85, Tryz.ntmps85
  go_wp2
  go_ret
  exact ⟨rfl, rfl⟩

/-- those of some clauses that are not gone -/
def keep7 (X : SX) (ps : List Nat) : List Nat := ps.filter fun p => !(X.C p).gone

theorem grown_tr7 {row : Option Nat} {a b c : World} (h : a.grownBy b row) (k : b.grownBy c row) : a.grownBy c row :=
  ⟨k.os.trans h.os, k.tape.trans h.tape, k.output.trans h.output, Nat.le_trans h.size k.size, fun i hi hne => (k.block i (Nat.lt_of_lt_of_le hi h.size) hne).trans (h.block i hi hne)⟩

def GoneInv (base gb n c : Nat) (X : SX) (ps0 : List Nat) (wd : World) (k : Nat) (kept Lp : List Nat) (W' : World) : Prop :=
  kept = keep7 X (ps0.take k) ∧ W'.ownsRow base 121 1 (.slice (some ⟨gb, 0, none⟩) n c) n (ptrs7 Lp) ∧ wd.grownBy W' (some gb)

section

variable {wd : World} {base gb n c : Nat} {X : SX} {fo : List Bool} {ps0 : List Nat}

theorem gone_inv (hS : Sto wd base X fo) (hown : wd.ownsRow base 121 1 (.slice (some ⟨gb, 0, none⟩) n c) n (ptrs7 ps0)) (hps : ps0.length = n) (hsub : ∀ p, p ∈ ps0 → p ∈ X.ps) :
    DelInv base gb n c 85 #[] ps0 (GoneInv base gb n c X ps0 wd) := by
  refine ⟨fun hi => hi.2.1, fun {k kept L W} hi hk => ?_, fun {k kept L W} j v hi hj => ?_⟩
  · obtain ⟨h1, h2, h3⟩ := hi
    have hk' : k < ps0.length := by omega
    have htk : ps0.take (k + 1) = ps0.take k ++ [ps0.getD k 0] := by rw [List.take_succ_eq_append_getElem hk']; simp [List.getD, hk']
    have hm : ps0.getD k 0 ∈ ps0 := by simp [List.getD, hk']
    obtain ⟨p, hp⟩ : ∃ p, p = ps0.getD k 0 := ⟨_, rfl⟩
    rw [← hp] at htk hm ⊢
    have hcl := (hS.cl p (hsub p hm)).1
    obtain ⟨Y, hY⟩ := own_blk7 hown
    have hb : Blk W p 120 (X.C p).cells := hcl.grown h3 (fun e => hcl.ne_ hY (by decide) (by injection e))
    refine Calls.mono (gone_any7 p (X.C p) W hb) ?_
    rintro e W' ⟨rfl, rfl⟩
    refine ⟨(X.C p).gone, rfl, ?_, h2, h3⟩
    unfold keep7 at h1 ⊢
    rw [htk, List.filter_append, ← h1]
    cases hgn : (X.C p).gone <;> simp [hgn]
  · obtain ⟨h1, h2, h3⟩ := hi
    refine ⟨h1, ?_, grown_tr7 h3 (grown_setCell W ⟨gb, j, none⟩ _)⟩
    have := own_putv h2 j (.pointer (some ⟨v, 0, none⟩))
    rw [show ptrs7 (L.set j v) = (ptrs7 L).set j (.pointer (some ⟨v, 0, none⟩)) by simp [ptrs7, List.map_set]]
    exact this

end

/-- a pile without those that are gone -/
def DelGone (base : Nat) (X : SX) (j : Nat) (wd : World) (e : Ending) (W3 : World) : Prop :=
  ∃ (A3 : Option Addr) (c3 : Nat), e = .returned (.slice A3 (keep7 X (X.pss.getD j [])).length c3) ∧ wd.grownBy W3 (X.vs.getD j undef).ownBlock ∧
    W3.ownsRow base 121 1 (.slice A3 (keep7 X (X.pss.getD j [])).length c3) (keep7 X (X.pss.getD j [])).length (ptrs7 (keep7 X (X.pss.getD j []))) ∧ (Value.slice A3 (keep7 X (X.pss.getD j [])).length c3).ownBlock = (X.vs.getD j undef).ownBlock

theorem del_gone {wd : World} {base j : Nat} {X : SX} {fo : List Bool} (hS : Sto wd base X fo) (hj : j < X.pss.length) (hsub : ∀ p, p ∈ X.pss.getD j [] → p ∈ X.ps) (hn : (X.pss.getD j []).length ≤ 1000000000) :
    Calls Tryz.prog 86 #[X.vs.getD j undef, .func (.func 85) #[] #[]] wd (DelGone base X j wd) := by
  have eg : ∀ args w, (callFunc 85 args).run Tryz.prog w = .ok (.enter 85 args) w := enters_of Tryz.func85 (by kernel_rfl) rfl
  obtain ⟨Aj, cj, hvj, hoj⟩ := hS.pil.each j hj
  unfold DelGone
  obtain ⟨ps0, hps⟩ : ∃ ps0, ps0 = X.pss.getD j [] := ⟨_, rfl⟩
  rw [← hps] at hvj hoj hsub hn
  simp only [← hps]
  rw [hvj]
  rcases Nat.eq_zero_or_pos ps0.length with h0 | h0
  · obtain rfl : ps0 = [] := List.length_eq_zero_iff.1 h0
    refine (deletefunc_nil7 Aj cj _ wd).mono ?_
    rintro e W3 ⟨rfl, rfl⟩
    exact ⟨Aj, cj, rfl, World.grownBy.refl wd _, hoj, rfl⟩
  · obtain ⟨gb, rfl, _, _⟩ := own_addr hoj h0
    refine (deletefunc_any7 (gone_inv hS hoj rfl hsub) hn rfl wd ⟨by simp [keep7], hoj, World.grownBy.refl wd _⟩ eg).mono ?_
    rintro e W3 ⟨kept, Lp, W1, ⟨m1, m2, m3⟩, hk, rfl, hgr, hown⟩
    rw [List.take_length] at m1
    subst m1
    exact ⟨some ⟨gb, 0, none⟩, cj, rfl, grown_tr7 m3 hgr, hown, rfl⟩

/-- some piles are without those that are gone; all else is what it was -/
structure Swept (X Y : SX) (P : Nat → Prop) : Prop where
  eq : Y = { X with vs := Y.vs, pss := Y.pss }
  len : Y.pss.length = X.pss.length
  yes : ∀ j, P j → Y.pss.getD j [] = keep7 X (X.pss.getD j [])
  no : ∀ j, ¬ P j → Y.pss.getD j [] = X.pss.getD j []
  vno : ∀ j, ¬ P j → Y.vs.getD j undef = X.vs.getD j undef

section

variable {X Y : SX} {P : Nat → Prop} {j : Nat} {W W' : World} {base : Nat} {fo : List Bool}

theorem Swept.C (h : Swept X Y P) : Y.C = X.C := by rw [h.eq]

theorem Swept.V (h : Swept X Y P) : Y.V = X.V := by rw [h.eq]

theorem Swept.s (h : Swept X Y P) : Y.s = X.s := by rw [h.eq]

theorem Swept.ps (h : Swept X Y P) : Y.ps = X.ps := by rw [h.eq]

theorem Swept.Aw (h : Swept X Y P) : Y.Aw = X.Aw ∧ Y.cw = X.cw := by rw [h.eq]; exact ⟨rfl, rfl⟩

theorem Swept.fv (h : Swept X Y P) : Y.fv = X.fv ∧ Y.fb = X.fb := by rw [h.eq]; exact ⟨rfl, rfl⟩

theorem Swept.refl : Swept X X (fun _ => False) := ⟨rfl, rfl, fun _ h => h.elim, fun _ _ => rfl, fun _ _ => rfl⟩

theorem Swept.step (h : Swept X Y P) (hj : ¬ P j) (hl : j < X.pss.length) (v : Value) : Swept X (Y.pile j v (keep7 Y (Y.pss.getD j []))) (fun i => P i ∨ i = j) := by
  have hk : ∀ ps, keep7 Y ps = keep7 X ps := fun ps => by unfold keep7; rw [h.C]
  refine ⟨?_, ?_, fun i hi => ?_, fun i hi => ?_, fun i hi => ?_⟩
  · have hab : ∀ a b, ({ Y with vs := a, pss := b } : SX) = { X with vs := a, pss := b } := fun a b => by rw [h.eq]
    exact hab _ _
  · show (Y.pss.set j _).length = _
    rw [List.length_set]; exact h.len
  · show (Y.pss.set j _).getD i [] = _
    by_cases e : j = i
    · subst e
      rw [getD_set_same (by rw [h.len]; exact hl), hk, h.no j hj]
    · rw [getD_set_other e]
      rcases hi with hi | hi
      · exact h.yes i hi
      · exact absurd hi.symm e
  · show (Y.pss.set j _).getD i [] = _
    rw [getD_set_other (fun e => hi (.inr e.symm))]
    exact h.no i fun hp => hi (.inl hp)
  · show (Y.vs.set j _).getD i undef = _
    rw [getD_set_other (fun e => hi (.inr e.symm))]
    exact h.vno i fun hp => hi (.inl hp)

theorem Swept.congr {Q : Nat → Prop} (h : Swept X Y P) (hq : ∀ j, P j ↔ Q j) : Swept X Y Q := ⟨h.eq, h.len, fun j hj => h.yes j ((hq j).2 hj), fun j hj => h.no j fun hp => hj ((hq j).1 hp), fun j hj => h.vno j fun hp => hj ((hq j).1 hp)⟩

/-- a pile whose header lies in the struct -/
theorem del_s {wd w3 : World} {d : Nat} {e : Ending} (hS : Sto wd base Y fo) (h : Swept X Y P) (hd : d < 2) (hp : ¬ P (2 * X.V + d)) (hn : X.pss.length = 2 * X.V + 2 + X.ks.length) (hD : DelGone base Y (2 * X.V + d) wd e w3) :
    ∃ (A3 : Option Addr) (c3 n : Nat), e = .returned (.slice A3 n c3) ∧ Blk w3 X.s 117 Y.head ∧ ∃ Y', Sto (w3.setCell ⟨X.s, 3 + d, none⟩ (.slice A3 n c3)) base Y' fo ∧ Swept X Y' (fun i => P i ∨ i = 2 * X.V + d) ∧ Tn base Y wd (w3.setCell ⟨X.s, 3 + d, none⟩ (.slice A3 n c3)) := by
  obtain ⟨A3, c3, rfl, h1, h2, h3⟩ := hD
  have hlen := h.len
  have hnum := hS.num.1
  have hV := h.V
  obtain ⟨Ai, ci, hvi, hoi⟩ := hS.pil.each (2 * X.V + d) (by omega)
  have hoi' : wd.ownsRow base 121 1 (Y.vs.getD (2 * X.V + d) undef) (Y.pss.getD (2 * X.V + d) []).length (ptrs7 (Y.pss.getD (2 * X.V + d) [])) := by rw [hvi]; exact hoi
  obtain ⟨p1, p2, _⟩ := hS.piled_s (wa := wd) (w3 := w3) (i := 2 * X.V + d) (d := d) hd (by rw [hV]) (Below.refl _ _) h1 h2 (.inl h3)
  rw [h.s] at p1 p2
  have hb := hS.st.grown h1 (own_blk_ne hoi' hS.st (by decide))
  rw [h.s] at hb
  exact ⟨A3, c3, _, rfl, hb, _, p1, h.step hp (by omega) _, p2⟩

/-- a pile whose header lies beside the others -/
theorem del_w {wd w3 : World} {k go : Nat} {e : Ending} (hS : Sto wd base Y fo) (h : Swept X Y P) (hk : k < 2 * X.V) (hgo : X.Aw = some ⟨go, 0, none⟩) (hp : ¬ P k) (hn : X.pss.length = 2 * X.V + 2 + X.ks.length) (hD : DelGone base Y k wd e w3) :
    ∃ (A3 : Option Addr) (c3 n : Nat), e = .returned (.slice A3 n c3) ∧ (∃ Z, Blk wd go 113 Z ∧ Blk w3 go 113 Z) ∧ Blk w3 X.s 117 Y.head ∧ ∃ Y', Sto (w3.setCell ⟨go, k, none⟩ (.slice A3 n c3)) base Y' fo ∧ Swept X Y' (fun i => P i ∨ i = k) ∧ Tn base Y wd (w3.setCell ⟨go, k, none⟩ (.slice A3 n c3)) := by
  obtain ⟨A3, c3, rfl, h1, h2, h3⟩ := hD
  have hlen := h.len
  have hnum := hS.num.1
  have hV := h.V
  obtain ⟨Ai, ci, hvi, hoi⟩ := hS.pil.each k (by omega)
  have hoi' : wd.ownsRow base 121 1 (Y.vs.getD k undef) (Y.pss.getD k []).length (ptrs7 (Y.pss.getD k [])) := by rw [hvi]; exact hoi
  have hA : Y.Aw = some ⟨go, 0, none⟩ := by rw [h.Aw.1]; exact hgo
  obtain ⟨p1, p2⟩ := hS.piled (wa := wd) (w3 := w3) (i := k) (go := go) (by rw [hV]; exact hk) hA (Below.refl _ _) h1 h2 (.inl h3)
  obtain ⟨Z, hZ⟩ := hS.outblk hA
  have hb := hS.st.grown h1 (own_blk_ne hoi' hS.st (by decide))
  rw [h.s] at hb
  exact ⟨A3, c3, _, rfl, ⟨Z, hZ, hZ.grown h1 (own_blk_ne hoi' hZ (by decide))⟩, hb, _, p1, h.step hp (by omega) _, p2⟩

theorem Sto.swept (h : Sto W base Y fo) : Sto (W.setCell ⟨Y.s, 2, none⟩ (.int .i64 0)) base { Y with ps := Y.live, ng := 0 } fo ∧ Tn base Y W (W.setCell ⟨Y.s, 2, none⟩ (.int .i64 0)) := by
  have far : ∀ q t Z, Blk W q t Z → t ≠ 117 → Blk (W.setCell ⟨Y.s, 2, none⟩ (.int .i64 0)) q t Z := fun q t Z hq h2 => hq.far (hq.ne_ h.st h2) _
  have row : ∀ (e : TypeId) (v : Value) (n : Nat) (xs : List Value), W.ownsRow base e 1 v n xs → e ≠ 117 → (W.setCell ⟨Y.s, 2, none⟩ (.int .i64 0)).ownsRow base e 1 v n xs := fun e v n xs ho h2 => own_setCell ho _ (own_blk_ne ho h.st h2)
  refine ⟨⟨?_, far _ _ _ h.fol (by decide), h.flen, row _ _ _ _ h.fnd (by decide), row _ _ _ _ h.out (by decide), h.pil.keep fun q Z hq => far _ _ _ hq (by decide), h.num, fun p hp => ?_, ?_, h.lo, h.vb⟩, ⟨(Below.refl _ _).setCell h.lo.1 _, fun q t Z hq h1 h2 h3 h4 h5 h6 => far q t Z hq h1, Recs.set _ _ _⟩⟩
  · have := h.st.set_ 2 (.int .i64 0)
    exact this
  · obtain ⟨c1, c2, c3, c4⟩ := h.cl p (SX.mem_live.1 hp).1
    exact ⟨far _ _ _ c1 (by decide), c2, row _ _ _ _ c3 (by decide), c4⟩
  · obtain ⟨D, n, hm, h2⟩ := h.map
    exact ⟨D, n, hm.kept (grown_setCell W _ _) (fun e => blk_map_ne7 h.st hm (by simpa using e.symm)), h2⟩

theorem Swept.rest (h : Swept X Y (fun j => j < 2 * X.V + 2)) (hR : Rest7 W base X fo) (hS : Sto W' base { Y with ps := Y.live, ng := 0 } fo) : Rest7 W' base { Y with ps := Y.live, ng := 0 } fo ∧ ({ Y with ps := Y.live, ng := 0 } : SX).cs = X.cs := by
  have hlv : Y.live = X.live := by unfold SX.live; rw [h.ps, h.C]
  have hl2 : ({ Y with ps := Y.live, ng := 0 } : SX).live = X.live := by
    show (Y.live.filter fun p => !(Y.C p).gone) = X.live
    rw [hlv, h.C]
    unfold SX.live
    rw [List.filter_filter]
    simp
  have hmk : ∀ ps p, p ∈ keep7 X ps ↔ p ∈ ps ∧ (X.C p).gone = false := fun ps p => by simp [keep7]
  have hV := h.V
  have hC := h.C
  have hks : Y.ks = X.ks := by rw [h.eq]
  have hko : Y.ko = X.ko := by rw [h.eq]
  have htk : Y.tk = X.tk := by rw [h.eq]
  have had : Y.added = X.added := by rw [h.eq]
  have hfd : Y.fd = X.fd := by rw [h.eq]
  have hin : ∀ p, p ∈ Y.live → p ∈ X.ps ∧ (X.C p).gone = false := fun p hp => SX.mem_live.1 (by rw [← hlv]; exact hp)
  refine ⟨⟨hS, ⟨fun p hp => ?_, ?_, fun j hj => ?_⟩, ⟨?_, ?_, ?_, ?_, ?_⟩, hfd.trans hR.fd, ⟨fun p hp => ?_, fun p hp hg hl => ?_⟩, ⟨?_, ?_, ?_, fun p hp => ?_, ?_, fun p hp => ?_, fun i k hk => ?_, fun p hp => ?_, fun i hi => ?_⟩⟩, ?_⟩
  · show Clw Y.V (Y.C p)
    rw [hV, hC]; exact hR.wf.cl p (hin p hp).1
  · show Y.live.length ≤ _
    rw [hlv]
    exact Nat.le_trans (List.length_filter_le _ _) hR.wf.plen
  · have hj' : j < 2 * X.V := by have : j < 2 * Y.V := hj; rw [hV] at this; exact this
    show InPile _ (Y.pss.getD j []) j
    rw [h.yes j (by omega)]
    obtain ⟨q1, q2, q3⟩ := hR.wf.pile j hj'
    refine ⟨q1.filter _, fun p hp => ?_, fun p hp hg hw => ?_⟩
    · obtain ⟨a, b⟩ := (hmk _ p).1 hp
      obtain ⟨c, d⟩ := q2 p a
      refine ⟨?_, ?_⟩
      · show p ∈ Y.live
        rw [hlv]; exact SX.mem_live.2 ⟨c, b⟩
      · show Waits (Y.C p) j
        rw [hC]; exact d
    · obtain ⟨a, b⟩ := hin p hp
      have hw' : Waits (Y.C p) j := hw
      rw [hC] at hw'
      exact (hmk _ p).2 ⟨q3 p a b hw', b⟩
  · show fo.length = 2 * Y.V
    rw [hV]; exact hR.fw.flen
  · show ∀ l, Lt7 Y.V l → (fo.getD (ix l) false = true ↔ l ∈ Y.fd)
    rw [hV, hfd]; exact hR.fw.tie
  · show Y.fd.Nodup
    rw [hfd]; exact hR.fw.nd
  · show ∀ l, l ∈ Y.fd → Lt7 Y.V l
    rw [hV, hfd]; exact hR.fw.lt
  · show ∀ l, l ∈ Y.fd → -l ∉ Y.fd
    rw [hfd]; exact hR.fw.con
  · have hp' : p ∈ Y.pss.getD (2 * Y.V + 1) [] := hp
    rw [hV, h.yes _ (by omega)] at hp'
    obtain ⟨a, b⟩ := (hmk _ p).1 hp'
    obtain ⟨c, d⟩ := hR.short.1 p a
    refine ⟨?_, ?_⟩
    · show p ∈ Y.live
      rw [hlv]; exact SX.mem_live.2 ⟨c, b⟩
    · show (Y.C p).lits.length < 2
      rw [hC]; exact d
  · obtain ⟨a, b⟩ := hin p hp
    have hl' : (Y.C p).lits.length < 2 := hl
    rw [hC] at hl'
    show p ∈ Y.pss.getD (2 * Y.V + 1) []
    rw [hV, h.yes _ (by omega)]
    exact (hmk _ p).2 ⟨hR.short.2 p a b hl', b⟩
  · show (Y.pss.getD (2 * Y.V + 1) []).Nodup
    rw [hV, h.yes _ (by omega)]; exact hR.shelf.shnd.filter _
  · show Y.pss.getD (2 * Y.V) [] = Y.live
    rw [hV, h.yes _ (by omega), hR.shelf.all, hlv]; rfl
  · show Y.live.Pairwise fun p q => (Y.C p).num < (Y.C q).num
    rw [hlv, hC]; exact hR.shelf.nums.filter _
  · show (Y.C p).num < Y.added
    rw [hC, had]; exact hR.shelf.numlt p (hin p hp).1
  · show 0 + ({ Y with ps := Y.live, ng := 0 } : SX).live.length = Y.live.length
    rw [hl2, hlv]; omega
  · show Rising (Y.C p).lits
    rw [hC]; exact hR.shelf.norm p (hin p hp).1
  · have hk' : Y.ks[i]? = some k := hk
    rw [hks] at hk'
    rw [hl2]
    show (Y.pss.getD (2 * Y.V + 2 + i) []).drop (Y.ko i) = (X.live.filter fun p => decide (keyOf (Y.C p).lits = k)) ∧ Y.ko i ≤ (Y.pss.getD (2 * Y.V + 2 + i) []).length
    rw [hV, h.no _ (by omega), hko, hC]
    exact hR.shelf.keys i k hk'
  · rw [hl2] at hp
    show keyOf (Y.C p).lits ∈ Y.ks
    rw [hC, hks]; exact hR.shelf.keyed p hp
  · have hi' : i < Y.ks.length := hi
    rw [hks] at hi'
    show (Y.pss.getD (2 * Y.V + 2 + i) []).length ≤ Y.tk
    rw [hV, h.no _ (by omega), htk]
    exact hR.shelf.klen i hi'
  · unfold SX.cs
    rw [hl2]
    show X.live.map (fun p => (Y.C p).lits) = _
    rw [hC]

end

end Go.Proofs.YthcpfaahcncfjaaGreatDoor

namespace Go.Proofs.YthcpfaahcncfjaaGreatDoor
open Go.RowKit
set_option linter.unusedVariables false
set_option linter.unusedSimpArgs false

/-- sweep's answer -/
def SweepP (base : Nat) (X : SX) (fo : List Bool) (W : World) (e : Ending) (W' : World) : Prop :=
  e = .returned (.tuple #[]) ∧ ∃ X' : SX, Rest7 W' base X' fo ∧ Tn base X W W' ∧ Later7 W X X' ∧ X'.s = X.s ∧ X'.V = X.V ∧ X'.cs = X.cs ∧ X'.ps.length ≤ X.ps.length ∧ X'.added = X.added ∧ X'.tk = X.tk
set_option maxRecDepth 100000 in
set_option maxHeartbeats 1000000 in
theorem sweep_any7 {W : World} {base : Nat} {X : SX} {fo : List Bool} (h : Rest7 W base X fo) :
    Calls Tryz.prog 60 #[.pointer (some ⟨X.s, 0, none⟩)] W (SweepP base X fo W) := by
  have hvb := h.sto.vb
  have hnum := h.sto.num.1
  have hps := h.wf.plen
  have hB : base ≤ W.heap.size := by have := h.sto.lo.1; have := h.sto.st.lt; omega
  have hcsl : X.cs.length ≤ 1000000000 := by
    have := List.length_filter_le (fun p => !(X.C p).gone) X.ps
    have e : X.cs.length = (X.ps.filter fun p => !(X.C p).gone).length := by simp [SX.cs, SX.live]
    omega
  have hng : X.ng ≤ 1000000000 := by have := h.shelf.ng; omega
  have HL := Lib.hid (fun n : Nat => len_any7 (h.below (below_drewN (Below.refl _ W) n)))
  obtain ⟨Aa, ca, hva, hoa⟩ := h.sto.pil.each (2 * X.V) (by omega)
  obtain ⟨As, cs, hvs, hos⟩ := h.sto.pil.each (2 * X.V + 1) (by omega)
  have s2 : W.cell? ⟨X.s, 2, none⟩ = some (.int .i64 X.ng) := h.sto.st.cell 2
  have s3 : W.cell? ⟨X.s, 3, none⟩ = some (.slice Aa (X.pss.getD (2 * X.V) []).length ca) := by rw [← hva]; exact h.sto.st.cell 3
  have s5 : W.cell? ⟨X.s, 5, none⟩ = some (.slice X.Aw (2 * X.V) X.cw) := h.sto.st.cell 5
  obtain ⟨N, hN⟩ : ∃ N, N = 2 * X.V := ⟨_, rfl⟩
  obtain ⟨nc, hnc⟩ : ∃ nc, nc = X.cs.length := ⟨_, rfl⟩
  obtain ⟨ng, hngg⟩ : ∃ ng, ng = X.ng := ⟨_, rfl⟩
  rw [← hN] at s5
  rw [← hnc] at HL hcsl
  rw [← hngg] at s2 hng
  have hw1 : IntKind.i64.wrap ((nc : Int) + (N : Int)) = (nc : Int) + (N : Int) := IntWalk.i64_in _ (by omega)
  have HN := Lib.hid hN
  have HNG := Lib.hid hngg
  have H := Lib.hid h
  by_cases hle : (ng : Int) ≤ (nc : Int) + (N : Int)
  · clear h hnum hva hoa hvs hos hN hnc hngg s3
    go_enter Tryz.func60, Tryz.ntmps60
    go_wp2
    go_quiet ((go_at_call 84; first | with_reducible exact quiet_add_more (HL.out _) | with_reducible exact quiet_more (HL.out _)))
    go_wp2
    go_end0
    exact ⟨rfl, X, H.out.below (below_drewN (Below.refl _ _) _), (Tn.refl base X W).drewN _, Later7.refl _ _, rfl, rfl, rfl, Nat.le_refl _, rfl, rfl⟩
  · have hsub0 : ∀ p, p ∈ X.pss.getD (2 * X.V) [] → p ∈ X.ps := fun p hp => by rw [h.shelf.all] at hp; exact hp
    have hlen0 : (X.pss.getD (2 * X.V) []).length ≤ 1000000000 := by rw [h.shelf.all]; exact hps
    have HD1 := Lib.hid (fun n : Nat => del_gone (h.sto.drewN n) (j := 2 * X.V) (by omega) hsub0 hlen0)
    rw [hva] at HD1
    have HOA := Lib.hid hoa
    have HVA := Lib.hid hva
    have HVS := Lib.hid hvs
    have HNUM := Lib.hid hnum
    obtain ⟨nA, hnA⟩ : ∃ nA, nA = (X.pss.getD (2 * X.V) []).length := ⟨_, rfl⟩
    rw [← hnA] at s3 HD1
    have HNA := Lib.hid hnA
    have hngt : ¬ (ng : Int) ≤ (nc : Int) + (N : Int) := hle
    clear h hnum hva hoa hvs hos hN hnc hngg hsub0 hlen0 hnA hle
    go_enter Tryz.func60, Tryz.ntmps60
    go_wp2
    go_quiet ((go_at_call 84; first | with_reducible exact quiet_add_more (HL.out _) | with_reducible exact quiet_more (HL.out _)))
    go_wp2_with fail
    refine (HD1.out _).mono ?_
    rintro e3 w3 hd1
    obtain ⟨A3, c3, n3, rfl, hbk3, Y1, hS1, hW1, hT1⟩ := del_s (d := 0) (H.out.sto.drewN _) Swept.refl (by omega) (by simp) HNUM.out hd1
    have s3' : w3.cell? ⟨X.s, 3, none⟩ = some (.slice Aa nA ca) := by rw [HNA.out, ← HVA.out]; exact hbk3.cell 3
    have f3' := hbk3.frozen 3
    have s4' : w3.cell? ⟨X.s, 4, none⟩ = some (.slice As (X.pss.getD (2 * X.V + 1) []).length cs) := by rw [← HVS.out]; exact hbk3.cell 4
    have hS1' : Sto (w3.setCell ⟨X.s, 3, none⟩ (.slice A3 n3 c3)) base Y1 fo := hS1
    have hT1' : Tn base X W (w3.setCell ⟨X.s, 3, none⟩ (.slice A3 n3 c3)) := Tn.undrew hT1
    have hp1 : Y1.pss.getD (2 * X.V + 1) [] = X.pss.getD (2 * X.V + 1) [] := hW1.no _ (by simp)
    have hv1 : Y1.vs.getD (2 * X.V + 1) undef = X.vs.getD (2 * X.V + 1) undef := hW1.vno _ (by simp)
    have HD2 := Lib.hid (del_gone hS1' (j := 2 * X.V + 1) (by rw [hW1.len]; have := HNUM.out; omega) (by rw [hp1, hW1.ps]; exact fun p hp => (H.out.short.1 p hp).1) (by rw [hp1]; exact H.out.shn))
    rw [hv1, HVS.out] at HD2
    obtain ⟨nS, hnS⟩ : ∃ nS, nS = (X.pss.getD (2 * X.V + 1) []).length := ⟨_, rfl⟩
    rw [← hnS] at s4' HD2
    have HNS := Lib.hid hnS
    have HS1 := Lib.hid hS1'
    have HW1 := Lib.hid hW1
    have HT1 := Lib.hid hT1'
    clear hd1 hbk3 hS1 hW1 hT1 hS1' hT1' hp1 hv1 hnS s2 s3
    go_wp2_with fail
    refine HD2.out.mono ?_
    rintro e5 w5 hd2
    obtain ⟨A5, c5, n5, rfl, hbk5, Y2, hS2, hW2, hT2⟩ := del_s (d := 1) HS1.out HW1.out (by omega) (by simp) HNUM.out hd2
    have s4'' : w5.cell? ⟨X.s, 4, none⟩ = some (.slice As nS cs) := (hbk5.cell 4).trans (show some (Y1.vs.getD (2 * Y1.V + 1) undef) = _ by rw [HW1.out.V, HW1.out.vno _ (by simp), HVS.out, HNS.out])
    have f4'' := hbk5.frozen 4
    have s5'' : w5.cell? ⟨X.s, 5, none⟩ = some (.slice X.Aw N X.cw) := (hbk5.cell 5).trans (show some (Value.slice Y1.Aw (2 * Y1.V) Y1.cw) = _ by rw [HW1.out.V, HW1.out.Aw.1, HW1.out.Aw.2, HN.out])
    have HS2 : Hid (Sto (w5.setCell ⟨X.s, 4, none⟩ (.slice A5 n5 c5)) base Y2 fo) := Lib.hid hS2
    have HW2 : Hid (Swept X Y2 (fun j => j < 0 ∨ j = 2 * X.V ∨ j = 2 * X.V + 1)) := Lib.hid (hW2.congr fun j => by simp)
    have HT2 : Hid (Tn base X W (w5.setCell ⟨X.s, 4, none⟩ (.slice A5 n5 c5))) := Lib.hid (HT1.out.trans hT2 ⟨HW1.out.fv.2, .inl (by rw [HW1.out.fv.1])⟩)
    clear hd2 hbk5 hS2 hW2 hT2 s3' f3' s4' s5
    go_wp2
    go_loopg [41] (N + 1) (fun gk i wr => ∃ (k : Nat) (Y : SX), k ≤ N ∧ gk = N - k + 1 ∧ i = .int .i64 k ∧ Hid (Sto wr base Y fo) ∧ Hid (Swept X Y (fun j => j < k ∨ j = 2 * X.V ∨ j = 2 * X.V + 1)) ∧ Hid (Tn base X W wr))
    case atStart => exact ⟨0, Y2, by omega, by omega, rfl, HS2, HW2, HT2⟩
    case round =>
      obtain ⟨k, Y, hk, rfl, rfl, HS, HW, HT⟩ := hrel
      by_cases hlt : k < N
      · have hkV : k < 2 * X.V := by rw [← HN.out]; exact hlt
        obtain ⟨go, hgo, hgo1, hgo2⟩ := own_addr H.out.sto.out (by omega)
        have hAY : Y.Aw = some ⟨go, 0, none⟩ := by rw [HW.out.Aw.1]; exact hgo
        obtain ⟨Z, hZ⟩ := HS.out.outblk hAY
        have hcell := HS.out.outcell hAY hZ (i := k) (by rw [HW.out.V]; exact hkV) hZ
        have hfz := hZ.frozen k
        obtain ⟨Ak, ck, hvk, hok⟩ := HS.out.pil.each k (by rw [HW.out.len]; have := HNUM.out; omega)
        rw [hvk] at hcell
        have hst5 : wr.cell? ⟨X.s, 5, none⟩ = some (.slice (some ⟨go, 0, none⟩) N X.cw) := by
          have h5 := HS.out.st.cell 5
          rw [HW.out.s] at h5
          exact h5.trans (show some (Value.slice Y.Aw (2 * Y.V) Y.cw) = _ by rw [HW.out.V, hAY, HW.out.Aw.2, HN.out])
        have hnp : ¬ (k < k ∨ k = 2 * X.V ∨ k = 2 * X.V + 1) := by omega
        have hpk : Y.pss.getD k [] = X.pss.getD k [] := HW.out.no k hnp
        obtain ⟨q1, q2, _⟩ := H.out.wf.pile k hkV
        have HD := Lib.hid (del_gone (HS.out.drewN 1) (j := k) (by rw [HW.out.len]; have := HNUM.out; omega) (by rw [hpk, HW.out.ps]; exact fun p hp => (q2 p hp).1) (by rw [hpk]; exact Nat.le_trans (nodup_len7 q1 fun x hx => (q2 x hx).1) H.out.wf.plen))
        rw [hvk] at HD
        have hgs : ¬ go = X.s := by have := hZ.ne_ HS.out.st (by decide); rw [HW.out.s] at this; exact this
        have hsg : ¬ X.s = go := fun e => hgs e.symm
        have HGO := Lib.hid hgo
        have HNP := Lib.hid hnp
        have HZZ := Lib.hid hZ
        obtain ⟨nk, hnk⟩ : ∃ nk, nk = (Y.pss.getD k []).length := ⟨_, rfl⟩
        rw [← hnk] at hcell HD
        clear hkV hgo hgo1 hgo2 hAY hZ hvk hok hnp hpk q1 q2 hnk s4'' f4'' s5''
        rw [HGO.out]
        go_wp2
        have HK0 : Hid (wr.cell? ⟨X.s, 5, none⟩ = some (.slice (some ⟨go, 0, none⟩) N X.cw)) := Lib.hid hst5
        have HC0 := Lib.hid hcell
        go_region_held3 (fun w' => w'.cell? ⟨X.s, 5, none⟩ = some (.slice (some ⟨go, 0, none⟩) N X.cw)) (first | exact KK1.out | exact HK0.out | go_keep)
          (first
            | (go_at_call 86
               refine HD.out.mono ?_
               rintro e3 w3 hd
               obtain ⟨A3, c3, n3, rfl, ⟨Zx, hz1, hz2⟩, hbk, Y', hS', hW', hT'⟩ := del_w (HS.out.drewN 1) HW.out (by rw [← HN.out]; exact hlt) HGO.out HNP.out HNUM.out hd
               have dC : w3.cell? ⟨go, k, none⟩ = some (.slice Ak nk ck) := (hz2.cell k).trans ((hz1.cell k).symm.trans HC0.out)
               have dF := hz2.frozen k
               have KK1 : Hid (w3.cell? ⟨X.s, 5, none⟩ = some (.slice (some ⟨go, 0, none⟩) N X.cw)) := Lib.hid ((hbk.cell 5).trans (show some (Value.slice Y.Aw (2 * Y.V) Y.cw) = _ by rw [HW.out.V, HW.out.Aw.1, HGO.out, HW.out.Aw.2, HN.out]))
               have HRES := Lib.hid (⟨hS', hW', hT'⟩ : _ ∧ _ ∧ _)
               clear hd hz1 hz2 hbk hS' hW' hT'))
        all_goals
          go_wp2_with fail
          rw [← HGO.out]
          go_roundg (N - k)
          case measure => omega
          case rel => exact ⟨k + 1, Y', by omega, by omega, by go_num, Lib.hid HRES.out.1, Lib.hid (HRES.out.2.1.congr fun j => by omega), Lib.hid (HT.out.trans (Tn.undrew HRES.out.2.2) ⟨HW.out.fv.2, .inl (by rw [HW.out.fv.1])⟩)⟩
      · obtain rfl : k = N := by omega
        obtain ⟨p1, p2⟩ := HS.out.swept
        have HWf : Hid (Swept X Y (fun j => j < 2 * X.V + 2)) := Lib.hid (HW.out.congr fun j => by rw [HN.out]; omega)
        have hrest := HWf.out.rest H.out p1
        have s2' : wr.cell? ⟨X.s, 2, none⟩ = some (.int .i64 ng) := by
          have h5 := HS.out.st.cell 2
          rw [HW.out.s] at h5
          exact h5.trans (show some (Value.int .i64 Y.ng) = _ by rw [show Y.ng = X.ng by rw [HW.out.eq], HNG.out])
        have f2' : wr.frozen? ⟨X.s, 2, none⟩ = false := by have := HS.out.st.frozen 2; rw [HW.out.s] at this; exact this
        rw [HW.out.s] at p1 p2 hrest
        have HFIN := Lib.hid (⟨hrest, p2⟩ : _ ∧ _)
        clear p1 p2 hrest
        go_wp2
        go_end0
        obtain ⟨⟨h1, h2⟩, h3⟩ := HFIN.out
        refine ⟨rfl, _, h1, HT.out.trans h3 ⟨HW.out.fv.2, .inl (by rw [HW.out.fv.1])⟩, ⟨HW.out.fv.2, .inl (by show Y.fv.ownBlock = _; rw [HW.out.fv.1])⟩, (by first | rfl | exact HW.out.s), HW.out.V, h2, ?_, ?_, ?_⟩
        · show Y.live.length ≤ _
          have : Y.live = X.live := by unfold SX.live; rw [HW.out.ps, HW.out.C]
          rw [this]; exact List.length_filter_le _ _
        · show Y.added = _
          rw [HW.out.eq]
        · show Y.tk = _
          rw [HW.out.eq]
end Go.Proofs.YthcpfaahcncfjaaGreatDoor

namespace Go.Proofs.YthcpfaahcncfjaaGreatDoor
open Go.RowKit
set_option linter.unusedVariables false
set_option linter.unusedSimpArgs false

/-- a clause is gone: so says its struct, the count and its key's pile -/
structure Less7 (X X' : SX) (p0 : Nat) (k : List UInt8) : Prop where
  V : X'.V = X.V
  fd : X'.fd = X.fd
  ps : X'.ps = X.ps
  added : X'.added = X.added
  ks : X'.ks = X.ks
  C : ∀ q, X'.C q = if q = p0 then { X.C p0 with gone := true } else X.C q
  ng : X'.ng = X.ng + 1
  tk : X.tk ≤ X'.tk ∧ X'.tk ≤ X.tk + 2
  low : ∀ j, j < 2 * X.V + 2 → X'.pss.getD j [] = X.pss.getD j []
  high : ∀ (i : Nat) (k' : List UInt8), X.ks[i]? = some k' → k' ≠ k → X'.pss.getD (2 * X.V + 2 + i) [] = X.pss.getD (2 * X.V + 2 + i) [] ∧ X'.ko i = X.ko i
  here : ∀ i : Nat, X.ks[i]? = some k → (X'.pss.getD (2 * X.V + 2 + i) []).drop (X'.ko i) = ((X.pss.getD (2 * X.V + 2 + i) []).drop (X.ko i)).drop 1 ∧ X'.ko i ≤ (X'.pss.getD (2 * X.V + 2 + i) []).length ∧ (X'.pss.getD (2 * X.V + 2 + i) []).length ≤ (X.pss.getD (2 * X.V + 2 + i) []).length

section

variable {W W' : World} {base p0 : Nat} {X X' : SX} {fo : List Bool} {k : List UInt8} {rs : List Nat} {M : List Int}

theorem Less7.same (h : Less7 X X' p0 k) (q : Nat) : (X'.C q).lits = (X.C q).lits ∧ (X'.C q).w0 = (X.C q).w0 ∧ (X'.C q).w1 = (X.C q).w1 ∧ (X'.C q).tried = (X.C q).tried ∧ (X'.C q).num = (X.C q).num := by
  rw [h.C]
  split
  · next e => subst e; exact ⟨rfl, rfl, rfl, rfl, rfl⟩
  · exact ⟨rfl, rfl, rfl, rfl, rfl⟩

theorem Less7.was (h : Less7 X X' p0 k) {q : Nat} (hg : (X'.C q).gone = false) : (X.C q).gone = false ∧ q ≠ p0 := by
  rw [h.C] at hg
  split at hg
  · cases hg
  · next e => exact ⟨hg, e⟩

theorem Less7.rest (h : Less7 X X' p0 k) (hR : Rest7 W base X fo) (hS : Sto W' base X' fo) (hk : keyed7 X k = p0 :: rs) (hM : k = keyOf M) : Rest7 W' base X' fo ∧ X'.cs = X.cs.erase M := by
  have hnd : X.ps.Nodup := hR.shelf.nums.imp fun hlt e => by subst e; omega
  have hlnd : X.live.Nodup := hnd.filter _
  obtain ⟨l1, l2, hl, h1, h2, h3⟩ := List.filter_eq_cons_iff.1 hk
  rw [hl] at hlnd
  obtain ⟨n1, n2, n3⟩ := List.nodup_append.1 hlnd
  have hp1 : p0 ∉ l1 := fun hm => n3 p0 hm p0 (by simp) rfl
  have hp2 : p0 ∉ l2 := (List.nodup_cons.1 n2).1
  have hkey : keyOf (X.C p0).lits = k := by simpa using h2
  have hlits : (X.C p0).lits = M := keyOf_inj (hkey.trans hM)
  have hlive : X'.live = l1 ++ l2 := by
    have e1 : X'.live = X.live.filter fun q => decide (q ≠ p0) := by
      unfold SX.live
      rw [h.ps, List.filter_filter]
      refine List.filter_congr fun q hq => ?_
      rw [h.C]
      by_cases e : q = p0
      · rw [if_pos e]; simp [e]
      · rw [if_neg e]; simp [e]
    rw [e1, hl, List.filter_append, List.filter_cons]
    have e2 : l1.filter (fun q => decide (q ≠ p0)) = l1 := List.filter_eq_self.2 fun q hq => by simp; exact fun e => hp1 (e ▸ hq)
    have e3 : l2.filter (fun q => decide (q ≠ p0)) = l2 := List.filter_eq_self.2 fun q hq => by simp; exact fun e => hp2 (e ▸ hq)
    rw [e2, e3]
    simp
  have hsub : ∀ q, q ∈ X'.live → q ∈ X.live := fun q hq => by
    rw [hlive] at hq
    rw [hl]
    rcases List.mem_append.1 hq with hq | hq
    · exact List.mem_append_left _ hq
    · exact List.mem_append_right _ (by simp [hq])
  have hwt : ∀ q j, Waits (X'.C q) j ↔ Waits (X.C q) j := fun q j => by
    obtain ⟨a, b, c, d, e⟩ := h.same q
    unfold Waits
    rw [a, b, c]
  refine ⟨⟨hS, ⟨fun q hq => ?_, by rw [h.ps]; exact hR.wf.plen, fun j hj => ?_⟩, ⟨?_, ?_, ?_, ?_, ?_⟩, h.fd.trans hR.fd, ⟨fun q hq => ?_, fun q hq hg hlt => ?_⟩, ⟨?_, ?_, ?_, fun q hq => ?_, ?_, fun q hq => ?_, fun i k' hk' => ?_, fun q hq => ?_, fun i hi => ?_⟩⟩, ?_⟩
  · rw [h.ps] at hq
    obtain ⟨a, b, c, d, e⟩ := h.same q
    obtain ⟨w1, w2, w3⟩ := hR.wf.cl q hq
    rw [h.V]
    exact ⟨by rw [a]; exact w1, by rw [a]; exact w2, by rw [a, b, c, d]; exact w3⟩
  · rw [h.V] at hj
    rw [h.low j (by omega)]
    obtain ⟨q1, q2, q3⟩ := hR.wf.pile j hj
    exact ⟨q1, fun q hq => ⟨by rw [h.ps]; exact (q2 q hq).1, (hwt q j).2 (q2 q hq).2⟩, fun q hq hg hw => q3 q (by rw [← h.ps]; exact hq) (h.was hg).1 ((hwt q j).1 hw)⟩
  · rw [h.V]; exact hR.fw.flen
  · rw [h.V, h.fd]; exact hR.fw.tie
  · rw [h.fd]; exact hR.fw.nd
  · rw [h.V, h.fd]; exact hR.fw.lt
  · rw [h.fd]; exact hR.fw.con
  · rw [h.V, h.low _ (by omega)] at hq
    obtain ⟨a, b⟩ := hR.short.1 q hq
    exact ⟨by rw [h.ps]; exact a, by rw [(h.same q).1]; exact b⟩
  · rw [h.V, h.low _ (by omega)]
    rw [h.ps] at hq
    rw [(h.same q).1] at hlt
    exact hR.short.2 q hq (h.was hg).1 hlt
  · rw [h.V, h.low _ (by omega)]; exact hR.shelf.shnd
  · rw [h.V, h.low _ (by omega), h.ps]; exact hR.shelf.all
  · rw [h.ps]; exact hR.shelf.nums.imp fun {a b} hlt => by rw [(h.same a).2.2.2.2, (h.same b).2.2.2.2]; exact hlt
  · rw [h.ps] at hq
    rw [(h.same q).2.2.2.2, h.added]; exact hR.shelf.numlt q hq
  · have e := hR.shelf.ng
    rw [hl] at e
    rw [h.ng, hlive, h.ps]
    simp only [List.length_append, List.length_cons] at e ⊢
    omega
  · rw [h.ps] at hq
    rw [(h.same q).1]; exact hR.shelf.norm q hq
  · rw [h.ks] at hk'
    rw [h.V]
    have hfil : (X'.live.filter fun q => decide (keyOf (X'.C q).lits = k')) = X'.live.filter fun q => decide (keyOf (X.C q).lits = k') := List.filter_congr fun q _ => by rw [(h.same q).1]
    rw [hfil]
    obtain ⟨a, b⟩ := hR.shelf.keys i k' hk'
    by_cases e : k' = k
    · subst e
      obtain ⟨c, d, _⟩ := h.here i hk'
      refine ⟨?_, d⟩
      rw [c, a, hlive, hl]
      have f1 : l1.filter (fun q => decide (keyOf (X.C q).lits = k')) = [] := List.filter_eq_nil_iff.2 fun q hq => h1 q hq
      rw [List.filter_append, List.filter_append, f1, List.filter_cons]
      simp [hkey]
    · obtain ⟨c, d⟩ := h.high i k' hk' e
      rw [c, d]
      refine ⟨?_, b⟩
      rw [a, hlive, hl, List.filter_append, List.filter_append, List.filter_cons]
      have : ¬ keyOf (X.C p0).lits = k' := fun e2 => e (e2.symm.trans hkey)
      simp [this]
  · rw [(h.same q).1, h.ks]; exact hR.shelf.keyed q (hsub q hq)
  · rw [h.ks] at hi
    rw [h.V]
    have := hR.shelf.klen i hi
    have := h.tk.1
    by_cases e : X.ks[i] = k
    · have := (h.here i (by rw [List.getElem?_eq_getElem hi, e])).2.2
      omega
    · rw [(h.high i _ (List.getElem?_eq_getElem hi) e).1]
      omega
  · unfold SX.cs
    rw [hlive, hl, List.map_append, List.map_append, List.map_cons, hlits]
    have hn : M ∉ l1.map fun q => (X.C q).lits := fun hm => by
      obtain ⟨q, hq, e⟩ := List.mem_map.1 hm
      have := h1 q hq
      simp [e, hM] at this
    rw [List.erase_append_right _ hn, List.erase_cons_head]
    congr 1
    · exact List.map_congr_left fun q _ => (h.same q).1
    · exact List.map_congr_left fun q _ => (h.same q).1

theorem Sto.setng (h : Sto W base X fo) (n : Nat) : Sto (W.setCell ⟨X.s, 2, none⟩ (.int .i64 n)) base { X with ng := n } fo ∧ Tn base X W (W.setCell ⟨X.s, 2, none⟩ (.int .i64 n)) := by
  have far : ∀ q t Z, Blk W q t Z → t ≠ 117 → Blk (W.setCell ⟨X.s, 2, none⟩ (.int .i64 n)) q t Z := fun q t Z hq h2 => hq.far (hq.ne_ h.st h2) _
  have row : ∀ (e : TypeId) (v : Value) (m : Nat) (xs : List Value), W.ownsRow base e 1 v m xs → e ≠ 117 → (W.setCell ⟨X.s, 2, none⟩ (.int .i64 n)).ownsRow base e 1 v m xs := fun e v m xs ho h2 => own_setCell ho _ (own_blk_ne ho h.st h2)
  refine ⟨⟨?_, far _ _ _ h.fol (by decide), h.flen, row _ _ _ _ h.fnd (by decide), row _ _ _ _ h.out (by decide), h.pil.keep fun q Z hq => far _ _ _ hq (by decide), h.num, fun p hp => ?_, ?_, h.lo, h.vb⟩, ⟨(Below.refl _ _).setCell h.lo.1 _, fun q t Z hq h1 h2 h3 h4 h5 h6 => far q t Z hq h1, Recs.set _ _ _⟩⟩
  · exact h.st.set_ 2 (.int .i64 n)
  · obtain ⟨c1, c2, c3, c4⟩ := h.cl p hp
    exact ⟨far _ _ _ c1 (by decide), c2, row _ _ _ _ c3 (by decide), c4⟩
  · obtain ⟨D, m, hm, h2⟩ := h.map
    exact ⟨D, m, hm.kept (grown_setCell W _ _) (fun e => blk_map_ne7 h.st hm (by simpa using e.symm)), h2⟩

theorem MapIs.del_old {D : DataW Value} {j : Nat} (h : MapIs X D) (hk : X.ks.findIdx? (· = k) = some j) (hl : 2 * X.V + 2 + j < X.vs.length) : MapIs (X.kpile j (.slice none 0 0) [] 0) (D.del (keyLit k)) := by
  refine ⟨h.1.del _, fun k' => ?_⟩
  show _ = DataW.held (match X.ks.findIdx? (· = k') with | some i => cutv ((X.vs.set (2 * X.V + 2 + j) (.slice none 0 0)).getD (2 * X.V + 2 + i) undef) (if i = j then 0 else X.ko i) | none => .slice none 0 0)
  by_cases e : k' = k
  · subst e
    rw [Maps.atKey_del_same, hk]
    dsimp only
    rw [getD_set_same hl, if_pos rfl]
    rfl
  · rw [Maps.atKey_del_other (keyLit_ne e), h.2 k']
    cases hf : X.ks.findIdx? (· = k') with
    | none => rfl
    | some i =>
      have hne := find_apart hk hf e
      dsimp only
      rw [getD_set_other (by omega), if_neg (by omega)]

theorem MapIs.putdel {D : DataW Value} {j : Nat} {u : Value} (h : MapIs X D) (hk : X.ks.findIdx? (· = k) = some j) (hl : 2 * X.V + 2 + j < X.vs.length) : MapIs (X.kpile j (.slice none 0 0) [] 0) ((D.put (keyLit k) (.held u)).del (keyLit k)) := by
  refine ⟨(h.1.put _ _).del _, fun k' => ?_⟩
  show _ = DataW.held (match X.ks.findIdx? (· = k') with | some i => cutv ((X.vs.set (2 * X.V + 2 + j) (.slice none 0 0)).getD (2 * X.V + 2 + i) undef) (if i = j then 0 else X.ko i) | none => .slice none 0 0)
  by_cases e : k' = k
  · subst e
    rw [Maps.atKey_del_same, hk]
    dsimp only
    rw [getD_set_same hl, if_pos rfl]
    rfl
  · rw [Maps.atKey_del_other (keyLit_ne e), Maps.atKey_put_other (keyLit_ne e), h.2 k']
    cases hf : X.ks.findIdx? (· = k') with
    | none => rfl
    | some i =>
      have hne := find_apart hk hf e
      dsimp only
      rw [getD_set_other (by omega), if_neg (by omega)]

/-- the key's row is another, and the key leaves the map -/
theorem Sto.keyputdel {j : Nat} (h : Sto W base X fo) (hk : X.ks.findIdx? (· = k) = some j) (hkl : k.length ≤ 1000000000) (htk : X.tk ≤ 1000000000) (u : Value) (ty : TypeId) :
    ∃ w5 w6, (Instr.mapUpdate 115 (.map (some X.m)) (.string ⟨k.toArray⟩) u).run Tryz.prog W = .ok () w5 ∧ Blk w5 X.s 117 X.head ∧
      (Builtin.delete_ #[115, 9] ty #[.map (some X.m), .string ⟨k.toArray⟩]).run Tryz.prog w5 = .ok (.tuple #[]) w6 ∧ Sto w6 base (X.kpile j (.slice none 0 0) [] 0) fo ∧ Tn base X W w6 := by
  obtain ⟨k1, k2⟩ := find_key hk
  have hnum := h.num.1
  have hlen := h.pil.len
  obtain ⟨D, n, hm, hn, hM⟩ := h.map
  obtain ⟨w5, hrun, hm5, hg5⟩ := hm.update mapLaw7 Tryz.underlying115 (by unfold maxLen; omega) (mapKey7 (k := k) (by unfold maxLen; omega)) (show heldE u = some (.held u, []) from rfl)
  obtain ⟨w6, hrun6, hm6, hg6⟩ := hm5.drop mapLaw7 Tryz.underlying115 (mapKey7 (k := k) (by unfold maxLen; omega)) ty
  obtain ⟨p1, p2⟩ := h.keyed_old (A := none) (c := 0) (ps := []) (d := 0) hk (Below.refl _ _) (World.grownBy.refl W _) (World.ownsRow_nil _ _ _ _) (.inr fun g hg => by simp [Value.ownBlock] at hg) (by omega) hm6 (hM.putdel hk (by omega)) ⟨_, _, hm⟩ (grown_tr7 hg5 hg6.grown)
  exact ⟨w5, w6, hrun, h.st.grown hg5 (fun e => blk_map_ne7 h.st hm (by simpa using e)), hrun6, p1, p2⟩

/-- the key's row without its first one -/
theorem Sto.keycut {j : Nat} (h : Sto W base X fo) (hk : X.ks.findIdx? (· = k) = some j) (hkl : k.length ≤ 1000000000) (htk : X.tk ≤ 1000000000) :
    ∃ w4, (Instr.mapUpdate 115 (.map (some X.m)) (.string ⟨k.toArray⟩) (cutv (X.vs.getD (2 * X.V + 2 + j) undef) (X.ko j + 1))).run Tryz.prog W = .ok () w4 ∧
      Sto w4 base (X.kpile j (X.vs.getD (2 * X.V + 2 + j) undef) (X.pss.getD (2 * X.V + 2 + j) []) (X.ko j + 1)) fo ∧ Tn base X W w4 := by
  obtain ⟨k1, k2⟩ := find_key hk
  have hnum := h.num.1
  have hlen := h.pil.len
  obtain ⟨Aj, cj, hvj, hoj⟩ := h.pil.each (2 * X.V + 2 + j) (by omega)
  obtain ⟨D, n, hm, hn, hM⟩ := h.map
  obtain ⟨w4, hrun, hm4, hg4⟩ := hm.update mapLaw7 Tryz.underlying115 (by unfold maxLen; omega) (mapKey7 (k := k) (by unfold maxLen; omega)) (show heldE (cutv (X.vs.getD (2 * X.V + 2 + j) undef) (X.ko j + 1)) = some (.held (cutv (X.vs.getD (2 * X.V + 2 + j) undef) (X.ko j + 1)), []) from rfl)
  refine ⟨w4, hrun, ?_⟩
  have hM' := hM.put_old (v := X.vs.getD (2 * X.V + 2 + j) undef) (ps := X.pss.getD (2 * X.V + 2 + j) []) (d := X.ko j + 1) hk (by omega)
  rw [hvj] at hM' hm4 ⊢
  exact h.keyed_old hk (Below.refl _ _) (World.grownBy.refl W _) hoj (.inl (by rw [hvj])) (by omega) hm4 hM' ⟨_, _, hm⟩ hg4

/-- the key leaves the map -/
theorem Sto.keydel {j : Nat} (h : Sto W base X fo) (hk : X.ks.findIdx? (· = k) = some j) (hkl : k.length ≤ 1000000000) (ty : TypeId) :
    ∃ w4, (Builtin.delete_ #[115, 9] ty #[.map (some X.m), .string ⟨k.toArray⟩]).run Tryz.prog W = .ok (.tuple #[]) w4 ∧ Sto w4 base (X.kpile j (.slice none 0 0) [] 0) fo ∧ Tn base X W w4 := by
  obtain ⟨k1, k2⟩ := find_key hk
  have hnum := h.num.1
  have hlen := h.pil.len
  obtain ⟨D, n, hm, hn, hM⟩ := h.map
  obtain ⟨w4, hrun, hm4, hg4⟩ := hm.drop mapLaw7 Tryz.underlying115 (mapKey7 (k := k) (by unfold maxLen; omega)) ty
  refine ⟨w4, hrun, ?_⟩
  exact h.keyed_old (A := none) (c := 0) (ps := []) (d := 0) hk (Below.refl _ _) (World.grownBy.refl W _) (World.ownsRow_nil _ _ _ _) (.inr fun g hg => by simp [Value.ownBlock] at hg) (Nat.le_trans hn (Nat.le_succ _)) hm4 (hM.del_old hk (by omega)) ⟨_, _, hm⟩ hg4.grown

/-- the first of a key's clauses is gone, and its row's front is cut -/
theorem less_cut {j : Nat} {ps : List Nat} {v : Value} {d : Nat} (hR : Rest7 W base X fo) (hf : X.ks.findIdx? (· = k) = some j) (hk : keyed7 X k = p0 :: rs) (hd : ps.drop d = rs) (hd2 : d ≤ ps.length) (hl : ps.length ≤ (X.pss.getD (2 * X.V + 2 + j) []).length) :
    Less7 X (({ X.cl p0 { X.C p0 with gone := true } with ng := X.ng + 1 } : SX).kpile j v ps d) p0 k := by
  obtain ⟨k1, k2⟩ := find_key hf
  have hnum := hR.sto.num.1
  have hnd := hR.sto.num.2
  have e1 : (({ X.cl p0 { X.C p0 with gone := true } with ng := X.ng + 1 } : SX).kpile j v ps d).pss = X.pss.set (2 * X.V + 2 + j) ps := rfl
  have e2 : ∀ i, (({ X.cl p0 { X.C p0 with gone := true } with ng := X.ng + 1 } : SX).kpile j v ps d).ko i = if i = j then d else X.ko i := fun i => rfl
  refine ⟨rfl, rfl, rfl, rfl, rfl, fun q => rfl, rfl, ⟨Nat.le_succ _, by show X.tk + 1 ≤ _; omega⟩, fun i hi => ?_, fun i k' hk' hne => ?_, fun i hi => ?_⟩
  · rw [e1, getD_set_other (by omega)]
  · have hij : i ≠ j := fun e => by subst e; rw [k2] at hk'; injection hk' with hk'; exact hne hk'.symm
    rw [e1, e2, getD_set_other (by omega), if_neg hij]
    exact ⟨rfl, rfl⟩
  · have hij : i = j := by
      obtain ⟨a1, a2⟩ := List.getElem?_eq_some_iff.1 hi
      obtain ⟨b1, b2⟩ := List.getElem?_eq_some_iff.1 k2
      exact (List.getElem_inj hnd).1 (a2.trans b2.symm)
    subst hij
    have hkk := (hR.shelf.keys i k hi).1
    have hkk' : (X.pss.getD (2 * X.V + 2 + i) []).drop (X.ko i) = p0 :: rs := hkk.trans hk
    rw [e1, e2, getD_set_same (by omega), if_pos rfl, hkk', hd]
    exact ⟨rfl, hd2, hl⟩

end

end Go.Proofs.YthcpfaahcncfjaaGreatDoor

namespace Go.Proofs.YthcpfaahcncfjaaGreatDoor
open Go.RowKit
set_option linter.unusedVariables false
set_option linter.unusedSimpArgs false

theorem cutv_step {Aj : Option Addr} {l c0 d g o n c : Nat} (h : cutv (.slice Aj l c0) d = .slice (some ⟨g, o, none⟩) (n + 1) c) : cutv (.slice Aj l c0) (d + 1) = .slice (some ⟨g, o + 1, none⟩) n (c - 1) := by
  cases Aj with
  | none => simp [cutv] at h
  | some a =>
    obtain ⟨g', o', p'⟩ := a
    have h' : Value.slice (some ⟨g', o' + d, p'⟩) (l - d) (c0 - d) = .slice (some ⟨g, o, none⟩) (n + 1) c := h
    injection h' with h1 h2 h3
    injection h1 with h1
    injection h1 with e1 e2 e3
    subst e1 e2 e3
    show Value.slice (some ⟨g', o' + (d + 1), none⟩) (l - (d + 1)) (c0 - (d + 1)) = _
    rw [show o' + (d + 1) = o' + d + 1 by omega, show l - (d + 1) = n by omega, show c0 - (d + 1) = c - 1 by omega]

theorem wpList_del7 {P : Program} {ops : Array Oper} {rest : List Oper} {o : Oper} {a : Act} {Q : Exit → Act → World → Prop} {w w' : World} (hg : o.guard = none) (m x : Operand) (t k : TypeId) (hop : o.op = Op.call { callee := Callee.builtin Builtin.delete, args := #[m, x], argTypes := #[t, k] })
    (u v : Value) (hm : a.eval m = u) (hx : a.eval x = v) (hrun : (Builtin.delete_ #[t, k] o.type #[u, v]).run P w = .ok (.tuple #[]) w') (hK : wpList P ops Q rest (a.put o.dst (.tuple #[])) w') : wpList P ops Q (o :: rest) a w := by
  refine wpList_plain hg fun K' hK' => ?_
  unfold Oper.wp
  simp [execOp, hop, resolve, invoke, builtin, hm, hx, hrun, Result.andThen]
  exact hK' _ _ hK

/-- Remove's answer -/
def RemoveP (base : Nat) (X : SX) (fo : List Bool) (M : List Int) (W : World) (e : Ending) (W' : World) : Prop :=
  e = .returned (.bool (decide (M ∈ X.cs))) ∧ ∃ X' : SX, Rest7 W' base X' fo ∧ Tn base X W W' ∧ Later7 W X X' ∧ X'.s = X.s ∧ X'.V = X.V ∧ X'.cs = X.cs.erase M ∧ X'.ps.length ≤ X.ps.length ∧ X'.added = X.added ∧ X'.tk ≤ X.tk + 2

theorem remove_fin {W w4 w6 w7 : World} {base : Nat} {X X6 : SX} {fo : List Bool} {M : List Int} {e : Ending} (hT : Tn base X W w4) (hT6 : Tn base X (w4.drewN 1) w6) (hs : X6.s = X.s) (hV : X6.V = X.V) (hfb : X6.fb = X.fb) (hfv : X6.fv = X.fv) (hps : X6.ps = X.ps) (hadd : X6.added = X.added) (htk : X6.tk ≤ X.tk + 2) (hcs : X6.cs = X.cs.erase M)
    (h7 : SweepP base X6 fo w6 e w7) : e = .returned (.tuple #[]) ∧ ∃ X' : SX, Rest7 w7 base X' fo ∧ Tn base X W w7 ∧ Later7 W X X' ∧ X'.s = X.s ∧ X'.V = X.V ∧ X'.cs = X.cs.erase M ∧ X'.ps.length ≤ X.ps.length ∧ X'.added = X.added ∧ X'.tk ≤ X.tk + 2 := by
  obtain ⟨rfl, X7, r1, t7, l7, s7, v7, c7, p7, a7, k7⟩ := h7
  have hT' : Tn base X W w6 := hT.trans (Tn.undrew hT6) (Later7.refl _ _)
  have hl : Later7 w6 X X6 := ⟨hfb, .inl (by rw [hfv])⟩
  exact ⟨rfl, X7, r1, hT'.trans t7 ⟨hfb, .inl (by rw [hfv])⟩, (hl.trans l7 (Nat.le_refl _)).from_ hT'.below.size, s7.trans hs, v7.trans hV, c7.trans hcs, by rw [← hps]; exact p7, a7.trans hadd, by rw [k7]; exact htk⟩

set_option maxRecDepth 100000 in
set_option maxHeartbeats 1000000 in
theorem remove_any7 {W : World} {base c B : Nat} {X : SX} {fo : List Bool} {L : List Int} {A : Option Addr} (h : Rest7 W base X fo) (hA : Ints W B A L) (hB : B ≤ W.heap.size) (hn : L.length ≤ 1000000) (hL : ∀ x, x ∈ L → -1000000 ≤ x ∧ x ≤ 1000000) (hT : Tab7 W) (htk : X.tk ≤ 1000000) :
    Calls Tryz.prog 33 #[.pointer (some ⟨X.s, 0, none⟩), .slice A L.length c] W (RemoveP base X fo (normOf L) W) := by
  have hvb := h.sto.vb
  have hps := h.wf.plen
  have hBW : base ≤ W.heap.size := by have := h.sto.lo.1; have := h.sto.st.lt; omega
  have hks := key_short hn hL
  have hmem : 0 < (keyed7 X (keyOf (normOf L))).length ↔ normOf L ∈ X.cs := mem_keyed7
  have HNC := Lib.hid (norm_clause_of (fun p cap fv w => Tryz.slices_SortFunc_none (α := Int) p cap fv w) L B A c W ⟨by omega, hL⟩ hA hB)
  obtain ⟨M, hMM⟩ : ∃ M, M = normOf L := ⟨_, rfl⟩
  have hMl : M.length ≤ L.length := by rw [hMM]; exact norm_len L
  have HML : Hid (∀ x, x ∈ M → -1000000 ≤ x ∧ x ≤ 1000000) := Lib.hid fun x hx => hL x (mem_normOf.1 (by rw [← hMM]; exact hx))
  rw [← hMM] at HNC hmem hks ⊢
  have HT := Lib.hid hT
  have H := Lib.hid h
  obtain ⟨Am, cm, hmv, hmc, hrow⟩ := h.row (keyOf M)
  obtain ⟨kk, hkk⟩ : ∃ kk, kk = keyOf M := ⟨_, rfl⟩
  rw [← hkk] at hmv hmc hmem hks hrow
  have HKK := Lib.hid hkk
  clear h hA hB hL hT hMM hkk
  cases hkd : keyed7 X kk with
  | nil =>
    rw [hkd] at hmv hmem
    have hno : M ∉ X.cs := fun hm => by have := hmem.2 hm; simp at this
    have HNO := Lib.hid hno
    have HMV : Hid (mapVal X kk = .slice Am 0 cm) := Lib.hid hmv
    clear hmv hmc hrow hmem hkd hno
    go_enter Tryz.func33, Tryz.ntmps33
    go_wp2_with fail
    refine HNC.out.mono ?_
    rintro e w1 ⟨A1, c1, rfl, hown1, hb1⟩
    have HKY := Lib.hid (key_any07 M w1.heap.size A1 c1 w1 (by omega) HML.out (ints_of_own hown1) (Nat.le_refl _) (HT.out.same hb1))
    have HB1 := Lib.hid hb1
    clear hown1 hb1
    go_wp2_with fail
    refine HKY.out.mono ?_
    rintro e w2 ⟨rfl, hb2⟩
    have HB2 := Lib.hid (HB1.out.trans (hb2.mono HB1.out.size))
    have s6 : w2.cell? ⟨X.s, 6, none⟩ = some (.map (some X.m)) := (H.out.below HB2.out).sto.st.cell 6
    have hlk := (H.out.below HB2.out).sto.look (k := kk) (by unfold maxLen; omega)
    rw [HMV.out] at hlk
    rw [← HKK.out]
    clear hb2
    go_wp2
    go_ret
    exact ⟨by rw [decide_eq_false HNO.out]; rfl, X, H.out.below HB2.out, Tn.of_below HB2.out hBW, Later7.refl _ _, rfl, rfl, (List.erase_of_not_mem HNO.out).symm, Nat.le_refl _, rfl, by omega⟩
  | cons p0 rs =>
    rw [hkd] at hmv hmc hrow hmem
    have hyes : M ∈ X.cs := hmem.1 (by simp)
    obtain ⟨g, off, rfl, hc0⟩ := hrow 0 (by simp)
    have hp0m : p0 ∈ keyed7 X kk := by rw [hkd]; simp
    obtain ⟨hp0l, hp0k⟩ := List.mem_filter.1 hp0m
    obtain ⟨hp0s, hp0g⟩ := SX.mem_live.1 hp0l
    have hin : kk ∈ X.ks := by have := H.out.shelf.keyed p0 hp0l; rw [show keyOf (X.C p0).lits = kk by simpa using hp0k] at this; exact this
    obtain ⟨j, hf⟩ : ∃ j, X.ks.findIdx? (· = kk) = some j := by
      cases hf : X.ks.findIdx? (· = kk) with
      | some j => exact ⟨j, rfl⟩
      | none => have := List.findIdx?_eq_none_iff.1 hf kk hin; simp at this
    have HMV : Hid (mapVal X kk = .slice (some ⟨g, off, none⟩) (rs.length + 1) cm) := Lib.hid hmv
    have hcut : cutv (X.vs.getD (2 * X.V + 2 + j) undef) (X.ko j + 1) = .slice (some ⟨g, off + 1, none⟩) rs.length (cm - 1) := by
      obtain ⟨Aj, cj, hvj, hoj⟩ := H.out.sto.pil.each (2 * X.V + 2 + j) (by have := H.out.sto.num.1; have := (find_key hf).1; omega)
      unfold mapVal at hmv
      rw [hf] at hmv
      dsimp only at hmv
      rw [hvj] at hmv ⊢
      exact cutv_step hmv
    have hrl : rs.length ≤ 1000000000 := by
      have e : (keyed7 X kk).length = rs.length + 1 := by rw [hkd]; simp
      have h1 := List.length_filter_le (fun p => decide (keyOf (X.C p).lits = kk)) X.live
      have h2 := List.length_filter_le (fun p => !(X.C p).gone) X.ps
      unfold keyed7 SX.live at *
      omega
    obtain ⟨n, hnr⟩ : ∃ n, n = rs.length := ⟨_, rfl⟩
    have hmc' : n + 1 ≤ cm := by rw [hnr]; exact hmc
    rw [← hnr] at HMV hcut hrl
    have hng : X.ng ≤ 1000000000 := by have := H.out.shelf.ng; omega
    obtain ⟨ng, hngg⟩ : ∃ ng, ng = X.ng := ⟨_, rfl⟩
    rw [← hngg] at hng
    have hwng : IntKind.i64.wrap ((ng : Int) + 1) = (ng : Int) + 1 := IntWalk.i64_in _ (by omega)
    have HP := Lib.hid (⟨hp0s, hp0g, hf, hcut⟩ : _ ∧ _ ∧ _ ∧ _)
    have HNG := Lib.hid hngg
    have HNR := Lib.hid hnr
    have HYES := Lib.hid hyes
    have HKD := Lib.hid hkd
    have HC0 : Hid (W.cell? ⟨g, off, none⟩ = some (.pointer (some ⟨p0, 0, none⟩))) := Lib.hid hc0
    clear hmv hmc hrow hmem hkd hyes hc0 hp0m hp0l hp0k hp0s hp0g hin hf hcut hngg hnr
    go_enter Tryz.func33, Tryz.ntmps33
    go_wp2_with fail
    refine HNC.out.mono ?_
    rintro e w1 ⟨A1, c1, rfl, hown1, hb1⟩
    have HKY := Lib.hid (key_any07 M w1.heap.size A1 c1 w1 (by omega) HML.out (ints_of_own hown1) (Nat.le_refl _) (HT.out.same hb1))
    have HB1 := Lib.hid hb1
    clear hown1 hb1
    go_wp2_with fail
    refine HKY.out.mono ?_
    rintro e w2 ⟨rfl, hb2⟩
    have hbw2 := HB1.out.trans (hb2.mono HB1.out.size)
    have HB2 := Lib.hid hbw2
    have hR2 := H.out.below hbw2
    have HR2 := Lib.hid hR2
    obtain ⟨hp0s, hp0g, hf, hcut⟩ := HP.out
    have s6 : w2.cell? ⟨X.s, 6, none⟩ = some (.map (some X.m)) := hR2.sto.st.cell 6
    have s2 : w2.cell? ⟨X.s, 2, none⟩ = some (.int .i64 ng) := by rw [HNG.out]; exact hR2.sto.st.cell 2
    have f2 : w2.frozen? ⟨X.s, 2, none⟩ = false := hR2.sto.st.frozen 2
    have hlk := hR2.sto.look (k := kk) (by unfold maxLen; omega)
    rw [HMV.out] at hlk
    have l0 : w2.cell? ⟨g, off, none⟩ = some (.pointer (some ⟨p0, 0, none⟩)) := (hbw2.cell (World.block_lt_of_cell? _ _ HC0.out)).trans HC0.out
    have hpb := (hR2.sto.cl p0 hp0s).1
    have q5 : w2.cell? ⟨p0, 5, none⟩ = some (.bool false) := by rw [← hp0g]; exact hpb.cell 5
    have f5 := hpb.frozen 5
    have hps' : ¬ p0 = X.s := hpb.ne_ hR2.sto.st (by decide)
    have hsp' : ¬ X.s = p0 := fun e => hps' e.symm
    obtain ⟨a1, a2⟩ := hR2.sto.clauseSet hp0s { X.C p0 with gone := true } 5 (.bool true) rfl rfl rfl
    obtain ⟨b1, b2⟩ := a1.setng (ng + 1)
    rw [show ((ng + 1 : Nat) : Int) = (ng : Int) + 1 by omega] at b1 b2
    have HB1S := Lib.hid b1
    have HTW : Hid (Tn base X W ((w2.setCell ⟨p0, 5, none⟩ (.bool true)).setCell ⟨X.s, 2, none⟩ (.int .i64 ((ng : Int) + 1)))) := Lib.hid (((Tn.of_below hbw2 hBW).trans a2 (Later7.refl _ _)).trans b2.cl (Later7.refl _ _))
    have hcs : (X.pss.getD (2 * X.V + 2 + j) []).drop (X.ko j) = p0 :: rs := ((H.out.shelf.keys j kk (find_key hf).2).1).trans HKD.out
    have HCS := Lib.hid hcs
    have hko := (H.out.shelf.keys j kk (find_key hf).2).2
    have HKO := Lib.hid hko
    have HF := Lib.hid hf
    have HCUT := Lib.hid hcut
    have HP0 := Lib.hid hp0s
    rw [← HKK.out]
    rcases Nat.eq_zero_or_pos n with h0 | h0
    · subst h0
      have hrs : rs = [] := List.length_eq_zero_iff.1 HNR.out.symm
      have HRS := Lib.hid hrs
      have hkp := fun (u : Value) (ty : TypeId) => (HB1S.out.drewN 1).keyputdel (j := j) hf (by omega) (by show X.tk ≤ _; omega) u ty
      have HKP := Lib.hid hkp
      have hless := less_cut (v := .slice none 0 0) (ps := []) (d := 0) H.out hf HKD.out (by simpa using hrs.symm) (Nat.le_refl _) (Nat.zero_le _)
      have HLE := Lib.hid hless
      have hcp : (1 : Int) ≤ (cm : Int) := by omega
      clear hbw2 hR2 hp0s hp0g hf hcut hpb a1 a2 b1 b2 hb2 hcs hko hrs hkp hless
      go_wp2
      by_cases hcm : cm = 1
      · subst hcm
        obtain ⟨w5, w6, hup, hb5, hdl, u1, u2⟩ := HKP.out (.slice (some ⟨g, off, none⟩) 0 0) 0
        have hup' : (Instr.mapUpdate 115 (.map (some X.m)) (.string ⟨kk.toArray⟩) (.slice (some ⟨g, off, none⟩) 0 0)).run Tryz.prog (((w2.setCell ⟨p0, 5, none⟩ (.bool true)).setCell ⟨X.s, 2, none⟩ (.int .i64 ((ng : Int) + 1))).drew) = .ok () w5 := hup
        clear hup
        go_region
        have s6' : w5.cell? ⟨X.s, 6, none⟩ = some (.map (some X.m)) := hb5.cell 6
        have u1' := u1
        rw [HNG.out] at u1'
        have hrest := HLE.out.rest H.out u1' HKD.out HKK.out
        obtain ⟨X6, x8, x1, x2, x3, x4, x5, x6, x7, x9⟩ : ∃ X6 : SX, Rest7 w6 base X6 fo ∧ X6.s = X.s ∧ X6.V = X.V ∧ X6.fb = X.fb ∧ X6.fv = X.fv ∧ X6.ps = X.ps ∧ X6.added = X.added ∧ X6.tk ≤ X.tk + 2 ∧ X6.cs = X.cs.erase M := ⟨_, hrest.1, rfl, rfl, rfl, rfl, rfl, rfl, (by show X.tk + 1 ≤ _; omega), hrest.2⟩
        have hswp := sweep_any7 x8
        rw [x1] at hswp
        have HSW := Lib.hid hswp
        have HU2 := Lib.hid u2
        have HX6 := Lib.hid (⟨x1, x2, x3, x4, x5, x6, x7, x9⟩ : _ ∧ _ ∧ _ ∧ _ ∧ _ ∧ _ ∧ _ ∧ _)
        clear hb5 u1 u1' u2 hrest x1 x2 x3 x4 x5 x6 x7 x8 x9 hswp s2 f2 q5 f5 l0 hlk s6
        go_wp2_with (at_delete; refine wpList_del7 rfl _ _ _ _ rfl _ _ rfl rfl hdl ?_)
        refine HSW.out.mono ?_
        rintro e7 w7 hsw
        obtain ⟨x1, x2, x3, x4, x5, x6, x7, x9⟩ := HX6.out
        obtain ⟨rfl, hfin⟩ := remove_fin (M := M) HTW.out (show Tn base X _ w6 from ⟨HU2.out.below, HU2.out.blk, HU2.out.recs⟩) x1 x2 x3 x4 x5 x6 x7 x9 hsw
        clear x1 x2 x3 x4 x5 x6 x7 x9 hsw
        go_wp2
        go_ret
        exact ⟨by rw [decide_eq_true HYES.out]; rfl, hfin⟩
      · obtain ⟨w5, w6, hup, hb5, hdl, u1, u2⟩ := HKP.out (.slice (some ⟨g, off + 1, none⟩) 0 (cm - 1)) 0
        have hup' : (Instr.mapUpdate 115 (.map (some X.m)) (.string ⟨kk.toArray⟩) (.slice (some ⟨g, off + 1, none⟩) 0 (cm - 1))).run Tryz.prog (((w2.setCell ⟨p0, 5, none⟩ (.bool true)).setCell ⟨X.s, 2, none⟩ (.int .i64 ((ng : Int) + 1))).drew) = .ok () w5 := hup
        clear hup
        go_region
        have s6' : w5.cell? ⟨X.s, 6, none⟩ = some (.map (some X.m)) := hb5.cell 6
        have u1' := u1
        rw [HNG.out] at u1'
        have hrest := HLE.out.rest H.out u1' HKD.out HKK.out
        obtain ⟨X6, x8, x1, x2, x3, x4, x5, x6, x7, x9⟩ : ∃ X6 : SX, Rest7 w6 base X6 fo ∧ X6.s = X.s ∧ X6.V = X.V ∧ X6.fb = X.fb ∧ X6.fv = X.fv ∧ X6.ps = X.ps ∧ X6.added = X.added ∧ X6.tk ≤ X.tk + 2 ∧ X6.cs = X.cs.erase M := ⟨_, hrest.1, rfl, rfl, rfl, rfl, rfl, rfl, (by show X.tk + 1 ≤ _; omega), hrest.2⟩
        have hswp := sweep_any7 x8
        rw [x1] at hswp
        have HSW := Lib.hid hswp
        have HU2 := Lib.hid u2
        have HX6 := Lib.hid (⟨x1, x2, x3, x4, x5, x6, x7, x9⟩ : _ ∧ _ ∧ _ ∧ _ ∧ _ ∧ _ ∧ _ ∧ _)
        clear hb5 u1 u1' u2 hrest x1 x2 x3 x4 x5 x6 x7 x8 x9 hswp s2 f2 q5 f5 l0 hlk s6
        go_wp2_with (at_delete; refine wpList_del7 rfl _ _ _ _ rfl _ _ rfl rfl hdl ?_)
        refine HSW.out.mono ?_
        rintro e7 w7 hsw
        obtain ⟨x1, x2, x3, x4, x5, x6, x7, x9⟩ := HX6.out
        obtain ⟨rfl, hfin⟩ := remove_fin (M := M) HTW.out (show Tn base X _ w6 from ⟨HU2.out.below, HU2.out.blk, HU2.out.recs⟩) x1 x2 x3 x4 x5 x6 x7 x9 hsw
        clear x1 x2 x3 x4 x5 x6 x7 x9 hsw
        go_wp2
        go_ret
        exact ⟨by rw [decide_eq_true HYES.out]; rfl, hfin⟩
    · obtain ⟨w5, hup, u1, u2⟩ := (HB1S.out.drewN 1).keycut (j := j) hf (by omega) (by show X.tk ≤ _; omega)
      have hup' : (Instr.mapUpdate 115 (.map (some X.m)) (.string ⟨kk.toArray⟩) (.slice (some ⟨g, off + 1, none⟩) n (cm - 1))).run Tryz.prog (((w2.setCell ⟨p0, 5, none⟩ (.bool true)).setCell ⟨X.s, 2, none⟩ (.int .i64 ((ng : Int) + 1))).drew) = .ok () w5 := by
        rw [← hcut]; exact hup
      have hdl2 : (X.pss.getD (2 * X.V + 2 + j) []).drop (X.ko j + 1) = rs := by
        rw [← List.drop_drop, hcs]; rfl
      have hlen1 : X.ko j + 1 ≤ (X.pss.getD (2 * X.V + 2 + j) []).length := by
        have e := congrArg List.length hcs
        rw [List.length_drop, List.length_cons] at e
        omega
      have hless := less_cut (v := X.vs.getD (2 * X.V + 2 + j) undef) (ps := X.pss.getD (2 * X.V + 2 + j) []) (d := X.ko j + 1) H.out hf HKD.out hdl2 hlen1 (Nat.le_refl _)
      have u1' := u1
      rw [HNG.out] at u1'
      have hrest := hless.rest H.out u1' HKD.out HKK.out
      obtain ⟨X6, x8, x1, x2, x3, x4, x5, x6, x7, x9⟩ : ∃ X6 : SX, Rest7 w5 base X6 fo ∧ X6.s = X.s ∧ X6.V = X.V ∧ X6.fb = X.fb ∧ X6.fv = X.fv ∧ X6.ps = X.ps ∧ X6.added = X.added ∧ X6.tk ≤ X.tk + 2 ∧ X6.cs = X.cs.erase M := ⟨_, hrest.1, rfl, rfl, rfl, rfl, rfl, rfl, (by show X.tk + 1 ≤ _; omega), hrest.2⟩
      have hswp := sweep_any7 x8
      rw [x1] at hswp
      have HSW := Lib.hid hswp
      have HU2 := Lib.hid u2
      have HX6 := Lib.hid (⟨x1, x2, x3, x4, x5, x6, x7, x9⟩ : _ ∧ _ ∧ _ ∧ _ ∧ _ ∧ _ ∧ _ ∧ _)
      have hcp : (1 : Int) ≤ (cm : Int) := by omega
      have hcm : ¬ cm = 1 := by omega
      have hn1 : ¬ n = 0 := by omega
      have hn2 : ¬ (n : Int) = 0 := by omega
      have hn3 : (1 : Int) ≤ (n : Int) + 1 := by omega
      clear hbw2 hR2 hp0s hp0g hf hcut hpb a1 a2 b1 b2 hb2 hcs hko hup u1 u1' u2 hrest hless hdl2 hlen1 x1 x2 x3 x4 x5 x6 x7 x8 x9 hswp
      go_wp2
      go_region
      go_wp2_with fail
      refine HSW.out.mono ?_
      rintro e7 w7 hsw
      obtain ⟨x1, x2, x3, x4, x5, x6, x7, x9⟩ := HX6.out
      obtain ⟨rfl, hfin⟩ := remove_fin (M := M) HTW.out (show Tn base X _ w5 from ⟨HU2.out.below, HU2.out.blk, HU2.out.recs⟩) x1 x2 x3 x4 x5 x6 x7 x9 hsw
      clear x1 x2 x3 x4 x5 x6 x7 x9 hsw
      go_wp2
      go_ret
      exact ⟨by rw [decide_eq_true HYES.out]; rfl, hfin⟩

end Go.Proofs.YthcpfaahcncfjaaGreatDoor

namespace Go.Proofs.YthcpfaahcncfjaaGreatDoor
open Go.RowKit
set_option linter.unusedVariables false
set_option linter.unusedSimpArgs false

theorem infoRow8 : (Tryz.prog.info? 55).map (fun i => (i.zero, i.size, i.bytes)) = some (some (.slice none 0 0), 1, 24) := by kernel_rfl

/-- rows that read, by their headers -/
def Own8 (w : World) (B Bi : Nat) (A : Option Addr) (c : Nat) (f : Nat → Value) (os : List (List Int)) : Prop :=
  Cells w B A os.length f ∧ os.length ≤ c ∧ ∀ j, j < os.length → ∃ Aj cj, f j = .slice Aj (os.getD j []).length cj ∧ Ints w Bi Aj (os.getD j [])

theorem Own8.below {w w' : World} {B Bi c : Nat} {A : Option Addr} {f : Nat → Value} {os : List (List Int)} (h : Own8 w B Bi A c f os) (hb : Below B w w') (hi : Bi ≤ B) : Own8 w' B Bi A c f os :=
  ⟨Cells.below h.1 hb, h.2.1, fun j hj => by obtain ⟨Aj, cj, e, hi'⟩ := h.2.2 j hj; exact ⟨Aj, cj, e, Cells.below hi' (hb.mono hi)⟩⟩

theorem Own8.more {w : World} {B B' Bi c : Nat} {A : Option Addr} {f : Nat → Value} {os : List (List Int)} (h : Own8 w B Bi A c f os) (hb : B ≤ B') : Own8 w B' Bi A c f os :=
  ⟨Cells.more h.1 hb, h.2.1, h.2.2⟩

/-- is it the same clause? -/
def sameN (M d : List Int) : Bool := decide (normOf d = normOf M)

theorem sameN_iff {M d : List Int} : sameN M d = true ↔ SameL d M := by
  unfold sameN SameL
  rw [decide_eq_true_eq, norm_eq_iff]

theorem erase_at {M : List Int} {os : List (List Int)} {k : Nat} (hk : k < os.length) (h1 : ∀ d, d ∈ os.take k → sameN M d = false) (h2 : sameN M (os.getD k []) = true) : os.eraseP (sameN M) = os.take k ++ os.drop (k + 1) := by
  have e : os = os.take k ++ os.getD k [] :: os.drop (k + 1) := by
    rw [show os.getD k [] = os[k] by simp [List.getD, hk], ← List.drop_eq_getElem_cons hk, List.take_append_drop]
  have : (os.take k ++ os.getD k [] :: os.drop (k + 1)).eraseP (sameN M) = os.take k ++ os.drop (k + 1) := by
    rw [List.eraseP_append_right _ (fun d hd => by simp [h1 d hd]), List.eraseP_cons_of_pos h2]
  rw [← e] at this
  exact this

/-- what Remove answers: the rows handed in, or rows of one's own -/
def RemRef (os : List (List Int)) (M : List Int) (Bi : Nat) (A : Option Addr) (c : Nat) (f : Nat → Value) (w : World) (e : Ending) (w' : World) : Prop :=
  ∃ (A2 : Option Addr) (c2 : Nat) (f2 : Nat → Value), e = .returned (.tuple #[.slice A2 (os.eraseP (sameN M)).length c2, .bool (os.any (sameN M))]) ∧ Own8 w' w'.heap.size Bi A2 c2 f2 (os.eraseP (sameN M)) ∧ Below w.heap.size w w' ∧
    ((A2 = A ∧ c2 = c ∧ f2 = f ∧ w' = w ∧ os.eraseP (sameN M) = os) ∨ ∃ hs : List Value, w'.ownsRow w.heap.size 55 1 (.slice A2 (os.eraseP (sameN M)).length c2) (os.eraseP (sameN M)).length hs ∧ f2 = fun j => hs.getD j undef)
set_option linter.unusedSimpArgs false

theorem heads_at {f : Nat → Value} {k n j : Nat} (hk : k < n) (hj : j < n - 1) : ((List.range k).map f ++ (List.range (n - (k + 1))).map (fun i => f (k + 1 + i))).getD j undef = f (if j < k then j else j + 1) := by
  by_cases h : j < k
  · rw [if_pos h]
    simp [List.getD, List.getElem?_append_left, h]
  · rw [if_neg h]
    simp only [List.getD]
    rw [List.getElem?_append_right (by simp; omega)]
    simp only [List.length_map, List.length_range, List.getElem?_map]
    rw [List.getElem?_range (by omega)]
    show f (k + 1 + (j - k)) = f (j + 1)
    rw [show k + 1 + (j - k) = j + 1 by omega]

theorem rows_at {os : List (List Int)} {k j : Nat} (hk : k < os.length) (hj : j < os.length - 1) : (os.take k ++ os.drop (k + 1)).getD j [] = os.getD (if j < k then j else j + 1) [] := by
  by_cases h : j < k
  · rw [if_pos h]
    have hj2 : j < os.length := by omega
    simp [List.getD, List.getElem?_append_left, h, hk, hj2, Nat.min_eq_left (Nat.le_of_lt hk)]
  · rw [if_neg h]
    simp only [List.getD]
    rw [List.getElem?_append_right (by simp; omega), List.length_take, Nat.min_eq_left (Nat.le_of_lt hk), List.getElem?_drop]
    rw [show k + 1 + (j - k) = j + 1 by omega]

theorem remref_fin {os : List (List Int)} {M : List Int} {w w4 : World} {B Bi c c4 k : Nat} {A A4 : Option Addr} {f : Nat → Value} (hk : k < os.length) (hB : Bi ≤ w.heap.size) (h : Own8 w B Bi A c f os) (he : os.eraseP (sameN M) = os.take k ++ os.drop (k + 1)) (ha : os.any (sameN M) = true)
    (ho : w4.ownsRow w.heap.size 55 1 (.slice A4 (k + (os.length - (k + 1))) c4) (k + (os.length - (k + 1))) ((List.range k).map f ++ (List.range (os.length - (k + 1))).map fun j => f (k + 1 + j))) (hb : Below w.heap.size w w4) (hc : k + (os.length - (k + 1)) ≤ c4) :
    RemRef os M Bi A c f w (.returned (.tuple #[.slice A4 (k + (os.length - (k + 1))) c4, .bool true])) w4 := by
  have hlen : (os.eraseP (sameN M)).length = k + (os.length - (k + 1)) := by rw [he]; simp; omega
  have hn : k + (os.length - (k + 1)) = os.length - 1 := by omega
  refine ⟨A4, c4, fun j => ((List.range k).map f ++ (List.range (os.length - (k + 1))).map fun j => f (k + 1 + j)).getD j undef, by rw [hlen, ha], ⟨?_, by rw [hlen]; exact hc, fun j hj => ?_⟩, hb, .inr ⟨_, by rw [hlen]; exact ho, rfl⟩⟩
  · rw [hlen]; exact cells_of_own ho undef
  · rw [hlen, hn] at hj
    rw [he, rows_at hk hj]
    dsimp only
    rw [heads_at hk hj]
    have hj' : (if j < k then j else j + 1) < os.length := by split <;> omega
    obtain ⟨Aj, cj, e, hi⟩ := h.2.2 _ hj'
    exact ⟨Aj, cj, e, Cells.below hi (hb.mono hB)⟩

set_option maxRecDepth 100000 in
set_option maxHeartbeats 1000000 in
theorem remref_any (os : List (List Int)) (M : List Int) (B B' Bi : Nat) (A A' : Option Addr) (c c' : Nat) (f : Nat → Value) (w : World) (hn : os.length ≤ 1000000) (hl : ∀ j, (os.getD j []).length ≤ 1000000) (hM : M.length ≤ 1000000)
    (h : Own8 w B Bi A c f os) (h' : Ints w B' A' M) (hB : B ≤ w.heap.size) (hBi : Bi ≤ w.heap.size) (hB' : B' ≤ w.heap.size) :
    Calls Tryz.prog 30 #[.slice A os.length c, .slice A' M.length c'] w (RemRef os M Bi A c f w) := by
  have H := Lib.hid h
  have H' := Lib.hid h'
  have HL := Lib.hid hl
  have hcap := h.2.1
  obtain ⟨i0, hi, hz0, hz1, hz2⟩ := info_parts infoRow8
  clear h h' hl
  go_enter Tryz.func30, Tryz.ntmps30
  go_wp2
  go_loopg [6] (os.length + 1) (fun gk i wr => ∃ k : Nat, k ≤ os.length ∧ gk = os.length - k + 1 ∧ i = .int .i64 k ∧ w = wr ∧ Hid (∀ d, d ∈ os.take k → sameN M d = false))
  case atStart => exact ⟨0, by omega, by omega, rfl, rfl, Lib.hid (by simp)⟩
  case round =>
    obtain ⟨k, hk, rfl, rfl, rfl, HK⟩ := hrel
    by_cases hlt : k < os.length
    · obtain ⟨b, off, rfl, hbB, hcj⟩ := H.out.1 (by omega)
      obtain ⟨Aj, cj, hfj, hij⟩ := H.out.2.2 k hlt
      have hc := hcj k hlt
      rw [hfj] at hc
      have htk : os.take (k + 1) = os.take k ++ [os.getD k []] := by rw [List.take_succ_eq_append_getElem hlt]; simp [List.getD, hlt]
      have hlk := HL.out k
      obtain ⟨d, hdd⟩ : ∃ d, d = os.getD k [] := ⟨_, rfl⟩
      rw [← hdd] at hc hij htk hlk
      have HTK := Lib.hid htk
      have HDD := Lib.hid hdd
      have HCJ := Lib.hid hcj
      have HSA := Lib.hid (same_any07 d M Bi B' Aj A' cj c' w (by omega) (by omega) hij H'.out)
      clear hfj hij htk hdd hcj
      go_wp2_with fail
      refine HSA.out.mono ?_
      rintro e w1 ⟨s, rfl, hs, rfl⟩
      cases s with
      | false =>
        have hno : sameN M d = false := by
          cases hq : sameN M d with
          | false => rfl
          | true => exact absurd (hs.2 (sameN_iff.1 hq)) (by simp)
        have HNO := Lib.hid hno
        clear hs hno hc
        go_wp2
        go_roundg (os.length - k)
        case measure => omega
        case rel =>
          refine ⟨k + 1, by omega, by omega, by go_num, rfl, Lib.hid fun x hx => ?_⟩
          rw [HTK.out] at hx
          rcases List.mem_append.1 hx with hx | hx
          · exact HK.out x hx
          · rw [List.mem_singleton.1 hx]; exact HNO.out
      | true =>
        have hyes : sameN M d = true := sameN_iff.2 (hs.1 rfl)
        have hera := erase_at hlt HK.out (by rw [← HDD.out]; exact hyes)
        have hany : os.any (sameN M) = true := List.any_eq_true.2 ⟨d, by rw [HDD.out]; exact rows_row hlt, hyes⟩
        have HERA := Lib.hid hera
        have HANY := Lib.hid hany
        have HX1 : Hid (Cells w B (some ⟨b, off, none⟩) k f) := Lib.hid fun _ => ⟨b, off, rfl, hbB, fun j hj => HCJ.out j (by omega)⟩
        have hkc : (k : Int) ≤ (c : Int) := by omega
        have hkc1 : ((k : Int) + 1) ≤ (os.length : Int) := by omega
        have hkc2 : ¬ c = 0 := by omega
        clear hs hyes hera hany hc
        have hsz : ∀ w', (sizeOf 55).run Tryz.prog w' = .ok 1 w' := fun w' => by simp [sizeOf, typeInfo, hi, hz1]
        have HS1 := Lib.hid (run_front7 (P := Tryz.prog) Tryz.underlying29 w (hsz w) b off os.length c k (by omega))
        have hs2 := fun w' => run_back7 (P := Tryz.prog) Tryz.underlying29 w' (hsz w') b off os.length c (k + 1) (by omega) hcap
        rw [show ((k + 1 : Nat) : Int) = (k : Int) + 1 by omega] at hs2
        have HS2 := Lib.hid hs2
        clear hs2
        have HONE : Hid (∀ j, j < os.length → (f j).oneCell' = true) := Lib.hid fun j hj => by obtain ⟨Aq, cq, e, _⟩ := H.out.2.2 j hj; rw [e]; rfl
        have hkl : (k : Int) + 1 ≤ (c : Int) := by omega
        by_cases hcm : c = k + 1
        · have HX2 : Hid (Cells w B (some ⟨b, off, none⟩) (os.length - (k + 1)) fun j => f (k + 1 + j)) := Lib.hid fun h0 => by omega
          simp only [if_pos hcm] at HS2
          clear hcm
          go_wp2_with (first
            | (refine wpList_slice7 rfl _ _ _ _ _ rfl (.slice (some ⟨b, off, none⟩) os.length c) (.slice (some ⟨b, off, none⟩) k c) rfl none (some (.int .i64 k)) none rfl rfl rfl HS1.out (by kernel_rfl) ?_)
            | (refine wpList_slice7 rfl _ _ _ _ _ rfl (.slice (some ⟨b, off, none⟩) os.length c) _ rfl (some (.int .i64 ((k : Int) + 1))) none none rfl rfl rfl (HS2.out _) (by kernel_rfl) ?_)
            | (at_builtin; refine wpList_append_cells _ rfl _ _ 29 rfl w.heap.size 55 i0 (.slice none 0 0) 24 Tryz.underlying29 hi hz0 hz1 hz2 rfl (.slice none 0 0) 0 [] rfl (World.ownsRow_nil _ _ _ _) B (some ⟨b, off, none⟩) k _ f rfl HX1.out (fun j hj => HONE.out j (by omega)) (by unfold maxLen; omega) (by omega) (Nat.le_refl _) ?_; intro v3 w3 hown3 hg3 hob3
               obtain ⟨A3, c3, hv3, _⟩ := own_slice hown3
               subst hv3
               rw [Nat.zero_add, List.nil_append] at hown3
               have hb3 : Below w.heap.size w w3 := ⟨hg3.os, hg3.tape, hg3.output, hg3.size, fun i hi => hg3.block i hi (by simp [Value.ownBlock])⟩
               have HO3 := Lib.hid hown3
               have HB3 := Lib.hid hb3
               have HX3 := Lib.hid (Cells.below HX2.out (hb3.mono hB))
               have hs3 := hb3.size
               clear hown3 hg3 hob3 hb3)
            | (at_builtin; refine wpList_append_cells _ rfl _ _ 29 rfl w.heap.size 55 i0 (.slice none 0 0) 24 Tryz.underlying29 hi hz0 hz1 hz2 rfl (.slice A3 k c3) k _ rfl HO3.out B (some ⟨b, off, none⟩) (os.length - (k + 1)) _ (fun j => f (k + 1 + j)) rfl HX3.out (fun j hj => HONE.out _ (by omega)) (by unfold maxLen; omega) (by omega) hs3 ?_; intro v4 w4 hown4 hg4 hob4
               obtain ⟨A4, c4, hv4, hc4, _⟩ := own_slice hown4
               subst hv4
               have hb4 : Below w.heap.size w w4 := HB3.out.grown hg4 hs3 (fun g hg => (HO3.out.lt g hg).1)
               have HO4 := Lib.hid hown4
               have HB4 := Lib.hid hb4
               have HC4 := Lib.hid hc4
               clear hown4 hg4 hob4 hb4 hc4))
          go_ret2
          exact remref_fin hlt hBi H.out HERA.out HANY.out HO4.out HB4.out HC4.out
        · have HX2 : Hid (Cells w B (some ⟨b, off + (k + 1), none⟩) (os.length - (k + 1)) fun j => f (k + 1 + j)) := Lib.hid fun h0 => ⟨b, off + (k + 1), rfl, hbB, fun j hj => by rw [Nat.add_assoc]; exact HCJ.out (k + 1 + j) (by omega)⟩
          simp only [if_neg hcm] at HS2
          clear hcm
          go_wp2_with (first
            | (refine wpList_slice7 rfl _ _ _ _ _ rfl (.slice (some ⟨b, off, none⟩) os.length c) (.slice (some ⟨b, off, none⟩) k c) rfl none (some (.int .i64 k)) none rfl rfl rfl HS1.out (by kernel_rfl) ?_)
            | (refine wpList_slice7 rfl _ _ _ _ _ rfl (.slice (some ⟨b, off, none⟩) os.length c) _ rfl (some (.int .i64 ((k : Int) + 1))) none none rfl rfl rfl (HS2.out _) (by kernel_rfl) ?_)
            | (at_builtin; refine wpList_append_cells _ rfl _ _ 29 rfl w.heap.size 55 i0 (.slice none 0 0) 24 Tryz.underlying29 hi hz0 hz1 hz2 rfl (.slice none 0 0) 0 [] rfl (World.ownsRow_nil _ _ _ _) B (some ⟨b, off, none⟩) k _ f rfl HX1.out (fun j hj => HONE.out j (by omega)) (by unfold maxLen; omega) (by omega) (Nat.le_refl _) ?_; intro v3 w3 hown3 hg3 hob3
               obtain ⟨A3, c3, hv3, _⟩ := own_slice hown3
               subst hv3
               rw [Nat.zero_add, List.nil_append] at hown3
               have hb3 : Below w.heap.size w w3 := ⟨hg3.os, hg3.tape, hg3.output, hg3.size, fun i hi => hg3.block i hi (by simp [Value.ownBlock])⟩
               have HO3 := Lib.hid hown3
               have HB3 := Lib.hid hb3
               have HX3 := Lib.hid (Cells.below HX2.out (hb3.mono hB))
               have hs3 := hb3.size
               clear hown3 hg3 hob3 hb3)
            | (at_builtin; refine wpList_append_cells _ rfl _ _ 29 rfl w.heap.size 55 i0 (.slice none 0 0) 24 Tryz.underlying29 hi hz0 hz1 hz2 rfl (.slice A3 k c3) k _ rfl HO3.out B (some ⟨b, off + (k + 1), none⟩) (os.length - (k + 1)) _ (fun j => f (k + 1 + j)) rfl HX3.out (fun j hj => HONE.out _ (by omega)) (by unfold maxLen; omega) (by omega) hs3 ?_; intro v4 w4 hown4 hg4 hob4
               obtain ⟨A4, c4, hv4, hc4, _⟩ := own_slice hown4
               subst hv4
               have hb4 : Below w.heap.size w w4 := HB3.out.grown hg4 hs3 (fun g hg => (HO3.out.lt g hg).1)
               have HO4 := Lib.hid hown4
               have HB4 := Lib.hid hb4
               have HC4 := Lib.hid hc4
               clear hown4 hg4 hob4 hb4 hc4))
          go_ret2
          exact remref_fin hlt hBi H.out HERA.out HANY.out HO4.out HB4.out HC4.out
    · obtain rfl : k = os.length := by omega
      rw [List.take_length] at HK
      have hera : os.eraseP (sameN M) = os := List.eraseP_of_forall_not fun d hd => by simp [HK.out d hd]
      have hany : os.any (sameN M) = false := List.any_eq_false.2 fun d hd => by simp [HK.out d hd]
      have HERA := Lib.hid hera
      have HANY := Lib.hid hany
      clear hera hany
      go_wp2
      go_ret2
      unfold RemRef
      rw [HERA.out, HANY.out]
      exact ⟨A, c, f, rfl, H.out.more hB, Below.refl _ _, .inl ⟨rfl, rfl, rfl, rfl, rfl⟩⟩

end Go.Proofs.YthcpfaahcncfjaaGreatDoor

namespace Go.Proofs.YthcpfaahcncfjaaGreatDoor
open Go.RowKit
set_option linter.unusedVariables false
set_option linter.unusedSimpArgs false

section

variable {w w' : World} {base s V N b0 c : Nat} {cs : List (List Int)} {X X' : SX} {A : Option Addr} {L : List Int}

theorem remove_sx {B : Nat} (h : Sx w base s V cs N X) (hA : Ints w B A L) (hB : B ≤ w.heap.size) (hn : L.length ≤ 1000000) (hL : ∀ x, x ∈ L → -1000000 ≤ x ∧ x ≤ 1000000) (hT : Tab7 w) (hN : N ≤ 1000000) :
    Calls Tryz.prog 33 #[.pointer (some ⟨s, 0, none⟩), .slice A L.length c] w fun e w' => e = .returned (.bool (decide (normOf L ∈ cs))) ∧ ∃ X' : SX, Sx w' base s V (cs.erase (normOf L)) (N + 2) X' ∧ Tn base X w w' ∧ Later7 w X X' := by
  obtain ⟨rfl, rfl, rfl, h4, h5, h6, fo, h7⟩ := h
  refine (remove_any7 h7 hA hB hn hL hT (by omega)).mono ?_
  rintro e w' ⟨rfl, X', r1, r2, r3, r4, r5, r6, r7, r8, r9⟩
  exact ⟨rfl, X', ⟨r4, r5, r6, by omega, by omega, by omega, fo, r1⟩, r2, r3⟩

/-- rows of one's own, of a type that the store has none of, stay as they are -/
theorem Sx.own_turn {n : Nat} {v : Value} {xs : List Value} (h : Sx w base s V cs N X) (ho : w.ownsRow b0 55 1 v n xs) (ht : Tn base X w w') : w'.ownsRow b0 55 1 v n xs := by
  obtain ⟨h1, h2, h3, h4, h5, h6, fo, h7⟩ := h
  refine ⟨ho.1, ?_⟩
  rcases ho.2 with hn | ⟨g', cap', cur, hv, hb', hg', rest⟩
  · exact .inl hn
  · exact .inr ⟨g', cap', cur, hv, hb', ht.blk g' _ cur hg' (by decide) (by decide) (by decide) (by decide) (Blk.ne_ (w := w) (g := g') hg' h7.sto.fol (by decide)) (own_blk_ne h7.sto.fnd (show Blk w g' _ cur from hg') (by decide)), rest⟩

end

/-- what goes of the rows goes of their normal forms -/
theorem erase_norm {M : List Int} : ∀ os : List (List Int), (os.map normOf).erase (normOf M) = (os.eraseP (sameN M)).map normOf
  | [] => rfl
  | d :: os => by
    rw [List.map_cons, List.erase_cons, List.eraseP_cons]
    by_cases h : normOf d = normOf M
    · have h1 : (normOf d == normOf M) = true := by simp [h]
      have h2 : sameN M d = true := by simp [sameN, h]
      rw [h1, h2]; rfl
    · have h1 : (normOf d == normOf M) = false := by simp [h]
      have h2 : sameN M d = false := by simp [sameN, h]
      rw [h1, h2]
      simp [erase_norm os]

theorem any_norm {M : List Int} (os : List (List Int)) : os.any (sameN M) = decide (normOf M ∈ os.map normOf) := by
  rw [Bool.eq_iff_iff]
  simp only [List.any_eq_true, decide_eq_true_eq, List.mem_map, sameN]

/-- a list of clauses of one's own: its headers, and rows that lie below the store -/
structure OL (b7 base F : Nat) (w : World) (os : List (List Int)) (A : Option Addr) (c : Nat) (hs : List Value) : Prop where
  own : w.ownsRow b7 55 1 (.slice A os.length c) os.length hs
  rows : ∀ j, j < os.length → ∃ Aj cj, hs.getD j undef = .slice Aj (os.getD j []).length cj ∧ Ints w base Aj (os.getD j [])
  each : ∀ d, d ∈ os → d.length ≤ 100 ∧ ∀ x, x ∈ d → Lt7 F x
  few : os.length ≤ 1000

section

variable {w w' : World} {b7 base F s V N c : Nat} {cs os : List (List Int)} {X : SX} {A : Option Addr} {hs : List Value}

theorem OL.cap (h : OL b7 base F w os A c hs) : os.length ≤ c := by
  obtain ⟨A', c', e, hc, _⟩ := own_slice h.own
  injection e with _ _ e3
  omega

theorem OL.below (h : OL b7 base F w os A c hs) (hb : Below w.heap.size w w') (hs' : base ≤ w.heap.size) : OL b7 base F w' os A c hs :=
  ⟨own_below h.own hb fun g hg => (h.own.lt g hg).2, fun j hj => by obtain ⟨Aj, cj, e, hi⟩ := h.rows j hj; exact ⟨Aj, cj, e, Cells.below hi (hb.mono hs')⟩, h.each, h.few⟩

theorem OL.tn (h : OL b7 base F w os A c hs) (hx : Sx w base s V cs N X) (ht : Tn base X w w') : OL b7 base F w' os A c hs :=
  ⟨hx.own_turn h.own ht, fun j hj => by obtain ⟨Aj, cj, e, hi⟩ := h.rows j hj; exact ⟨Aj, cj, e, Cells.below hi ht.below⟩, h.each, h.few⟩

theorem OL.own8 (h : OL b7 base F w os A c hs) : Own8 w w.heap.size base A c (fun j => hs.getD j undef) os := ⟨cells_of_own h.own undef, h.cap, h.rows⟩

theorem OL.short (h : OL b7 base F w os A c hs) (j : Nat) : (os.getD j []).length ≤ 100 := by
  by_cases hj : j < os.length
  · exact (h.each _ (rows_row hj)).1
  · rw [List.getD, List.getElem?_eq_none (by omega)]; simp

theorem OL.removed {M : List Int} {e : Ending} (h : OL b7 base F w os A c hs) (hr : RemRef os M base A c (fun j => hs.getD j undef) w e w') (hb7 : b7 ≤ w.heap.size) : ∃ (A2 : Option Addr) (c2 : Nat) (hs2 : List Value),
    e = .returned (.tuple #[.slice A2 (os.eraseP (sameN M)).length c2, .bool (os.any (sameN M))]) ∧ OL b7 base F w' (os.eraseP (sameN M)) A2 c2 hs2 ∧ Below w.heap.size w w' := by
  obtain ⟨A2, c2, f2, rfl, h8, hb, ho⟩ := hr
  rcases ho with ⟨rfl, rfl, rfl, rfl, he⟩ | ⟨hs2, ho, rfl⟩
  · refine ⟨A2, c2, hs, rfl, ?_, hb⟩
    rw [he]; exact h
  · exact ⟨A2, c2, hs2, rfl, ⟨own_more ho hb7, h8.2.2, fun d hd => h.each d (List.mem_of_mem_eraseP hd), Nat.le_trans List.length_eraseP_le h.few⟩, hb⟩

end

theorem one_own8 (w : World) (x : Int) : (w.alloc (.cells #[.int .i64 x] 3)).ownsRow w.heap.size 3 1 (.slice (some ⟨w.heap.size, 0, none⟩) 1 1) 1 [.int .i64 x] :=
  ⟨by simp, .inr ⟨w.heap.size, 1, _, rfl, Nat.le_refl _, heap_alloc_new w _, Nat.le_refl _, by unfold maxLen; omega, by simp, by simp⟩⟩

theorem one_ints8 (w : World) (x : Int) : Ints (w.alloc (.cells #[.int .i64 x] 3)) (w.alloc (.cells #[.int .i64 x] 3)).heap.size (some ⟨w.heap.size, 0, none⟩) [x] := ints_of_own (xs := [x]) (one_own8 w x)

/-- a literal that is none of the formula's is in no clause of it -/
theorem no_norm {F : Nat} {os : List (List Int)} {x : Int} (h : ∀ d, d ∈ os → d.length ≤ 100 ∧ ∀ x, x ∈ d → Lt7 F x) (hx : ¬ Lt7 F x) : decide (normOf [x] ∈ os.map normOf) = false := by
  rw [decide_eq_false_iff_not]
  intro hm
  obtain ⟨d, hd, e⟩ := List.mem_map.1 hm
  exact hx ((h d hd).2 x (((norm_eq_iff.1 e) x).2 (by simp)))

end Go.Proofs.YthcpfaahcncfjaaGreatDoor
