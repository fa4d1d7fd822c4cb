/- sweep: the clauses that are gone leave all lists. -/
import Derived.Test.YtbjccfdmedbkjaaDoorKeys07
import Derived.Deep.RegionHeld3
import Derived.BigQuiet
namespace Go.Proofs.YtbjccfdmedbkjaaDoor
open Go.RowKit
set_option linter.unusedVariables false
set_option linter.unusedSimpArgs false

theorem gone_any7 (p : Nat) (x : CX) (W : World) (h : Blk W p 73 x.cells) : Calls Tryd.prog 53 #[.pointer (some ⟨p, 0, none⟩)] W fun e W' => e = .returned (.bool x.gone) ∧ W = W' := by
  have c5 : W.cell? ⟨p, 5, none⟩ = some (.bool x.gone) := h.cell 5
  obtain ⟨b, hb⟩ : ∃ b, b = x.gone := ⟨_, rfl⟩
  rw [← hb] at c5 ⊢
  clear h hb
  go_enter Tryd.func53, Tryd.ntmps53
  go_wp2
  go_ret
  exact ⟨rfl, rfl⟩
/-- those of some clauses that are not gone -/
def keep7 (X : SX) (ps : List Nat) : List Nat := ps.filter fun p => !(X.C p).gone
theorem grown_tr7 {row : Option Nat} {a b c : World} (h : a.grownBy b row) (k : b.grownBy c row) : a.grownBy c row :=
  ⟨k.os.trans h.os, k.tape.trans h.tape, k.output.trans h.output, Nat.le_trans h.size k.size, fun i hi hne => (k.block i (Nat.lt_of_lt_of_le hi h.size) hne).trans (h.block i hi hne)⟩
def GoneInv (base gb n c : Nat) (X : SX) (ps0 : List Nat) (wd : World) (k : Nat) (kept Lp : List Nat) (W' : World) : Prop :=
  kept = keep7 X (ps0.take k) ∧ W'.ownsRow base 74 1 (.slice (some ⟨gb, 0, none⟩) n c) n (ptrs7 Lp) ∧ wd.grownBy W' (some gb)
section
variable {wd : World} {base gb n c : Nat} {X : SX} {fo : List Bool} {ps0 : List Nat}
theorem gone_inv (hS : Sto wd base X fo) (hown : wd.ownsRow base 74 1 (.slice (some ⟨gb, 0, none⟩) n c) n (ptrs7 ps0)) (hps : ps0.length = n) (hsub : ∀ p, p ∈ ps0 → p ∈ X.ps) :
    DelInv base gb n c 53 #[] ps0 (GoneInv base gb n c X ps0 wd) := by
  refine ⟨fun hi => hi.2.1, fun {k kept L W} hi hk => ?_, fun {k kept L W} j v hi hj => ?_⟩
  · obtain ⟨h1, h2, h3⟩ := hi
    have hk' : k < ps0.length := by omega
    have htk : ps0.take (k + 1) = ps0.take k ++ [ps0.getD k 0] := by rw [List.take_succ_eq_append_getElem hk']; simp [List.getD, hk']
    have hm : ps0.getD k 0 ∈ ps0 := by simp [List.getD, hk']
    obtain ⟨p, hp⟩ : ∃ p, p = ps0.getD k 0 := ⟨_, rfl⟩
    rw [← hp] at htk hm ⊢
    have hcl := (hS.cl p (hsub p hm)).1
    obtain ⟨Y, hY⟩ := own_blk7 hown
    have hb : Blk W p 73 (X.C p).cells := hcl.grown h3 (fun e => hcl.ne_ hY (by decide) (by injection e))
    refine Calls.mono (gone_any7 p (X.C p) W hb) ?_
    rintro e W' ⟨rfl, rfl⟩
    refine ⟨(X.C p).gone, rfl, ?_, h2, h3⟩
    unfold keep7 at h1 ⊢
    rw [htk, List.filter_append, ← h1]
    cases hgn : (X.C p).gone <;> simp [hgn]
  · obtain ⟨h1, h2, h3⟩ := hi
    refine ⟨h1, ?_, grown_tr7 h3 (grown_setCell W ⟨gb, j, none⟩ _)⟩
    have := own_putv h2 j (.pointer (some ⟨v, 0, none⟩))
    rw [show ptrs7 (L.set j v) = (ptrs7 L).set j (.pointer (some ⟨v, 0, none⟩)) by simp [ptrs7, List.map_set]]
    exact this
end
/-- a pile without those that are gone -/
def DelGone (base : Nat) (X : SX) (j : Nat) (wd : World) (e : Ending) (W3 : World) : Prop :=
  ∃ (A3 : Option Addr) (c3 : Nat), e = .returned (.slice A3 (keep7 X (X.pss.getD j [])).length c3) ∧ wd.grownBy W3 (X.vs.getD j undef).ownBlock ∧
    W3.ownsRow base 74 1 (.slice A3 (keep7 X (X.pss.getD j [])).length c3) (keep7 X (X.pss.getD j [])).length (ptrs7 (keep7 X (X.pss.getD j []))) ∧ (Value.slice A3 (keep7 X (X.pss.getD j [])).length c3).ownBlock = (X.vs.getD j undef).ownBlock
theorem del_gone {wd : World} {base j : Nat} {X : SX} {fo : List Bool} (hS : Sto wd base X fo) (hj : j < X.pss.length) (hsub : ∀ p, p ∈ X.pss.getD j [] → p ∈ X.ps) (hn : (X.pss.getD j []).length ≤ 1000000000) :
    Calls Tryd.prog 54 #[X.vs.getD j undef, .func (.func 53) #[] #[]] wd (DelGone base X j wd) := by
  have eg : ∀ args w, (callFunc 53 args).run Tryd.prog w = .ok (.enter 53 args) w := enters_of Tryd.func53 (by kernel_rfl) rfl
  obtain ⟨Aj, cj, hvj, hoj⟩ := hS.pil.each j hj
  unfold DelGone
  obtain ⟨ps0, hps⟩ : ∃ ps0, ps0 = X.pss.getD j [] := ⟨_, rfl⟩
  rw [← hps] at hvj hoj hsub hn
  simp only [← hps]
  rw [hvj]
  rcases Nat.eq_zero_or_pos ps0.length with h0 | h0
  · obtain rfl : ps0 = [] := List.length_eq_zero_iff.1 h0
    refine (deletefunc_nil7 Aj cj _ wd).mono ?_
    rintro e W3 ⟨rfl, rfl⟩
    exact ⟨Aj, cj, rfl, World.grownBy.refl wd _, hoj, rfl⟩
  · obtain ⟨gb, rfl, _, _⟩ := own_addr hoj h0
    refine (deletefunc_any7 (gone_inv hS hoj rfl hsub) hn rfl wd ⟨by simp [keep7], hoj, World.grownBy.refl wd _⟩ eg).mono ?_
    rintro e W3 ⟨kept, Lp, W1, ⟨m1, m2, m3⟩, hk, rfl, hgr, hown⟩
    rw [List.take_length] at m1
    subst m1
    exact ⟨some ⟨gb, 0, none⟩, cj, rfl, grown_tr7 m3 hgr, hown, rfl⟩

/-- some piles are without those that are gone; all else is what it was -/
structure Swept (X Y : SX) (P : Nat → Prop) : Prop where
  eq : Y = { X with vs := Y.vs, pss := Y.pss }
  len : Y.pss.length = X.pss.length
  yes : ∀ j, P j → Y.pss.getD j [] = keep7 X (X.pss.getD j [])
  no : ∀ j, ¬ P j → Y.pss.getD j [] = X.pss.getD j []
  vno : ∀ j, ¬ P j → Y.vs.getD j undef = X.vs.getD j undef
section
variable {X Y : SX} {P : Nat → Prop} {j : Nat} {W W' : World} {base : Nat} {fo : List Bool}
theorem Swept.C (h : Swept X Y P) : Y.C = X.C := by rw [h.eq]
theorem Swept.V (h : Swept X Y P) : Y.V = X.V := by rw [h.eq]
theorem Swept.s (h : Swept X Y P) : Y.s = X.s := by rw [h.eq]
theorem Swept.ps (h : Swept X Y P) : Y.ps = X.ps := by rw [h.eq]
theorem Swept.Aw (h : Swept X Y P) : Y.Aw = X.Aw ∧ Y.cw = X.cw := by rw [h.eq]; exact ⟨rfl, rfl⟩
theorem Swept.fv (h : Swept X Y P) : Y.fv = X.fv ∧ Y.fb = X.fb := by rw [h.eq]; exact ⟨rfl, rfl⟩
theorem Swept.refl : Swept X X (fun _ => False) := ⟨rfl, rfl, fun _ h => h.elim, fun _ _ => rfl, fun _ _ => rfl⟩
theorem Swept.step (h : Swept X Y P) (hj : ¬ P j) (hl : j < X.pss.length) (v : Value) : Swept X (Y.pile j v (keep7 Y (Y.pss.getD j []))) (fun i => P i ∨ i = j) := by
  have hk : ∀ ps, keep7 Y ps = keep7 X ps := fun ps => by unfold keep7; rw [h.C]
  refine ⟨?_, ?_, fun i hi => ?_, fun i hi => ?_, fun i hi => ?_⟩
  · have hab : ∀ a b, ({ Y with vs := a, pss := b } : SX) = { X with vs := a, pss := b } := fun a b => by rw [h.eq]
    exact hab _ _
  · show (Y.pss.set j _).length = _
    rw [List.length_set]; exact h.len
  · show (Y.pss.set j _).getD i [] = _
    by_cases e : j = i
    · subst e
      rw [getD_set_same (by rw [h.len]; exact hl), hk, h.no j hj]
    · rw [getD_set_other e]
      rcases hi with hi | hi
      · exact h.yes i hi
      · exact absurd hi.symm e
  · show (Y.pss.set j _).getD i [] = _
    rw [getD_set_other (fun e => hi (.inr e.symm))]
    exact h.no i fun hp => hi (.inl hp)
  · show (Y.vs.set j _).getD i undef = _
    rw [getD_set_other (fun e => hi (.inr e.symm))]
    exact h.vno i fun hp => hi (.inl hp)
theorem Swept.congr {Q : Nat → Prop} (h : Swept X Y P) (hq : ∀ j, P j ↔ Q j) : Swept X Y Q := ⟨h.eq, h.len, fun j hj => h.yes j ((hq j).2 hj), fun j hj => h.no j fun hp => hj ((hq j).1 hp), fun j hj => h.vno j fun hp => hj ((hq j).1 hp)⟩
/-- a pile whose header lies in the struct -/
theorem del_s {wd w3 : World} {d : Nat} {e : Ending} (hS : Sto wd base Y fo) (h : Swept X Y P) (hd : d < 2) (hp : ¬ P (2 * X.V + d)) (hn : X.pss.length = 2 * X.V + 2 + X.ks.length) (hD : DelGone base Y (2 * X.V + d) wd e w3) :
    ∃ (A3 : Option Addr) (c3 n : Nat), e = .returned (.slice A3 n c3) ∧ Blk w3 X.s 66 Y.head ∧ ∃ Y', Sto (w3.setCell ⟨X.s, 3 + d, none⟩ (.slice A3 n c3)) base Y' fo ∧ Swept X Y' (fun i => P i ∨ i = 2 * X.V + d) ∧ Tn base Y wd (w3.setCell ⟨X.s, 3 + d, none⟩ (.slice A3 n c3)) := by
  obtain ⟨A3, c3, rfl, h1, h2, h3⟩ := hD
  have hlen := h.len
  have hnum := hS.num.1
  have hV := h.V
  obtain ⟨Ai, ci, hvi, hoi⟩ := hS.pil.each (2 * X.V + d) (by omega)
  have hoi' : wd.ownsRow base 74 1 (Y.vs.getD (2 * X.V + d) undef) (Y.pss.getD (2 * X.V + d) []).length (ptrs7 (Y.pss.getD (2 * X.V + d) [])) := by rw [hvi]; exact hoi
  obtain ⟨p1, p2, _⟩ := hS.piled_s (wa := wd) (w3 := w3) (i := 2 * X.V + d) (d := d) hd (by rw [hV]) (Below.refl _ _) h1 h2 (.inl h3)
  rw [h.s] at p1 p2
  have hb := hS.st.grown h1 (own_blk_ne hoi' hS.st (by decide))
  rw [h.s] at hb
  exact ⟨A3, c3, _, rfl, hb, _, p1, h.step hp (by omega) _, p2⟩
/-- a pile whose header lies beside the others -/
theorem del_w {wd w3 : World} {k go : Nat} {e : Ending} (hS : Sto wd base Y fo) (h : Swept X Y P) (hk : k < 2 * X.V) (hgo : X.Aw = some ⟨go, 0, none⟩) (hp : ¬ P k) (hn : X.pss.length = 2 * X.V + 2 + X.ks.length) (hD : DelGone base Y k wd e w3) :
    ∃ (A3 : Option Addr) (c3 n : Nat), e = .returned (.slice A3 n c3) ∧ (∃ Z, Blk wd go 62 Z ∧ Blk w3 go 62 Z) ∧ Blk w3 X.s 66 Y.head ∧ ∃ Y', Sto (w3.setCell ⟨go, k, none⟩ (.slice A3 n c3)) base Y' fo ∧ Swept X Y' (fun i => P i ∨ i = k) ∧ Tn base Y wd (w3.setCell ⟨go, k, none⟩ (.slice A3 n c3)) := by
  obtain ⟨A3, c3, rfl, h1, h2, h3⟩ := hD
  have hlen := h.len
  have hnum := hS.num.1
  have hV := h.V
  obtain ⟨Ai, ci, hvi, hoi⟩ := hS.pil.each k (by omega)
  have hoi' : wd.ownsRow base 74 1 (Y.vs.getD k undef) (Y.pss.getD k []).length (ptrs7 (Y.pss.getD k [])) := by rw [hvi]; exact hoi
  have hA : Y.Aw = some ⟨go, 0, none⟩ := by rw [h.Aw.1]; exact hgo
  obtain ⟨p1, p2⟩ := hS.piled (wa := wd) (w3 := w3) (i := k) (go := go) (by rw [hV]; exact hk) hA (Below.refl _ _) h1 h2 (.inl h3)
  obtain ⟨Z, hZ⟩ := hS.outblk hA
  have hb := hS.st.grown h1 (own_blk_ne hoi' hS.st (by decide))
  rw [h.s] at hb
  exact ⟨A3, c3, _, rfl, ⟨Z, hZ, hZ.grown h1 (own_blk_ne hoi' hZ (by decide))⟩, hb, _, p1, h.step hp (by omega) _, p2⟩
theorem Sto.swept (h : Sto W base Y fo) : Sto (W.setCell ⟨Y.s, 2, none⟩ (.int .i64 0)) base { Y with ps := Y.live, ng := 0 } fo ∧ Tn base Y W (W.setCell ⟨Y.s, 2, none⟩ (.int .i64 0)) := by
  have far : ∀ q t Z, Blk W q t Z → t ≠ 66 → Blk (W.setCell ⟨Y.s, 2, none⟩ (.int .i64 0)) q t Z := fun q t Z hq h2 => hq.far (hq.ne_ h.st h2) _
  have row : ∀ (e : TypeId) (v : Value) (n : Nat) (xs : List Value), W.ownsRow base e 1 v n xs → e ≠ 66 → (W.setCell ⟨Y.s, 2, none⟩ (.int .i64 0)).ownsRow base e 1 v n xs := fun e v n xs ho h2 => own_setCell ho _ (own_blk_ne ho h.st h2)
  refine ⟨⟨?_, far _ _ _ h.fol (by decide), h.flen, row _ _ _ _ h.fnd (by decide), row _ _ _ _ h.out (by decide), h.pil.keep fun q Z hq => far _ _ _ hq (by decide), h.num, fun p hp => ?_, ?_, h.lo, h.vb⟩, ⟨(Below.refl _ _).setCell h.lo.1 _, fun q t Z hq h1 h2 h3 h4 h5 h6 => far q t Z hq h1⟩⟩
  · have := h.st.set_ 2 (.int .i64 0)
    exact this
  · obtain ⟨c1, c2, c3, c4⟩ := h.cl p (SX.mem_live.1 hp).1
    exact ⟨far _ _ _ c1 (by decide), c2, row _ _ _ _ c3 (by decide), c4⟩
  · obtain ⟨D, n, hm, h2⟩ := h.map
    exact ⟨D, n, hm.kept (grown_setCell W _ _) (fun e => blk_map_ne7 h.st hm (by simpa using e.symm)), h2⟩
theorem Swept.rest (h : Swept X Y (fun j => j < 2 * X.V + 2)) (hR : Rest7 W base X fo) (hS : Sto W' base { Y with ps := Y.live, ng := 0 } fo) : Rest7 W' base { Y with ps := Y.live, ng := 0 } fo ∧ ({ Y with ps := Y.live, ng := 0 } : SX).cs = X.cs := by
  have hlv : Y.live = X.live := by unfold SX.live; rw [h.ps, h.C]
  have hl2 : ({ Y with ps := Y.live, ng := 0 } : SX).live = X.live := by
    show (Y.live.filter fun p => !(Y.C p).gone) = X.live
    rw [hlv, h.C]
    unfold SX.live
    rw [List.filter_filter]
    simp
  have hmk : ∀ ps p, p ∈ keep7 X ps ↔ p ∈ ps ∧ (X.C p).gone = false := fun ps p => by simp [keep7]
  have hV := h.V
  have hC := h.C
  have hks : Y.ks = X.ks := by rw [h.eq]
  have hko : Y.ko = X.ko := by rw [h.eq]
  have htk : Y.tk = X.tk := by rw [h.eq]
  have had : Y.added = X.added := by rw [h.eq]
  have hfd : Y.fd = X.fd := by rw [h.eq]
  have hin : ∀ p, p ∈ Y.live → p ∈ X.ps ∧ (X.C p).gone = false := fun p hp => SX.mem_live.1 (by rw [← hlv]; exact hp)
  refine ⟨⟨hS, ⟨fun p hp => ?_, ?_, fun j hj => ?_⟩, ⟨?_, ?_, ?_, ?_, ?_⟩, hfd.trans hR.fd, ⟨fun p hp => ?_, fun p hp hg hl => ?_⟩, ⟨?_, ?_, ?_, fun p hp => ?_, ?_, fun p hp => ?_, fun i k hk => ?_, fun p hp => ?_, fun i hi => ?_⟩⟩, ?_⟩
  · show Clw Y.V (Y.C p)
    rw [hV, hC]; exact hR.wf.cl p (hin p hp).1
  · show Y.live.length ≤ _
    rw [hlv]
    exact Nat.le_trans (List.length_filter_le _ _) hR.wf.plen
  · have hj' : j < 2 * X.V := by have : j < 2 * Y.V := hj; rw [hV] at this; exact this
    show InPile _ (Y.pss.getD j []) j
    rw [h.yes j (by omega)]
    obtain ⟨q1, q2, q3⟩ := hR.wf.pile j hj'
    refine ⟨q1.filter _, fun p hp => ?_, fun p hp hg hw => ?_⟩
    · obtain ⟨a, b⟩ := (hmk _ p).1 hp
      obtain ⟨c, d⟩ := q2 p a
      refine ⟨?_, ?_⟩
      · show p ∈ Y.live
        rw [hlv]; exact SX.mem_live.2 ⟨c, b⟩
      · show Waits (Y.C p) j
        rw [hC]; exact d
    · obtain ⟨a, b⟩ := hin p hp
      have hw' : Waits (Y.C p) j := hw
      rw [hC] at hw'
      exact (hmk _ p).2 ⟨q3 p a b hw', b⟩
  · show fo.length = 2 * Y.V
    rw [hV]; exact hR.fw.flen
  · show ∀ l, Lt7 Y.V l → (fo.getD (ix l) false = true ↔ l ∈ Y.fd)
    rw [hV, hfd]; exact hR.fw.tie
  · show Y.fd.Nodup
    rw [hfd]; exact hR.fw.nd
  · show ∀ l, l ∈ Y.fd → Lt7 Y.V l
    rw [hV, hfd]; exact hR.fw.lt
  · show ∀ l, l ∈ Y.fd → -l ∉ Y.fd
    rw [hfd]; exact hR.fw.con
  · have hp' : p ∈ Y.pss.getD (2 * Y.V + 1) [] := hp
    rw [hV, h.yes _ (by omega)] at hp'
    obtain ⟨a, b⟩ := (hmk _ p).1 hp'
    obtain ⟨c, d⟩ := hR.short.1 p a
    refine ⟨?_, ?_⟩
    · show p ∈ Y.live
      rw [hlv]; exact SX.mem_live.2 ⟨c, b⟩
    · show (Y.C p).lits.length < 2
      rw [hC]; exact d
  · obtain ⟨a, b⟩ := hin p hp
    have hl' : (Y.C p).lits.length < 2 := hl
    rw [hC] at hl'
    show p ∈ Y.pss.getD (2 * Y.V + 1) []
    rw [hV, h.yes _ (by omega)]
    exact (hmk _ p).2 ⟨hR.short.2 p a b hl', b⟩
  · show (Y.pss.getD (2 * Y.V + 1) []).Nodup
    rw [hV, h.yes _ (by omega)]; exact hR.shelf.shnd.filter _
  · show Y.pss.getD (2 * Y.V) [] = Y.live
    rw [hV, h.yes _ (by omega), hR.shelf.all, hlv]; rfl
  · show Y.live.Pairwise fun p q => (Y.C p).num < (Y.C q).num
    rw [hlv, hC]; exact hR.shelf.nums.filter _
  · show (Y.C p).num < Y.added
    rw [hC, had]; exact hR.shelf.numlt p (hin p hp).1
  · show 0 + ({ Y with ps := Y.live, ng := 0 } : SX).live.length = Y.live.length
    rw [hl2, hlv]; omega
  · show Rising (Y.C p).lits
    rw [hC]; exact hR.shelf.norm p (hin p hp).1
  · have hk' : Y.ks[i]? = some k := hk
    rw [hks] at hk'
    rw [hl2]
    show (Y.pss.getD (2 * Y.V + 2 + i) []).drop (Y.ko i) = (X.live.filter fun p => decide (keyOf (Y.C p).lits = k)) ∧ Y.ko i ≤ (Y.pss.getD (2 * Y.V + 2 + i) []).length
    rw [hV, h.no _ (by omega), hko, hC]
    exact hR.shelf.keys i k hk'
  · rw [hl2] at hp
    show keyOf (Y.C p).lits ∈ Y.ks
    rw [hC, hks]; exact hR.shelf.keyed p hp
  · have hi' : i < Y.ks.length := hi
    rw [hks] at hi'
    show (Y.pss.getD (2 * Y.V + 2 + i) []).length ≤ Y.tk
    rw [hV, h.no _ (by omega), htk]
    exact hR.shelf.klen i hi'
  · unfold SX.cs
    rw [hl2]
    show X.live.map (fun p => (Y.C p).lits) = _
    rw [hC]
end
end Go.Proofs.YtbjccfdmedbkjaaDoor
