/- What turns a trail: a literal put there. What turns a trail: Put, Decide, SetPhase; New. -/
import Derived.Test.YtbejjddkndcldaaTrlA
import Derived.Test.YtbejjddkndcldaaOwnRows
import Derived.Deep.RegionHeld3
import Derived.Deep.RegionLawGrows
import Derived.Deep.RegionLaw
import Derived.Laws.OwnMore
import Derived.Deep.DeepCutAuto
import Derived.Deep.OwnRows
namespace Go.Proofs.Ytbejjddkndcldaa
open Go.RowKit
set_option linter.unusedVariables false
set_option linter.unusedSimpArgs false

/-- blocks of other types than these, and other than P, stay; so does all below base -/
structure Tn (ts : List TypeId) (base P : Nat) (w w' : World) : Prop where
  low : Below base w w'
  keep : ∀ q o, w.heap[q]? = some o → q ≠ P → (∀ cs t z, o = Obj.cells cs t z → t ∉ ts) → w'.heap[q]? = some o
section
variable {ts : List TypeId} {base P : Nat} {w w' w'' : World}
theorem Tn.refl (w : World) : Tn ts base P w w := ⟨Below.refl _ _, fun _ _ h _ _ => h⟩
theorem Tn.trans (h : Tn ts base P w w') (h' : Tn ts base P w' w'') : Tn ts base P w w'' := ⟨h.low.trans h'.low, fun q o hq h1 h2 => h'.keep q o (h.keep q o hq h1 h2) h1 h2⟩
theorem Tn.of_below (h : Below w.heap.size w w') (hB : base ≤ w.heap.size) : Tn ts base P w w' := ⟨h.mono hB, fun q o hq _ _ => (h.block q (Array.getElem?_eq_some_iff.1 hq).1).trans hq⟩
theorem Tn.mono {ts' : List TypeId} (h : Tn ts base P w w') (hs : ∀ t, t ∈ ts → t ∈ ts') : Tn ts' base P w w' := ⟨h.low, fun q o hq h1 h2 => h.keep q o hq h1 fun cs t z e hm => h2 cs t z e (hs t hm)⟩
theorem Tn.drewE (h : Tn ts base P w w') (hd : ∃ m, w'' = w'.drewN m) : Tn ts base P w w'' := by
  obtain ⟨m, rfl⟩ := hd
  exact ⟨below_drewN h.low m, h.keep⟩
theorem Tn.drew (h : Tn ts base P w w') : Tn ts base P w w'.drew := h.drewE ⟨1, rfl⟩
theorem Tn.set (h : Tn ts base P w w') {q : Nat} {ty : TypeId} {X : Array Value} (hq : Blk w' q ty X) (ht : ty ∈ ts ∨ q = P) (hb : base ≤ q) (i : Nat) (v : Value) : Tn ts base P w (w'.setCell ⟨q, i, none⟩ v) := by
  refine h.trans ⟨(Below.refl _ _).setCell hb _, fun q' o hq' h1 h2 => ?_⟩
  by_cases e : q' = q
  · subst e
    unfold Blk at hq
    rw [hq] at hq'
    injection hq' with hq'
    rcases ht with ht | ht
    · exact absurd ht (h2 _ _ _ hq'.symm)
    · exact absurd ht h1
  · exact (Below.heap_setCell w' _ v q' e).trans hq'
theorem Tn.grown (h : Tn ts base P w w') {n : Nat} {ty : TypeId} {v : Value} {xs : List Value} (ho : w'.ownsRow base ty 1 v n xs) (ht : ty ∈ ts) (hg : w'.grownBy w'' v.ownBlock) (hB : base ≤ w'.heap.size) : Tn ts base P w w'' := by
  refine h.trans ⟨(Below.refl base w').grown hg hB (fun q hq => (ho.lt q hq).1), fun q o hq h1 h2 => ?_⟩
  refine (hg.block q (Array.getElem?_eq_some_iff.1 hq).1 fun e => ?_).trans hq
  rcases ho.2 with ⟨rfl, _⟩ | ⟨g', cap, cur, rfl, _, hh, _⟩
  · simp [Value.ownBlock] at e
  · have : q = g' := by simpa [Value.ownBlock] using e
    subst this
    rw [hh] at hq
    injection hq with hq
    exact h2 _ _ _ hq.symm ht
theorem Tn.blk (h : Tn ts base P w w') {q : Nat} {ty : TypeId} {X : Array Value} (hq : Blk w q ty X) (h1 : ty ∉ ts) (h2 : q ≠ P) : Blk w' q ty X := h.keep q _ hq h2 fun _ _ _ e => by injection e with _ e; exact e ▸ h1
end

theorem infoI12 : (Try.prog.info? 3).map (fun i => (i.zero, i.size, i.bytes)) = some (some (.int .i64 0), 1, 8) := by kernel_rfl

theorem find_snoc {rs : List Rec} {l : Int} (r : Rec) : find (rs ++ [r]) l = (match find rs l with | some x => some x | none => if r.of l then some (rs.length, r) else none) := by
  unfold find
  rw [findAt_append]
  simp only [findAt, Nat.zero_add]
  cases findAt 0 rs l <;> rfl
theorem valT_snoc_other {rs : List Rec} {r : Rec} {l : Int} (h : r.l.natAbs ≠ l.natAbs) : valT (rs ++ [r]) l = valT rs l := by
  have : ¬ r.of l := by rw [Rec.of_abs]; exact h
  unfold valT
  rw [find_snoc, if_neg this]
  cases find rs l <;> rfl
theorem valT_snoc_same {rs : List Rec} {r : Rec} {l : Int} (h : r.l.natAbs = l.natAbs) (hn : find rs l = none) : valT (rs ++ [r]) l = if r.l = l then 1 else -1 := by
  have : r.of l := by rw [Rec.of_abs]; exact h
  unfold valT
  rw [find_snoc, if_pos this, hn]
theorem find_abs {rs : List Rec} {l m : Int} (h : l.natAbs = m.natAbs) : find rs l = find rs m := by
  rcases (by omega : l = m ∨ l = -m) with e | e
  · rw [e]
  · rw [e, find_neg]

/-- the values but one -/
def ValsAt (w : World) (V n k : Nat) (u : Value) (rs : List Rec) : Prop := ∃ cs, Blk w V 100 cs ∧ cs.size = n ∧ (∀ j, j < n → j ≠ k → cs[j]? = some (.int .i8 (valT rs ((j : Int) + 1)))) ∧ cs[k]? = some u
section
variable {w : World} {V S n k : Nat} {u : Value} {rs : List Rec}
theorem Vals.but (h : Vals w V n rs) (hk : k < n) : ValsAt w V n k (.int .i8 (valT rs ((k : Int) + 1))) rs := by
  obtain ⟨cs, h1, h2, h3⟩ := h
  exact ⟨cs, h1, h2, fun j hj _ => h3 j hj, h3 k hk⟩
theorem ValsAt.set (h : ValsAt w V n k u rs) (hk : k < n) (v : Value) : ValsAt (w.setCell ⟨V, k, none⟩ v) V n k v rs := by
  obtain ⟨cs, h1, h2, h3, h4⟩ := h
  refine ⟨cs.setIfInBounds k v, h1.set_ k v, by simpa using h2, fun j hj hne => ?_, ?_⟩
  · rw [Array.getElem?_setIfInBounds_ne (Ne.symm hne)]; exact h3 j hj hne
  · rw [Array.getElem?_setIfInBounds_self, if_pos (by omega)]
theorem ValsAt.keep {w' : World} (h : ValsAt w V n k u rs) (hk : ∀ X, Blk w V 100 X → Blk w' V 100 X) : ValsAt w' V n k u rs := by
  obtain ⟨cs, h1, h2⟩ := h
  exact ⟨cs, hk _ h1, h2⟩
theorem ValsAt.snoc (h : ValsAt w V n k u rs) (hk : k < n) {l : Int} (hl : l.natAbs = k + 1) (hn : find rs l = none) (hu : u = .int .i8 (if 0 < l then 1 else -1)) (lev : Nat) (why : Int) : Vals w V n (rs ++ [⟨l, lev, why⟩]) := by
  obtain ⟨cs, h1, h2, h3, h4⟩ := h
  refine ⟨cs, h1, h2, fun j hj => ?_⟩
  by_cases e : j = k
  · subst e
    rw [h4, hu, valT_snoc_same (by show l.natAbs = _; omega) (by rw [find_abs (m := l) (by omega)]; exact hn)]
    show _ = some (Value.int .i8 (if l = (j : Int) + 1 then 1 else -1))
    by_cases hp : 0 < l
    · rw [if_pos hp, if_pos (by omega)]
    · rw [if_neg hp, if_neg (by omega)]
  · rw [h3 j hj e, valT_snoc_other (by show l.natAbs ≠ _; omega)]
theorem Vals.keep {w' : World} (h : Vals w V n rs) (hk : ∀ X, Blk w V 100 X → Blk w' V 100 X) : Vals w' V n rs := by
  obtain ⟨cs, h1, h2⟩ := h
  exact ⟨cs, hk _ h1, h2⟩
theorem Spots.keep {w' : World} (h : Spots w S n rs) (hk : ∀ X, Blk w S 102 X → Blk w' S 102 X) : Spots w' S n rs := by
  obtain ⟨cs, h1, h2⟩ := h
  exact ⟨cs, hk _ h1, h2⟩
theorem Spots.snoc (h : Spots w S n rs) (hk : k < n) {l : Int} (hl : l.natAbs = k + 1) (hn : find rs l = none) (h0 : ∀ r ∈ rs, r.l ≠ 0) (lev : Nat) (why : Int) : Spots (((w.setCell ⟨S, k * 3, none⟩ (.int .i64 (rs.length : Nat))).setCell ⟨S, k * 3 + 1, none⟩ (.int .i64 (lev : Nat))).setCell ⟨S, k * 3 + 2, none⟩ (.int .i64 why)) S n (rs ++ [⟨l, lev, why⟩]) := by
  obtain ⟨cs, h1, h2, h3⟩ := h
  refine ⟨_, ((h1.set_ _ _).set_ _ _).set_ _ _, by simpa using h2, fun i r hr => ?_⟩
  rcases Nat.lt_or_ge i rs.length with hi | hi
  · rw [List.getElem?_append_left hi] at hr
    have hne := find_none.1 hn r (List.mem_of_getElem? hr)
    rw [Rec.of_abs] at hne
    have := h0 r (List.mem_of_getElem? hr)
    obtain ⟨q0, q1, q2⟩ := h3 i r hr
    have hx : r.l.natAbs - 1 ≠ k := by omega
    refine ⟨?_, ?_, ?_⟩
    · rw [Array.getElem?_setIfInBounds_ne (by omega), Array.getElem?_setIfInBounds_ne (by omega), Array.getElem?_setIfInBounds_ne (by omega)]; exact q0
    · rw [Array.getElem?_setIfInBounds_ne (by omega), Array.getElem?_setIfInBounds_ne (by omega), Array.getElem?_setIfInBounds_ne (by omega)]; exact q1
    · rw [Array.getElem?_setIfInBounds_ne (by omega), Array.getElem?_setIfInBounds_ne (by omega), Array.getElem?_setIfInBounds_ne (by omega)]; exact q2
  · rw [List.getElem?_append_right hi] at hr
    obtain ⟨hz, e⟩ := List.getElem?_eq_some_iff.1 hr
    simp at hz e
    subst e
    have hi2 : i = rs.length := by omega
    subst hi2
    show _ ∧ _ ∧ _
    simp only [hl, Nat.add_sub_cancel]
    refine ⟨?_, ?_, ?_⟩
    · rw [Array.getElem?_setIfInBounds_ne (by omega), Array.getElem?_setIfInBounds_ne (by omega), Array.getElem?_setIfInBounds_self, if_pos (by omega)]
    · rw [Array.getElem?_setIfInBounds_ne (by omega), Array.getElem?_setIfInBounds_self, if_pos (by simp; omega)]
    · rw [Array.getElem?_setIfInBounds_self, if_pos (by simp; omega)]
end

/-- how things stand ahead of the append -/
structure TMid (w W : World) (base g P V S : Nat) (A D : Option Addr) (c d : Nat) (t : TS) (l rs : Int) : Prop where
  hd : Blk W g 97 #[.slice A t.recs.length c, .slice D t.starts.length d, .slice (some ⟨V, 0, none⟩) t.ph.length t.ph.length, .slice (some ⟨S, 0, none⟩) t.ph.length t.ph.length, .slice (some ⟨P, 0, none⟩) t.ph.length t.ph.length]
  rl : W.ownsRow base 3 1 (.slice A t.recs.length c) t.recs.length (litsV t.recs)
  rd : W.ownsRow base 3 1 (.slice D t.starts.length d) t.starts.length (startsV t.starts)
  vals : Vals W V t.ph.length (t.push l rs).recs
  spots : Spots W S t.ph.length (t.push l rs).recs
  phs : BlkB W P 4 (t.push l rs).ph
  tn : Tn [3, 100, 102, 97] base P w W
/-- in the midst of it -/
structure Pm (w W : World) (base g P V S k : Nat) (A D : Option Addr) (c d : Nat) (t : TS) (u : Value) (rs' : List Rec) (ph' : List Bool) : Prop where
  hd : Blk W g 97 #[.slice A t.recs.length c, .slice D t.starts.length d, .slice (some ⟨V, 0, none⟩) t.ph.length t.ph.length, .slice (some ⟨S, 0, none⟩) t.ph.length t.ph.length, .slice (some ⟨P, 0, none⟩) t.ph.length t.ph.length]
  rl : W.ownsRow base 3 1 (.slice A t.recs.length c) t.recs.length (litsV t.recs)
  rd : W.ownsRow base 3 1 (.slice D t.starts.length d) t.starts.length (startsV t.starts)
  vals : ValsAt W V t.ph.length k u t.recs
  spots : Spots W S t.ph.length rs'
  phs : BlkB W P 4 ph'
  tn : Tn [3, 100, 102, 97] base P w W
section
variable {w W : World} {base g P V S k : Nat} {A D : Option Addr} {c d : Nat} {t : TS} {u : Value} {rs' : List Rec} {ph' : List Bool}
theorem Pm.ne (h : Pm w W base g P V S k A D c d t u rs' ph') : g ≠ S ∧ g ≠ V ∧ g ≠ P ∧ V ≠ S ∧ V ≠ P ∧ S ≠ P := by
  obtain ⟨b1, b2, b3, ⟨cv, v1, v2⟩, ⟨cp, s1, s2, s3⟩, b6, b7⟩ := h
  exact ⟨b1.ne_ s1 (by decide), b1.ne_ v1 (by decide), b1.ne_ b6 (by decide), v1.ne_ s1 (by decide), v1.ne_ b6 (by decide), s1.ne_ b6 (by decide)⟩
theorem Pm.far (h : Pm w W base g P V S k A D c d t u rs' ph') : (∀ {n : Nat} {v : Value} {xs : List Value}, W.ownsRow base 3 1 v n xs → some S ≠ v.ownBlock ∧ some V ≠ v.ownBlock ∧ some P ≠ v.ownBlock) := fun ho => by
  obtain ⟨b1, b2, b3, ⟨cv, v1, v2⟩, ⟨cp, s1, s2, s3⟩, b6, b7⟩ := h
  exact ⟨own_blk_ne ho s1 (by decide), own_blk_ne ho v1 (by decide), own_blk_ne ho b6 (by decide)⟩
theorem Pm.putV (h : Pm w W base g P V S k A D c d t u rs' ph') (hk : k < t.ph.length) (hV : base ≤ V) (v : Value) : Pm w (W.setCell ⟨V, k, none⟩ v) base g P V S k A D c d t v rs' ph' := by
  obtain ⟨n1, n2, n3, n4, n5, n6⟩ := h.ne
  have f1 := (h.far h.rl).2.1
  have f2 := (h.far h.rd).2.1
  obtain ⟨cv, v1, v2⟩ := id h.vals
  exact ⟨h.hd.far n2 _, own_setCell h.rl _ f1, own_setCell h.rd _ f2, h.vals.set hk v, h.spots.keep fun X hX => hX.far (Ne.symm n4) _, Blk.far h.phs (Ne.symm n5) _, h.tn.set v1 (.inl (by simp)) hV _ _⟩
theorem Pm.putP (h : Pm w W base g P V S k A D c d t u rs' ph') (hP : base ≤ P) (b : Bool) : Pm w (W.setCell ⟨P, k, none⟩ (.bool b)) base g P V S k A D c d t u rs' (ph'.set k b) := by
  obtain ⟨n1, n2, n3, n4, n5, n6⟩ := h.ne
  have f1 := (h.far h.rl).2.2
  have f2 := (h.far h.rd).2.2
  exact ⟨h.hd.far n3 _, own_setCell h.rl _ f1, own_setCell h.rd _ f2, h.vals.keep fun X hX => hX.far n5 _, h.spots.keep fun X hX => hX.far n6 _, BlkB.set_ h.phs k b, h.tn.set h.phs (.inr rfl) hP _ _⟩
end
theorem Pm.start {w : World} {base g P V S k : Nat} {A D : Option Addr} {c d : Nat} {t : TS} {l rs : Int} (b1 : Blk w g 97 #[.slice A t.recs.length c, .slice D t.starts.length d, .slice (some ⟨V, 0, none⟩) t.ph.length t.ph.length, .slice (some ⟨S, 0, none⟩) t.ph.length t.ph.length, .slice (some ⟨P, 0, none⟩) t.ph.length t.ph.length])
    (b2 : w.ownsRow base 3 1 (.slice A t.recs.length c) t.recs.length (litsV t.recs)) (b3 : w.ownsRow base 3 1 (.slice D t.starts.length d) t.starts.length (startsV t.starts)) (b4 : Vals w V t.ph.length t.recs) (b5 : Spots w S t.ph.length t.recs) (b6 : BlkB w P 4 t.ph)
    (hS : base ≤ S) (hk : k < t.ph.length) (hl : l.natAbs = k + 1) (hn : find t.recs l = none) (h0 : ∀ r ∈ t.recs, r.l ≠ 0) :
    ∃ u, Pm w ((((w.setCell ⟨S, k * 3, none⟩ (.int .i64 (t.recs.length : Nat))).setCell ⟨S, k * 3 + 1, none⟩ (.int .i64 (t.starts.length : Nat))).setCell ⟨S, k * 3 + 2, none⟩ (.int .i64 rs)).drew) base g P V S k A D c d t u (t.push l rs).recs t.ph := by
  obtain ⟨cv, v1, v2⟩ := id b4
  obtain ⟨cp, s1, s2, s3⟩ := id b5
  have gS : g ≠ S := b1.ne_ s1 (by decide)
  have VS : V ≠ S := v1.ne_ s1 (by decide)
  have SP : S ≠ P := s1.ne_ b6 (by decide)
  have hsp := b5.snoc hk hl hn h0 t.starts.length rs
  have oS := fun {n : Nat} {v : Value} {xs : List Value} (ho : w.ownsRow base 3 1 v n xs) => own_blk_ne ho s1 (by decide)
  have t1 := (Tn.refl (ts := [3, 100, 102, 97]) (base := base) (P := P) w).set s1 (.inl (by simp)) hS (k * 3) (.int .i64 (t.recs.length : Nat))
  have r1 := own_setCell b2 (p := ⟨S, k * 3, none⟩) (.int .i64 (t.recs.length : Nat)) (oS b2)
  have q1 := own_setCell b3 (p := ⟨S, k * 3, none⟩) (.int .i64 (t.recs.length : Nat)) (oS b3)
  have g1 := b1.far (p := ⟨S, k * 3, none⟩) gS (.int .i64 (t.recs.length : Nat))
  have p1 := Blk.far b6 (p := ⟨S, k * 3, none⟩) (Ne.symm SP) (.int .i64 (t.recs.length : Nat))
  have m1 := (b4.but hk).keep (w' := w.setCell ⟨S, k * 3, none⟩ (.int .i64 (t.recs.length : Nat))) fun X hX => hX.far VS _
  have s1 := s1.set_ (k * 3) (.int .i64 (t.recs.length : Nat))
  obtain ⟨wa, hwa⟩ : ∃ wa, wa = w.setCell ⟨S, k * 3, none⟩ (.int .i64 (t.recs.length : Nat)) := ⟨_, rfl⟩
  rw [← hwa] at hsp t1 r1 q1 g1 p1 m1 s1
  rw [← hwa]
  have t2 := t1.set s1 (.inl (by simp)) hS (k * 3 + 1) (.int .i64 (t.starts.length : Nat))
  have r2 := own_setCell r1 (p := ⟨S, k * 3 + 1, none⟩) (.int .i64 (t.starts.length : Nat)) (own_blk_ne r1 s1 (by decide))
  have q2 := own_setCell q1 (p := ⟨S, k * 3 + 1, none⟩) (.int .i64 (t.starts.length : Nat)) (own_blk_ne q1 s1 (by decide))
  have g2 := g1.far (p := ⟨S, k * 3 + 1, none⟩) gS (.int .i64 (t.starts.length : Nat))
  have p2 := Blk.far p1 (p := ⟨S, k * 3 + 1, none⟩) (Ne.symm SP) (.int .i64 (t.starts.length : Nat))
  have m2 := m1.keep (w' := wa.setCell ⟨S, k * 3 + 1, none⟩ (.int .i64 (t.starts.length : Nat))) fun X hX => hX.far VS _
  have s2 := s1.set_ (k * 3 + 1) (.int .i64 (t.starts.length : Nat))
  obtain ⟨wb, hwb⟩ : ∃ wb, wb = wa.setCell ⟨S, k * 3 + 1, none⟩ (.int .i64 (t.starts.length : Nat)) := ⟨_, rfl⟩
  rw [← hwb] at hsp t2 r2 q2 g2 p2 m2 s2
  rw [← hwb]
  exact ⟨_, (g2.far gS _).drew_, own_setCell r2 _ (own_blk_ne r2 s2 (by decide)), own_setCell q2 _ (own_blk_ne q2 s2 (by decide)), (m2.keep (w' := wb.setCell ⟨S, k * 3 + 2, none⟩ (.int .i64 rs)) fun X hX => hX.far VS _).keep fun X hX => hX.drew_, hsp.keep fun X hX => hX.drew_, Blk.drew_ (Blk.far p2 (Ne.symm SP) _), (t2.set s2 (.inl (by simp)) hS _ _).drew⟩
theorem Pm.mid {w W : World} {base g P V S k : Nat} {A D : Option Addr} {c d : Nat} {t : TS} {l rs : Int} (h : Pm w W base g P V S k A D c d t (.int .i8 (if 0 < l then 1 else -1)) (t.push l rs).recs (t.push l rs).ph) (hk : k < t.ph.length) (hl : l.natAbs = k + 1) (hn : find t.recs l = none) : TMid w W base g P V S A D c d t l rs :=
  ⟨h.hd, h.rl, h.rd, h.vals.snoc hk hl hn rfl _ _, h.spots, h.phs, h.tn⟩
theorem TMid.make {w : World} {base g P V S k : Nat} {A D : Option Addr} {c d : Nat} {t : TS} {l rs : Int} (b1 : Blk w g 97 #[.slice A t.recs.length c, .slice D t.starts.length d, .slice (some ⟨V, 0, none⟩) t.ph.length t.ph.length, .slice (some ⟨S, 0, none⟩) t.ph.length t.ph.length, .slice (some ⟨P, 0, none⟩) t.ph.length t.ph.length])
    (b2 : w.ownsRow base 3 1 (.slice A t.recs.length c) t.recs.length (litsV t.recs)) (b3 : w.ownsRow base 3 1 (.slice D t.starts.length d) t.starts.length (startsV t.starts)) (b4 : Vals w V t.ph.length t.recs) (b5 : Spots w S t.ph.length t.recs) (b6 : BlkB w P 4 t.ph)
    (hV : base ≤ V) (hS : base ≤ S) (hP : base ≤ P) (hk : k < t.ph.length) (hl : l.natAbs = k + 1) (hn : find t.recs l = none) (h0 : ∀ r ∈ t.recs, r.l ≠ 0) :
    ∃ W1, W1 = (((w.setCell ⟨S, k * 3, none⟩ (.int .i64 (t.recs.length : Nat))).setCell ⟨S, k * 3 + 1, none⟩ (.int .i64 (t.starts.length : Nat))).setCell ⟨S, k * 3 + 2, none⟩ (.int .i64 rs)).drew ∧
      (0 < l → TMid w (((W1.setCell ⟨V, k, none⟩ (.int .i8 (-1))).setCell ⟨V, k, none⟩ (.int .i8 1)).setCell ⟨P, k, none⟩ (.bool true)) base g P V S A D c d t l rs) ∧
      (¬ 0 < l → TMid w ((W1.setCell ⟨V, k, none⟩ (.int .i8 (-1))).setCell ⟨P, k, none⟩ (.bool false)) base g P V S A D c d t l rs) := by
  obtain ⟨u, hs⟩ := Pm.start (rs := rs) b1 b2 b3 b4 b5 b6 hS hk hl hn h0
  refine ⟨_, rfl, fun hp => ?_, fun hp => ?_⟩
  · have h1 := ((hs.putV hk hV (.int .i8 (-1))).putV hk hV (.int .i8 1)).putP hP true
    refine Pm.mid ?_ hk hl hn
    rw [if_pos hp]
    have e : (t.push l rs).ph = t.ph.set k true := by simp [TS.push, hl, hp]
    rw [e]
    exact h1
  · have h1 := (hs.putV hk hV (.int .i8 (-1))).putP hP false
    refine Pm.mid ?_ hk hl hn
    rw [if_neg hp]
    have e : (t.push l rs).ph = t.ph.set k false := by simp [TS.push, hl, hp]
    rw [e]
    exact h1

/-- behind the append -/
theorem TMid.done {w W W9 : World} {base g P V S : Nat} {A D : Option Addr} {c d : Nat} {t : TS} {l rs : Int} {v' : Value} {b : Value} (h : TMid w W base g P V S A D c d t l rs) (hB : base ≤ W.heap.size) (hV : base ≤ V) (hS : base ≤ S) (hP : base ≤ P) (hg : base ≤ g) (hne : ∀ q, (Value.slice A t.recs.length c).ownBlock = some q → (Value.slice D t.starts.length d).ownBlock = some q → False)
    (ho : W9.ownsRow base 3 1 v' (t.recs.length + 1) (litsV t.recs ++ [.int .i64 l])) (hgr : (W.alloc (.cells #[.int .i64 l] 3)).grownBy W9 (Value.slice A t.recs.length c).ownBlock) (hv : v'.ownBlock = (Value.slice A t.recs.length c).ownBlock ∨ v'.ownBlock = some (W.alloc (.cells #[.int .i64 l] 3)).heap.size) :
    TrM (W9.setCell ⟨g, 0, none⟩ v') base g P (t.push l rs) ∧ Tn [3, 100, 102, 97] base P w (W9.setCell ⟨g, 0, none⟩ v') := by
  obtain ⟨WA, hWA⟩ : ∃ WA, WA = W.alloc (.cells #[.int .i64 l] 3) := ⟨_, rfl⟩
  have hsz : WA.heap.size = W.heap.size + 1 := by rw [hWA]; simp
  rw [← hWA] at hgr hv
  have bA : Below W.heap.size W WA := by rw [hWA]; exact (Below.refl _ _).alloc (Nat.le_refl _) _
  have rlA := own_below h.rl bA fun q hq => (h.rl.lt q hq).2
  have rdA := own_below h.rd bA fun q hq => (h.rd.lt q hq).2
  have K : ∀ {q : Nat} {ty : TypeId} {X : Array Value}, Blk W q ty X → ty ≠ 3 → Blk W9 q ty X := fun hq hne => (hq.below bA hq.lt).grown hgr (own_blk_ne rlA (hq.below bA hq.lt) (Ne.symm hne))
  have hg9 := K h.hd (by decide)
  have K2 : ∀ {q : Nat} {ty : TypeId} {X : Array Value} (v : Value), Blk W9 q ty X → ty ≠ 97 → Blk (W9.setCell ⟨g, 0, none⟩ v) q ty X := fun v hq hne => hq.far (hq.ne_ hg9 hne) v
  have rd9 : W9.ownsRow base 3 1 (.slice D t.starts.length d) t.starts.length (startsV t.starts) := rdA.kept hgr (by
    rcases hq : (Value.slice D t.starts.length d).ownBlock with _ | q
    · exact .inl rfl
    · exact .inr fun e => hne q e.symm hq)
  obtain ⟨A', c', rfl, _⟩ := own_slice ho
  have epl : (t.push l rs).ph.length = t.ph.length := by simp [TS.push]
  refine ⟨⟨⟨V, S, A', D, c', d, ?_, ?_, ?_, ?_, epl ▸ h.vals.keep fun X hX => K2 _ (K hX (by decide)) (by decide), epl ▸ h.spots.keep fun X hX => K2 _ (K hX (by decide)) (by decide), hV, hS⟩, K2 _ (K h.phs (by decide)) (by decide), hg, hP⟩, ?_⟩
  · have := hg9.set_ 0 (.slice A' (t.recs.length + 1) c')
    simpa [TS.push] using this
  · have := own_setCell ho (p := ⟨g, 0, none⟩) (.slice A' (t.recs.length + 1) c') (own_blk_ne ho hg9 (by decide))
    simpa [TS.push, litsV] using this
  · exact own_setCell rd9 (p := ⟨g, 0, none⟩) _ (own_blk_ne rd9 hg9 (by decide))
  · intro q h1 h2
    simp only [TS.push, List.length_append, List.length_singleton] at h1
    rcases hv with e | e
    · rw [h1] at e
      exact hne q e.symm h2
    · rw [h1] at e
      injection e with e
      have := (rdA.lt q h2).2
      omega
  · exact (((h.tn.trans (Tn.of_below bA hB)).grown rlA (by simp) hgr (by omega))).set hg9 (.inl (by simp)) hg _ _

theorem TMid.hd9 {w W W9 : World} {base g P V S : Nat} {A D : Option Addr} {c d : Nat} {t : TS} {l rs : Int} (h : TMid w W base g P V S A D c d t l rs) (hgr : (W.alloc (.cells #[.int .i64 l] 3)).grownBy W9 (Value.slice A t.recs.length c).ownBlock) :
    Blk W9 g 97 #[.slice A t.recs.length c, .slice D t.starts.length d, .slice (some ⟨V, 0, none⟩) t.ph.length t.ph.length, .slice (some ⟨S, 0, none⟩) t.ph.length t.ph.length, .slice (some ⟨P, 0, none⟩) t.ph.length t.ph.length] :=
  (h.hd.alloc (.cells #[.int .i64 l] 3)).grown hgr (own_blk_ne (own_below h.rl ((Below.refl _ _).alloc (Nat.le_refl _) (.cells #[.int .i64 l] 3)) fun q hq => (h.rl.lt q hq).2) (h.hd.alloc (.cells #[.int .i64 l] 3)) (by decide))

set_option maxHeartbeats 2000000 in
theorem push_any {w : World} {base g P : Nat} {t : TS} (h : TrM w base g P t) (hB : base ≤ w.heap.size) (l rs : Int) (hl : l ≠ 0 ∧ l.natAbs ≤ t.ph.length) (hn : find t.recs l = none) (hz : ∀ r ∈ t.recs, r.l ≠ 0) (h1 : t.ph.length ≤ 100000) (h2 : t.recs.length ≤ 100000) :
    Calls Try.prog 66 #[.pointer (some ⟨g, 0, none⟩), .int .i64 l, .int .i64 rs] w fun e w' => e = .returned (.tuple #[]) ∧ TrM w' base g P (t.push l rs) ∧ Tn [3, 100, 102, 97] base P w w' := by
  obtain ⟨V, S, A, D, c, d, b1, b2, b3, b4, hvals, hspots, b8, b9⟩ := h.ex
  obtain ⟨cv, b5, b6, b7⟩ := id hvals
  obtain ⟨cp, s5, s6, s7⟩ := id hspots
  have hph := h.phs
  have c0 := b1.cell 0
  have c1 := b1.cell 1
  have c2 := b1.cell 2
  have c3 := b1.cell 3
  have c4 := b1.cell 4
  have f0 := b1.frozen 0
  simp at c0 c1 c2 c3 c4
  have HL := Lib.hid (fun w => var_any l w (by omega) (by omega))
  obtain ⟨k, hk⟩ : ∃ k : Nat, litVar l = (k : Int) + 1 := ⟨l.natAbs - 1, by unfold litVar; split <;> omega⟩
  have hk2 : l.natAbs = k + 1 := by unfold litVar at hk; split at hk <;> omega
  rw [hk] at HL
  have hkn : k < t.ph.length := by omega
  obtain ⟨W1, hW1, M1, M2⟩ := TMid.make (rs := rs) b1 b2 b3 hvals hspots hph b8 b9 h.hP hkn hk2 hn hz
  have gS : g ≠ S := b1.ne_ s5 (by decide)
  have gV : g ≠ V := b1.ne_ b5 (by decide)
  have gP : g ≠ P := b1.ne_ hph (by decide)
  have VS : V ≠ S := b5.ne_ s5 (by decide)
  have VP : V ≠ P := b5.ne_ hph (by decide)
  have SP : S ≠ P := s5.ne_ hph (by decide)
  have v0 := (b5.cell k).trans (b7 k hkn)
  have p0 := hph.cell hkn
  obtain ⟨x0, e0⟩ : ∃ x, w.cell? ⟨S, k * 3, none⟩ = some x := by rw [s5.cell]; exact ⟨_, Array.getElem?_eq_getElem (by omega)⟩
  obtain ⟨x1, e1⟩ : ∃ x, w.cell? ⟨S, k * 3 + 1, none⟩ = some x := by rw [s5.cell]; exact ⟨_, Array.getElem?_eq_getElem (by omega)⟩
  obtain ⟨x2, e2⟩ : ∃ x, w.cell? ⟨S, k * 3 + 2, none⟩ = some x := by rw [s5.cell]; exact ⟨_, Array.getElem?_eq_getElem (by omega)⟩
  have fS0 := s5.frozen (k * 3)
  have fS1 := s5.frozen (k * 3 + 1)
  have fS2 := s5.frozen (k * 3 + 2)
  have fV := b5.frozen k
  have fP := BlkB.frozen hph k
  have B1 : Blk W1 g 97 #[.slice A t.recs.length c, .slice D t.starts.length d, .slice (some ⟨V, 0, none⟩) t.ph.length t.ph.length, .slice (some ⟨S, 0, none⟩) t.ph.length t.ph.length, .slice (some ⟨P, 0, none⟩) t.ph.length t.ph.length] := by
    rw [hW1]; exact (((b1.far gS _).far gS _).far gS _).drew_
  have B2 : Blk W1 V 100 cv := by rw [hW1]; exact (((b5.far VS _).far VS _).far VS _).drew_
  have B3 : BlkB W1 P 4 t.ph := by rw [hW1]; exact (((Blk.far hph (Ne.symm SP) _).far (Ne.symm SP) _).far (Ne.symm SP) _).drew_
  have HS1 := Lib.hid (show W1.heap.size = w.heap.size by rw [hW1]; simp [World.drew, World.setCell])
  obtain ⟨i0, hi, hz0, hz1, hz2⟩ := info_parts infoI12
  have HH := Lib.hid h
  have HM := Lib.hid (And.intro M1 M2)
  have HW1 := Lib.hid hW1
  have HX := Lib.hid (And.intro b4 (And.intro b8 (And.intro b9 (And.intro h.hP h.hg))))
  have HB := Lib.hid (And.intro B1 (And.intro B2 B3))
  have d0 := B1.cell 0
  have d2 := B1.cell 2
  have d4 := B1.cell 4
  have g0 := B1.frozen 0
  have u0 := (B2.cell k).trans (b7 k hkn)
  have uf := B2.frozen k
  have y0 := B3.cell hkn
  have yf := BlkB.frozen B3 k
  simp at d0 d2 d4
  obtain ⟨n, hn'⟩ : ∃ n, t.ph.length = n := ⟨_, rfl⟩
  rw [hn'] at c2 c3 c4 d2 d4 hkn
  have hkk : (k : Int) < (n : Int) := by omega
  have hwk : IntKind.i64.wrap (k : Int) = (k : Int) := i64_ok (by omega)
  clear h hph b1 b2 b3 b4 b5 b6 b7 s5 s6 s7 hk hkn hn' hvals hspots M1 M2 hW1 B1 B2 B3 b8 b9
  by_cases hp : 0 < l
  · go_enter Try.func66, Try.ntmps66
    go_wp2_with fail
    refine (HL.out _).mono ?_
    rintro e w1 ⟨rfl, rfl⟩
    go_wp2_with fail
    go_region
    rw [← HW1.out]
    clear c0 c1 c2 c3 c4 f0 v0 p0 e0 e1 e2 fS0 fS1 fS2 fV fP
    have MM := Lib.hid (HM.out.1 hp)
    go_wp2_with (at_builtin; refine wpList_append1 _ rfl _ _ 32 rfl base 3 i0 (.int .i64 0) 8 Try.underlying32 hi hz0 hz1 hz2 rfl _ t.recs.length (litsV t.recs) rfl (own_below MM.out.rl ((Below.refl _ _).alloc (Nat.le_refl _) _) fun q hq => (MM.out.rl.lt q hq).2) (.int .i64 l) _ rfl ?_ rfl (by unfold maxLen; omega) (by omega) ?_ ?_)
    · have h8 := (Blk.new (((W1.setCell ⟨V, k, none⟩ (.int .i8 (-1))).setCell ⟨V, k, none⟩ (.int .i8 1)).setCell ⟨P, k, none⟩ (.bool true)) 3 #[.int .i64 l]).cell 0
      simp at h8
      simpa using h8
    · have := HS1.out
      simp
      omega
    intro v' w9 ho hgr hv
    obtain ⟨A', c', rfl, _⟩ := own_slice ho
    have HD9 := Lib.hid (MM.out.hd9 hgr)
    have HE := Lib.hid (MM.out.done (by have := HS1.out; simp; omega) HX.out.2.1 HX.out.2.2.1 HX.out.2.2.2.1 HX.out.2.2.2.2 HX.out.1 (b := undef) ho hgr (by simpa using hv))
    have z0 := HD9.out.cell 0
    have zf := HD9.out.frozen 0
    simp at z0
    clear ho hgr hv
    go_wp2
    go_end0
    exact ⟨rfl, HE.out.1, HE.out.2⟩
  · have hd0 : decide (0 < l) = false := by simp [hp]
    go_enter Try.func66, Try.ntmps66
    go_wp2_with fail
    refine (HL.out _).mono ?_
    rintro e w1 ⟨rfl, rfl⟩
    go_wp2_with fail
    go_region
    rw [← HW1.out]
    clear c0 c1 c2 c3 c4 f0 v0 p0 e0 e1 e2 fS0 fS1 fS2 fV fP
    have MM := Lib.hid (HM.out.2 hp)
    go_wp2_with (at_builtin; refine wpList_append1 _ rfl _ _ 32 rfl base 3 i0 (.int .i64 0) 8 Try.underlying32 hi hz0 hz1 hz2 rfl _ t.recs.length (litsV t.recs) rfl (own_below MM.out.rl ((Below.refl _ _).alloc (Nat.le_refl _) _) fun q hq => (MM.out.rl.lt q hq).2) (.int .i64 l) _ rfl ?_ rfl (by unfold maxLen; omega) (by omega) ?_ ?_)
    · have h8 := (Blk.new ((W1.setCell ⟨V, k, none⟩ (.int .i8 (-1))).setCell ⟨P, k, none⟩ (.bool false)) 3 #[.int .i64 l]).cell 0
      simp at h8
      simpa using h8
    · have := HS1.out
      simp
      omega
    intro v' w9 ho hgr hv
    obtain ⟨A', c', rfl, _⟩ := own_slice ho
    have HD9 := Lib.hid (MM.out.hd9 hgr)
    have HE := Lib.hid (MM.out.done (by have := HS1.out; simp; omega) HX.out.2.1 HX.out.2.2.1 HX.out.2.2.2.1 HX.out.2.2.2.2 HX.out.1 (b := undef) ho hgr (by simpa using hv))
    have z0 := HD9.out.cell 0
    have zf := HD9.out.frozen 0
    simp at z0
    clear ho hgr hv
    go_wp2
    go_end0
    exact ⟨rfl, HE.out.1, HE.out.2⟩

end Go.Proofs.Ytbejjddkndcldaa

namespace Go.Proofs.Ytbejjddkndcldaa
open Go.RowKit
set_option linter.unusedVariables false
set_option linter.unusedSimpArgs false

theorem step_app12 {P : Program} {ops : Array Oper} {o : Oper} {a : Act} {w : World} {K : Act → World → Prop} {Q : Exit → Act → World → Prop} {E : Prop}
    (hg : o.guard = none) (s x : Operand) (t : TypeId) (hop : o.op = Op.call { callee := Callee.builtin Builtin.append, args := #[s, x], argTypes := #[t, t] })
    (base : Nat) (e : TypeId) (i : TypeInfo) (z : Value) (bytes : Nat) (ht : P.underlying t = some (.slice e)) (hi : P.info? e = some i) (hz : i.zero = some z)
    (hsize : i.size = 1) (hby : i.bytes = bytes) (hzs : z.cells.size = 1)
    (v : Value) (n : Nat) (xs : List Value) (hs : a.eval s = v) (hown : w.ownsRow base e 1 v n xs)
    (u : Value) (g : Nat) (hx : a.eval x = .slice (some ⟨g, 0, none⟩) 1 1) (hc : w.cell? ⟨g, 0, none⟩ = some u) (h1 : u.oneCell' = true)
    (h63 : n + 1 ≤ maxLen) (hbytes : (n + 1) * bytes ≤ 140737488355328) (hbase : base ≤ w.heap.size)
    (hK : ∀ v' w', w'.ownsRow base e 1 v' (n + 1) (xs ++ [u]) → w.grownBy w' v.ownBlock → (v'.ownBlock = v.ownBlock ∨ v'.ownBlock = some w.heap.size) → K (a.put o.dst v') w') :
    if Region.wanted o (yielded ops a.tmps) = true then Oper.wp P o a w K Q else E := by
  have hw : Region.wanted o (yielded ops a.tmps) = true := by simp [Region.wanted, hg]
  rw [if_pos hw]
  obtain ⟨v', w', hrun, h2, h3, _, hat⟩ := run_append_own_at (P := P) w base t o.type e i z 1 bytes ht hi hz hsize hby hzs (by decide) v n xs hown ⟨g, 0, none⟩ 1 1 [u] rfl
    (by intro j u' hu; match j, hu with | 0, hu => simp at hu; subst hu; simpa [Addr.add] using hc) (by intro u' hu; simp at hu; subst hu; exact h1) h63 hbytes hbase
  unfold Oper.wp
  simp [execOp, hop, resolve, invoke, builtin, hs, hx, hrun, Result.andThen]
  exact hK v' w' h2 h3 hat

theorem TrM.drewE {w w' : World} {base g P : Nat} {t : TS} (h : TrM w base g P t) (hd : ∃ m, w' = w.drewN m) : TrM w' base g P t := by
  obtain ⟨m, rfl⟩ := hd
  exact ⟨h.ex, h.phs, h.hg, h.hP⟩
abbrev allT : List TypeId := [3, 100, 102, 97]
section
variable {w : World} {base g P : Nat} {t : TS}
theorem put_any (h : Tr w base g P t) (hB : base ≤ w.heap.size) (l rs : Int) (h0 : -9223372036854775808 ≤ l ∧ l ≤ 9223372036854775807) :
    Calls Try.prog 87 #[.pointer (some ⟨g, 0, none⟩), .int .i64 l, .int .i64 rs] w fun e w' => e = .returned (.bool (t.takes l)) ∧ Tr w' base g P (t.put l rs) ∧ Tn allT base P w w' := by
  have HT := Lib.hid (takes_any h l h0)
  have H := Lib.hid h
  clear h
  rcases ht : t.takes l with _ | _
  · have e : t.put l rs = t := by unfold TS.put; rw [if_neg (by simp [ht])]
    rw [e]
    rw [ht] at HT
    clear ht e
    go_enter Try.func87, Try.ntmps87
    go_wp2_with fail
    refine HT.out.mono ?_
    rintro e w1 ⟨rfl, hw⟩
    have HW := Lib.hid hw
    clear hw
    go_wp2
    go_ret
    exact ⟨rfl, H.out.drewE HW.out, (Tn.refl _).drewE HW.out⟩
  · have e : t.put l rs = t.push l rs := by unfold TS.put; rw [if_pos ht]
    obtain ⟨h1, h2⟩ := (TS.takes_iff H.out.good.few).1 ht
    rw [e]
    rw [ht] at HT
    have HG := Lib.hid (H.out.good.push h1 h2 rs)
    have HL := Lib.hid h1
    have HF := Lib.hid h2
    clear ht e h1 h2
    go_enter Try.func87, Try.ntmps87
    go_wp2_with fail
    refine HT.out.mono ?_
    rintro e w1 ⟨rfl, hw⟩
    have HW := Lib.hid hw
    have HS := Lib.hid (show base ≤ w1.heap.size by obtain ⟨m, rfl⟩ := hw; exact hB)
    clear hw hB
    go_wp2_with fail
    refine (push_any (H.out.drewE HW.out).toTrM HS.out l rs HL.out HF.out (fun r hr => (H.out.good.lit r hr).1) H.out.good.few (by have := H.out.good.len; have := H.out.good.few; omega)).mono ?_
    rintro e w2 ⟨rfl, h2, h3⟩
    have H2 := Lib.hid h2
    have H3 := Lib.hid h3
    clear h2 h3
    go_wp2
    go_ret
    exact ⟨rfl, ⟨H2.out, HG.out⟩, ((Tn.refl _).drewE HW.out).trans H3.out⟩

theorem TrM.upped {w1 wa w3 : World} {A3 : Option Addr} {c3 : Nat} {V S : Nat} {A D : Option Addr} {c d : Nat} (b1 : Blk w1 g 97 #[.slice A t.recs.length c, .slice D t.starts.length d, .slice (some ⟨V, 0, none⟩) t.ph.length t.ph.length, .slice (some ⟨S, 0, none⟩) t.ph.length t.ph.length, .slice (some ⟨P, 0, none⟩) t.ph.length t.ph.length])
    (b2 : w1.ownsRow base 3 1 (.slice A t.recs.length c) t.recs.length (litsV t.recs)) (b3 : w1.ownsRow base 3 1 (.slice D t.starts.length d) t.starts.length (startsV t.starts))
    (hne : ∀ q, (Value.slice A t.recs.length c).ownBlock = some q → (Value.slice D t.starts.length d).ownBlock = some q → False)
    (b4 : Vals w1 V t.ph.length t.recs) (b5 : Spots w1 S t.ph.length t.recs) (b6 : BlkB w1 P 4 t.ph) (hV : base ≤ V) (hS : base ≤ S) (hP : base ≤ P) (hg : base ≤ g) (hB : base ≤ w1.heap.size)
    (ba : Below w1.heap.size w1 wa) (ho : w3.ownsRow base 3 1 (.slice A3 (t.starts.length + 1) c3) (t.starts.length + 1) (startsV t.starts ++ [.int .i64 (t.recs.length : Nat)])) (hgr : wa.grownBy w3 (Value.slice D t.starts.length d).ownBlock)
    (hv : (Value.slice A3 (t.starts.length + 1) c3).ownBlock = (Value.slice D t.starts.length d).ownBlock ∨ (Value.slice A3 (t.starts.length + 1) c3).ownBlock = some wa.heap.size) :
    TrM (w3.setCell ⟨g, 1, none⟩ (.slice A3 (t.starts.length + 1) c3)) base g P t.up ∧ Tn allT base P w1 (w3.setCell ⟨g, 1, none⟩ (.slice A3 (t.starts.length + 1) c3)) ∧ base ≤ (w3.setCell ⟨g, 1, none⟩ (.slice A3 (t.starts.length + 1) c3)).heap.size := by
  have hsz := ba.size
  have rlA := own_below b2 ba fun q hq => (b2.lt q hq).2
  have rdA := own_below b3 ba fun q hq => (b3.lt q hq).2
  have K : ∀ {q : Nat} {ty : TypeId} {X : Array Value}, Blk w1 q ty X → ty ≠ 3 → Blk w3 q ty X := fun hq hne => (hq.below ba hq.lt).grown hgr (own_blk_ne rdA (hq.below ba hq.lt) (Ne.symm hne))
  have hg9 := K b1 (by decide)
  have K2 : ∀ {q : Nat} {ty : TypeId} {X : Array Value} (v : Value), Blk w3 q ty X → ty ≠ 97 → Blk (w3.setCell ⟨g, 1, none⟩ v) q ty X := fun v hq hne => hq.far (hq.ne_ hg9 hne) v
  have rl9 : w3.ownsRow base 3 1 (.slice A t.recs.length c) t.recs.length (litsV t.recs) := rlA.kept hgr (by
    rcases hq : (Value.slice A t.recs.length c).ownBlock with _ | q
    · exact .inl rfl
    · exact .inr fun e => hne q hq e.symm)
  refine ⟨⟨⟨V, S, A, A3, c, c3, ?_, ?_, ?_, ?_, b4.keep fun X hX => K2 _ (K hX (by decide)) (by decide), b5.keep fun X hX => K2 _ (K hX (by decide)) (by decide), hV, hS⟩, K2 _ (K b6 (by decide)) (by decide), hg, hP⟩, ?_, ?_⟩
  · have := hg9.set_ 1 (.slice A3 (t.starts.length + 1) c3)
    simpa [TS.up] using this
  · exact own_setCell rl9 (p := ⟨g, 1, none⟩) _ (own_blk_ne rl9 hg9 (by decide))
  · have := own_setCell ho (p := ⟨g, 1, none⟩) (.slice A3 (t.starts.length + 1) c3) (own_blk_ne ho hg9 (by decide))
    simpa [TS.up, startsV] using this
  · intro q h1 h2
    simp only [TS.up, List.length_append, List.length_singleton] at h2
    rcases hv with e | e
    · rw [h2] at e
      exact hne q h1 e.symm
    · rw [h2] at e
      injection e with e
      have := (b2.lt q h1).2
      omega
  · exact ((Tn.of_below ba hB).grown rdA (by simp [allT]) hgr (by omega)).set hg9 (.inl (by simp [allT])) hg _ _
  · have := hgr.size
    simp [World.setCell]
    omega

set_option maxHeartbeats 2000000 in
theorem decide_any (h : Tr w base g P t) (hB : base ≤ w.heap.size) (l : Int) (h0 : -9223372036854775808 ≤ l ∧ l ≤ 9223372036854775807) :
    Calls Try.prog 36 #[.pointer (some ⟨g, 0, none⟩), .int .i64 l] w fun e w' => e = .returned (.bool (t.takes l)) ∧ Tr w' base g P (t.dec l) ∧ Tn allT base P w w' := by
  have HT := Lib.hid (takes_any h l h0)
  have H := Lib.hid h
  clear h
  rcases ht : t.takes l with _ | _
  · have e : t.dec l = t := by unfold TS.dec; rw [if_neg (by simp [ht])]
    rw [e]
    rw [ht] at HT
    clear ht e
    go_enter Try.func36, Try.ntmps36
    go_wp2_with fail
    refine HT.out.mono ?_
    rintro e w1 ⟨rfl, hw⟩
    have HW := Lib.hid hw
    clear hw
    go_wp2
    go_ret
    exact ⟨rfl, H.out.drewE HW.out, (Tn.refl _).drewE HW.out⟩
  · have e : t.dec l = t.up.push l (-1) := by unfold TS.dec; rw [if_pos ht]
    obtain ⟨h1, h2⟩ := (TS.takes_iff H.out.good.few).1 ht
    rw [e]
    rw [ht] at HT
    have HG := Lib.hid (H.out.good.dpush h1 h2 (-1))
    have HL := Lib.hid h1
    have HF := Lib.hid h2
    obtain ⟨i0, hi, hz0, hz1, hz2⟩ := info_parts infoI12
    have hlen := H.out.good.len
    have hsl := H.out.good.starts_len
    have hfew := H.out.good.few
    clear ht e h1 h2
    go_enter Try.func36, Try.ntmps36
    go_wp2_with fail
    refine HT.out.mono ?_
    rintro e w1 ⟨rfl, hw⟩
    have hB1 : base ≤ w1.heap.size := by obtain ⟨m, rfl⟩ := hw; exact hB
    have HW := Lib.hid hw
    obtain ⟨V, S, A, D, c, d, b1, b2, b3, b4, hvals, hspots, b8, b9⟩ := (H.out.drewE hw).ex
    have c0 := b1.cell 0
    have c1 := b1.cell 1
    simp at c0 c1
    obtain ⟨wa, hwa⟩ : ∃ wa, wa = (w1.alloc (.cells #[.int .i64 (t.recs.length : Nat)] 3)).drew := ⟨_, rfl⟩
    have hba : Below w1.heap.size w1 wa := by rw [hwa]; exact ((Below.refl _ _).alloc (Nat.le_refl _) _).drew
    have HA2 := Lib.hid (own_below b3 hba fun q hq => (b3.lt q hq).2)
    have HAC := Lib.hid (show wa.cell? ⟨w1.heap.size, 0, none⟩ = some (.int .i64 (t.recs.length : Nat)) by rw [hwa]; go_cell)
    have HAS := Lib.hid (show wa.heap.size = w1.heap.size + 1 by rw [hwa]; simp)
    have HAT := Lib.hid (b1.below hba b1.lt)
    have HU := Lib.hid (fun (w3 : World) (A3 : Option Addr) (c3 : Nat) => TrM.upped (w3 := w3) (A3 := A3) (c3 := c3) b1 b2 b3 b4 hvals hspots (H.out.drewE hw).phs b8 b9 H.out.hP H.out.hg hB1 hba)
    have HC1 := Lib.hid c1
    have HB1 := Lib.hid hB1
    have hgl : g < w1.heap.size := b1.lt
    have HWA := Lib.hid hwa
    clear hw hB hba hwa b1 b2 b3 b4 hvals hspots b8 b9 hB1
    go_wp2
    go_region_law (first | (rw [← HWA.out]; refine step_app12 rfl (.tmp 13) (.tmp 19) 32 rfl base 3 i0 (.int .i64 0) 8 Try.underlying32 hi hz0 hz1 hz2 rfl (.slice D t.starts.length d) t.starts.length (startsV t.starts) rfl HA2.out (.int .i64 (t.recs.length : Nat)) w1.heap.size rfl HAC.out rfl (by unfold maxLen; omega) (by omega) (by have := HAS.out; have := HB1.out; omega) ?_; intro v' w3 hown3 hg3 hat3; obtain ⟨A3, c3, hv3, -⟩ := own_slice hown3; subst hv3; have hbk3 := HAT.out.grown hg3 (own_blk_ne HA2.out HAT.out (by decide)); have dF := hbk3.frozen 1; have dC := hbk3.cell 1; simp at dC; have HO3 := Lib.hid hown3; have HG3 := Lib.hid hg3; have HAT3 := Lib.hid hat3; clear hbk3 hown3 hg3 hat3))
    all_goals
      have HE := Lib.hid (HU.out w3 A3 c3 HO3.out HG3.out HAT3.out)
      go_wp2_with fail
      refine (push_any HE.out.1 HE.out.2.2 l (-1) HL.out HF.out (fun r hr => (H.out.good.lit r hr).1) H.out.good.few (by show t.recs.length ≤ _; omega)).mono ?_
      rintro e w2 ⟨rfl, h2, h3⟩
      have H2 := Lib.hid h2
      have H3 := Lib.hid h3
      clear h2 h3
      go_wp2
      go_ret
      exact ⟨rfl, ⟨H2.out, HG.out⟩, (((Tn.refl _).drewE HW.out).trans HE.out.2.1).trans H3.out⟩

end

theorem infoV12 : (Try.prog.info? 100).map (fun i => (i.zero, i.size, i.bytes)) = some (some (.int .i8 0), 1, 1) := by kernel_rfl
theorem infoB12 : (Try.prog.info? 4).map (fun i => (i.zero, i.size, i.bytes)) = some (some (.bool false), 1, 1) := by kernel_rfl
theorem infoS12 : (Try.prog.info? 102).map (fun i => (i.zero, i.size, i.bytes)) = some (some (.agg #[.int .i64 0, .int .i64 0, .int .i64 0]), 3, 24) := by kernel_rfl
theorem new_tr {w W' : World} {n g V S P : Nat} (hn : n ≤ 100000) (h1 : Blk W' g 97 #[.slice none 0 0, .slice none 0 0, .slice (some ⟨V, 0, none⟩) n n, .slice (some ⟨S, 0, none⟩) n n, .slice (some ⟨P, 0, none⟩) n n])
    (h2 : Blk W' V 100 (madeCells #[.int .i8 0] n)) (h3 : Blk W' S 102 (madeCells (Value.agg #[.int .i64 0, .int .i64 0, .int .i64 0]).cells (n * 3))) (h4 : Blk W' P 4 (madeCells #[.bool false] n)) (l1 : w.heap.size ≤ g) (l2 : w.heap.size ≤ V) (l3 : w.heap.size ≤ S) (l4 : w.heap.size ≤ P) :
    Tr W' w.heap.size g P (TS.fresh n) := by
  refine ⟨⟨⟨V, S, none, none, 0, 0, ?_, World.ownsRow_nil _ _ _ _, World.ownsRow_nil _ _ _ _, fun q h => by simp [Value.ownBlock] at h, ⟨_, h2, ?_, fun k hk => ?_⟩, ⟨_, h3, ?_, fun i r hr => by simp [TS.fresh] at hr⟩, l2, l3⟩, ?_, l1, l4⟩, TS.Good.fresh hn⟩
  · simpa [TS.fresh] using h1
  · simp [TS.fresh, size_madeCells]
  · simp [TS.fresh] at hk
    simp [TS.fresh, madeCells, hk, Nat.mod_one, valT, find, findAt]
  · simp [TS.fresh, size_madeCells]
  · unfold BlkB
    have e : madeCells #[Value.bool false] n = boolCells (TS.fresh n).ph := by
      apply Array.ext
      · simp [size_madeCells, TS.fresh, boolCells]
      · intro i h1 h2
        simp [madeCells, TS.fresh, Nat.mod_one, boolCells]
    rw [← e]
    exact h4
theorem below_drew12 {B : Nat} {a b : World} (h : Below B a b) : Below B a b.drew := h.drew

set_option maxHeartbeats 2000000 in
theorem trail_new (n : Nat) (hn : n ≤ 100000) (W : World) :
    Calls Try.prog 41 #[.int .i64 n] W fun e W' => ∃ g P, e = .returned (.pointer (some ⟨g, 0, none⟩)) ∧ Tr W' W.heap.size g P (TS.fresh n) ∧ Below W.heap.size W W' := by
  have hm1 := fun (x : Int) (hx : x = n) => hx ▸ run_make_row' (P := Try.prog) 94 100 (.int .i8 0) 1 Try.underlying94 infoV12 rfl .i64 .i64 n (by omega) (by omega)
  have hm2 := fun (x : Int) (hx : x = n) => hx ▸ run_make_row' (P := Try.prog) 51 4 (.bool false) 1 Try.underlying51 infoB12 rfl .i64 .i64 n (by omega) (by omega)
  have hm3 : ∀ (x : Int), x = n → ∀ w : World, (Instr.makeSlice 95 (.int .i64 x) (.int .i64 x)).run Try.prog w = .ok (.slice (some ⟨w.heap.size, 0, none⟩) n n) (w.alloc (.cells (madeCells (Value.agg #[.int .i64 0, .int .i64 0, .int .i64 0]).cells (n * 3)) 102)) := fun x hx w => by
    subst hx
    obtain ⟨i, hi, hzz⟩ := Option.map_eq_some_iff.1 infoS12
    simp only [Prod.mk.injEq] at hzz
    obtain ⟨hz, hs, hb⟩ := hzz
    have hr := run_make (P := Try.prog) w 95 102 i _ Try.underlying95 hi hz .i64 .i64 n n (by omega) (Int.le_refl _) (by rw [hb]; omega) (by omega)
    simp only [Int.toNat_natCast, hs] at hr
    exact hr
  obtain ⟨Z, hZ⟩ : ∃ Z, Z = madeCells (Value.agg #[.int .i64 0, .int .i64 0, .int .i64 0]).cells (n * 3) := ⟨_, rfl⟩
  rw [← hZ] at hm3
  rcases Nat.eq_zero_or_pos n with h0 | hpos
  · have hm1 := hm1 0 (by omega)
    have hm2 := hm2 0 (by omega)
    have hm3 := hm3 0 (by omega)
    have HZ : Hid (Z = madeCells (Value.agg #[.int .i64 0, .int .i64 0, .int .i64 0]).cells (n * 3)) := Lib.hid hZ
    have hn0 : ((n : Nat) : Int) = 0 := by omega
    rw [hn0]
    have HN0 := Lib.hid h0
    clear hZ hn0 h0
    go_enter Try.func41, Try.ntmps41
    go_wp2
    go_region_held3 (fun _ => True) (trivial) (fail)
    all_goals (go_wp2; go_ret)
    all_goals
      obtain rfl := HZ.out
      first
        | (refine ⟨W.heap.size + 1 + 1 + 1, W.heap.size + 1 + 1, rfl, new_tr (V := W.heap.size) (S := W.heap.size + 1) hn ?_ ?_ ?_ ?_ (by omega) (by omega) (by omega) (by omega), below_drew12 (((((Below.refl _ _).alloc (Nat.le_refl _) _).alloc (by simp) _).alloc (by simp; omega) _).alloc (by simp; omega) _)⟩ <;> (try unfold Blk) <;> simp only [World.alloc, World.drew, Array.getElem?_push, Array.size_push] <;> (repeat (first | rw [if_pos rfl] | rw [if_neg (by omega)])) <;> rfl)
        | (refine ⟨W.heap.size + 1 + 1 + 1, W.heap.size + 1, rfl, new_tr (V := W.heap.size) (S := W.heap.size + 1 + 1) hn ?_ ?_ ?_ ?_ (by omega) (by omega) (by omega) (by omega), below_drew12 (((((Below.refl _ _).alloc (Nat.le_refl _) _).alloc (by simp) _).alloc (by simp; omega) _).alloc (by simp; omega) _)⟩ <;> (try unfold Blk) <;> simp only [World.alloc, World.drew, Array.getElem?_push, Array.size_push] <;> (repeat (first | rw [if_pos rfl] | rw [if_neg (by omega)])) <;> rfl)
        | (refine ⟨W.heap.size + 1 + 1 + 1, W.heap.size + 1 + 1, rfl, new_tr (V := W.heap.size + 1) (S := W.heap.size) hn ?_ ?_ ?_ ?_ (by omega) (by omega) (by omega) (by omega), below_drew12 (((((Below.refl _ _).alloc (Nat.le_refl _) _).alloc (by simp) _).alloc (by simp; omega) _).alloc (by simp; omega) _)⟩ <;> (try unfold Blk) <;> simp only [World.alloc, World.drew, Array.getElem?_push, Array.size_push] <;> (repeat (first | rw [if_pos rfl] | rw [if_neg (by omega)])) <;> rfl)
        | (refine ⟨W.heap.size + 1 + 1 + 1, W.heap.size, rfl, new_tr (V := W.heap.size + 1) (S := W.heap.size + 1 + 1) hn ?_ ?_ ?_ ?_ (by omega) (by omega) (by omega) (by omega), below_drew12 (((((Below.refl _ _).alloc (Nat.le_refl _) _).alloc (by simp) _).alloc (by simp; omega) _).alloc (by simp; omega) _)⟩ <;> (try unfold Blk) <;> simp only [World.alloc, World.drew, Array.getElem?_push, Array.size_push] <;> (repeat (first | rw [if_pos rfl] | rw [if_neg (by omega)])) <;> rfl)
        | (refine ⟨W.heap.size + 1 + 1 + 1, W.heap.size + 1, rfl, new_tr (V := W.heap.size + 1 + 1) (S := W.heap.size) hn ?_ ?_ ?_ ?_ (by omega) (by omega) (by omega) (by omega), below_drew12 (((((Below.refl _ _).alloc (Nat.le_refl _) _).alloc (by simp) _).alloc (by simp; omega) _).alloc (by simp; omega) _)⟩ <;> (try unfold Blk) <;> simp only [World.alloc, World.drew, Array.getElem?_push, Array.size_push] <;> (repeat (first | rw [if_pos rfl] | rw [if_neg (by omega)])) <;> rfl)
        | (refine ⟨W.heap.size + 1 + 1 + 1, W.heap.size, rfl, new_tr (V := W.heap.size + 1 + 1) (S := W.heap.size + 1) hn ?_ ?_ ?_ ?_ (by omega) (by omega) (by omega) (by omega), below_drew12 (((((Below.refl _ _).alloc (Nat.le_refl _) _).alloc (by simp) _).alloc (by simp; omega) _).alloc (by simp; omega) _)⟩ <;> (try unfold Blk) <;> simp only [World.alloc, World.drew, Array.getElem?_push, Array.size_push] <;> (repeat (first | rw [if_pos rfl] | rw [if_neg (by omega)])) <;> rfl)
  · have hm1 := hm1 n rfl
    have hm2 := hm2 n rfl
    have hm3 := hm3 n rfl
    have HZ := Lib.hid hZ
    have hcl : max 0 (min (n : Int) 100000) = n := by omega
    clear hZ
    go_enter Try.func41, Try.ntmps41
    go_wp2
    go_region_held3 (fun _ => True) (trivial) (fail)
    all_goals (go_wp2; go_ret)
    all_goals
      obtain rfl := HZ.out
      first
        | (refine ⟨W.heap.size + 1 + 1 + 1, W.heap.size + 1 + 1, rfl, new_tr (V := W.heap.size) (S := W.heap.size + 1) hn ?_ ?_ ?_ ?_ (by omega) (by omega) (by omega) (by omega), below_drew12 (((((Below.refl _ _).alloc (Nat.le_refl _) _).alloc (by simp) _).alloc (by simp; omega) _).alloc (by simp; omega) _)⟩ <;> (try unfold Blk) <;> simp only [World.alloc, World.drew, Array.getElem?_push, Array.size_push] <;> (repeat (first | rw [if_pos rfl] | rw [if_neg (by omega)])) <;> rfl)
        | (refine ⟨W.heap.size + 1 + 1 + 1, W.heap.size + 1, rfl, new_tr (V := W.heap.size) (S := W.heap.size + 1 + 1) hn ?_ ?_ ?_ ?_ (by omega) (by omega) (by omega) (by omega), below_drew12 (((((Below.refl _ _).alloc (Nat.le_refl _) _).alloc (by simp) _).alloc (by simp; omega) _).alloc (by simp; omega) _)⟩ <;> (try unfold Blk) <;> simp only [World.alloc, World.drew, Array.getElem?_push, Array.size_push] <;> (repeat (first | rw [if_pos rfl] | rw [if_neg (by omega)])) <;> rfl)
        | (refine ⟨W.heap.size + 1 + 1 + 1, W.heap.size + 1 + 1, rfl, new_tr (V := W.heap.size + 1) (S := W.heap.size) hn ?_ ?_ ?_ ?_ (by omega) (by omega) (by omega) (by omega), below_drew12 (((((Below.refl _ _).alloc (Nat.le_refl _) _).alloc (by simp) _).alloc (by simp; omega) _).alloc (by simp; omega) _)⟩ <;> (try unfold Blk) <;> simp only [World.alloc, World.drew, Array.getElem?_push, Array.size_push] <;> (repeat (first | rw [if_pos rfl] | rw [if_neg (by omega)])) <;> rfl)
        | (refine ⟨W.heap.size + 1 + 1 + 1, W.heap.size, rfl, new_tr (V := W.heap.size + 1) (S := W.heap.size + 1 + 1) hn ?_ ?_ ?_ ?_ (by omega) (by omega) (by omega) (by omega), below_drew12 (((((Below.refl _ _).alloc (Nat.le_refl _) _).alloc (by simp) _).alloc (by simp; omega) _).alloc (by simp; omega) _)⟩ <;> (try unfold Blk) <;> simp only [World.alloc, World.drew, Array.getElem?_push, Array.size_push] <;> (repeat (first | rw [if_pos rfl] | rw [if_neg (by omega)])) <;> rfl)
        | (refine ⟨W.heap.size + 1 + 1 + 1, W.heap.size + 1, rfl, new_tr (V := W.heap.size + 1 + 1) (S := W.heap.size) hn ?_ ?_ ?_ ?_ (by omega) (by omega) (by omega) (by omega), below_drew12 (((((Below.refl _ _).alloc (Nat.le_refl _) _).alloc (by simp) _).alloc (by simp; omega) _).alloc (by simp; omega) _)⟩ <;> (try unfold Blk) <;> simp only [World.alloc, World.drew, Array.getElem?_push, Array.size_push] <;> (repeat (first | rw [if_pos rfl] | rw [if_neg (by omega)])) <;> rfl)
        | (refine ⟨W.heap.size + 1 + 1 + 1, W.heap.size, rfl, new_tr (V := W.heap.size + 1 + 1) (S := W.heap.size + 1) hn ?_ ?_ ?_ ?_ (by omega) (by omega) (by omega) (by omega), below_drew12 (((((Below.refl _ _).alloc (Nat.le_refl _) _).alloc (by simp) _).alloc (by simp; omega) _).alloc (by simp; omega) _)⟩ <;> (try unfold Blk) <;> simp only [World.alloc, World.drew, Array.getElem?_push, Array.size_push] <;> (repeat (first | rw [if_pos rfl] | rw [if_neg (by omega)])) <;> rfl)

end Go.Proofs.Ytbejjddkndcldaa
