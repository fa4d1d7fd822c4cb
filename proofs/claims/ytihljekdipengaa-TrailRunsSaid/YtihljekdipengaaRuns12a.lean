/- A trail and the statements' own, side by side. -/
import Derived.Test.YtihljekdipengaaMod12e
import Derived.Test.YtihljekdipengaaBits
namespace Go.Proofs.Ytihljekdipengaa
open Go.RowKit Go.Maps
set_option linter.unusedVariables false
set_option linter.unusedSimpArgs false

/-- reasons are numbers of the machine -/
def RsOk (t : TS) : Prop := ∀ r ∈ t.recs, -9223372036854775808 ≤ r.rs ∧ r.rs ≤ 9223372036854775807
theorem RsOk.put {t : TS} (h : RsOk t) (l rs : Int) (hr : -9223372036854775808 ≤ rs ∧ rs ≤ 9223372036854775807) : RsOk (t.put l rs) := by
  unfold TS.put
  split
  · intro r hm
    simp only [TS.push, List.mem_append, List.mem_singleton] at hm
    rcases hm with hm | rfl
    · exact h r hm
    · exact hr
  · exact h
theorem RsOk.dec {t : TS} (h : RsOk t) (l : Int) : RsOk (t.dec l) := by
  unfold TS.dec
  split
  · intro r hm
    simp only [TS.push, TS.up, List.mem_append, List.mem_singleton] at hm
    rcases hm with hm | rfl
    · exact h r hm
    · show -9223372036854775808 ≤ (-1 : Int) ∧ (-1 : Int) ≤ 9223372036854775807
      omega
  · exact h
theorem RsOk.back {t : TS} (h : RsOk t) (k : Int) : RsOk (t.back k) := by
  intro r hm
  rw [TS.back_recs] at hm
  exact h r (List.mem_of_mem_take hm)
theorem RsOk.setPh {t : TS} (h : RsOk t) (v : Int) (b : Bool) : RsOk (t.setPh v b) := by
  unfold TS.setPh
  split <;> exact h
theorem RsOk.moved {t : TS} (h : RsOk t) {f : Int → Option Int} (hf : ∀ x y, f x = some y → -9223372036854775808 ≤ y ∧ y ≤ 9223372036854775807) : RsOk (t.moved f) := by
  intro r hm
  obtain ⟨s, hs, rfl⟩ := List.mem_map.1 hm
  show -9223372036854775808 ≤ (f s.rs).getD s.rs ∧ (f s.rs).getD s.rs ≤ 9223372036854775807
  rcases he : f s.rs with _ | y
  · exact h s hs
  · exact hf _ _ he

/-- what a change of the trail leaves of the other, and the other way round -/
theorem Md.ofTn {w w' : World} {base q mp kb b P : Nat} {t : TS} {ts : List TypeId} {X : Array Value} (h : Md w base q mp kb t) (ht : Tn ts b P w w') (hP : Blk w P 4 X) (hts : 30 ∉ ts ∧ 42 ∉ ts) : Md w' base q mp kb t := by
  refine h.keep fun p o _ ho hk => ht.keep p o ho ?_ ?_
  · rintro rfl
    unfold Blk at hP
    rw [hP] at ho
    injection ho with ho
    rcases hk with rfl | ⟨cs, ty, z, rfl, hty⟩
    · obtain ⟨k, D, ⟨es, clock, hb, _⟩, _⟩ := h.map
      rw [hP] at hb
      cases hb
    · injection ho with _ e
      rcases hty with rfl | rfl <;> exact absurd e (by decide)
  · intro cs ty z e hm
    rcases hk with rfl | ⟨cs', ty', z', e', hty⟩
    · obtain ⟨k, D, ⟨es, clock, hb, _⟩, _⟩ := h.map
      rw [ho] at hb
      injection hb with hb
      rw [e] at hb
      cases hb
    · rw [e] at e'
      injection e' with _ e'
      rcases hty with rfl | rfl
      · exact hts.1 (e' ▸ hm)
      · exact hts.2 (e' ▸ hm)
theorem Tr.ofTn {w w' : World} {base g P b mp k : Nat} {t : TS} {ts : List TypeId} {D : DataW Unit} {R : Value → Option (DataW Unit × List MemPlace)} {pr : Program} {ky : TypeId} (h : Tr w base g P t) (ht : Tn ts b mp w w') (hm : w.ownsMap pr ky R mp k D) (hts : ∀ ty ∈ [3, 59, 62, 55, 4], ty ∉ ts) : Tr w' base g P t := by
  refine h.keep fun p ty X _ hX hk => ht.blk hX ?_ (map_ne_blk hm hX)
  rcases hk with hk | rfl
  · exact hts ty (by simp at hk ⊢; rcases hk with rfl | rfl | rfl | rfl <;> simp)
  · have := h.phs
    unfold BlkB Blk at this
    unfold Blk at hX
    rw [hX] at this
    injection this with this
    injection this with _ e
    exact hts ty (by simp [e])

/-- how things stand between two deeds -/
structure Rn (w wr : World) (b1 b2 g P q mp kb n : Nat) (t : TS) : Prop where
  tr : Tr wr b1 g P t
  md : Md wr b2 q mp kb t
  fr : Below w.heap.size w wr
  s2 : b2 ≤ wr.heap.size
  b01 : w.heap.size ≤ b1
  b12 : b1 ≤ b2
  len : t.ph.length = n
  rs : RsOk t
theorem Rn.below {w wr wx : World} {b1 b2 g P q mp kb n : Nat} {t : TS} (h : Rn w wr b1 b2 g P q mp kb n t) (hb : Below wr.heap.size wr wx) : Rn w wx b1 b2 g P q mp kb n t :=
  ⟨h.tr.below hb, h.md.below hb, h.fr.trans (hb.mono h.fr.size), Nat.le_trans h.s2 hb.size, h.b01, h.b12, h.len, h.rs⟩
theorem Rn.drewE {w wr wx : World} {b1 b2 g P q mp kb n : Nat} {t : TS} (h : Rn w wr b1 b2 g P q mp kb n t) (hd : ∃ m, wx = wr.drewN m) : Rn w wx b1 b2 g P q mp kb n t := by
  obtain ⟨m, rfl⟩ := hd
  exact ⟨h.tr.drewN m, h.md.drewE ⟨m, rfl⟩, below_drewN h.fr m, h.s2, h.b01, h.b12, h.len, h.rs⟩
theorem Rn.mono {w wr : World} {b1 b2 g P q mp kb kb' n : Nat} {t : TS} (h : Rn w wr b1 b2 g P q mp kb n t) (hk : kb ≤ kb') : Rn w wr b1 b2 g P q mp kb' n t := { h with md := h.md.mono hk }
/-- half way: the trail has turned, the other has not -/
structure Half (w wr : World) (b1 b2 g P q mp kb n : Nat) (t t' : TS) : Prop where
  tr : Tr wr b1 g P t'
  md : Md wr b2 q mp kb t
  fr : Below w.heap.size w wr
  s2 : b2 ≤ wr.heap.size
  b01 : w.heap.size ≤ b1
  b12 : b1 ≤ b2
theorem Rn.half {w wr w3 : World} {b1 b2 g P q mp kb n : Nat} {t t' : TS} {ts : List TypeId} (h : Rn w wr b1 b2 g P q mp kb n t) (ht : Tr w3 b1 g P t') (hn : Tn ts b1 P wr w3) (hts : 30 ∉ ts ∧ 42 ∉ ts) : Half w w3 b1 b2 g P q mp kb n t t' :=
  ⟨ht, h.md.ofTn hn h.tr.phs hts, h.fr.trans (hn.low.mono h.b01), Nat.le_trans h.s2 hn.low.size, h.b01, h.b12⟩
theorem Half.whole {w w3 w4 : World} {b1 b2 g P q mp kb kb' n : Nat} {t t' : TS} {ts : List TypeId} (h : Half w w3 b1 b2 g P q mp kb n t t') (hm : Md w4 b2 q mp kb' t') (hn : Tn ts b2 mp w3 w4) (hts : ∀ ty ∈ [3, 59, 62, 55, 4], ty ∉ ts) (hl : t'.ph.length = n) (hr : RsOk t') : Rn w w4 b1 b2 g P q mp kb' n t' := by
  obtain ⟨k, D, m1, _⟩ := h.md.map
  exact ⟨h.tr.ofTn hn m1 hts, hm, h.fr.trans (hn.low.mono (Nat.le_trans h.b01 h.b12)), Nat.le_trans h.s2 hn.low.size, h.b01, h.b12, hl, hr⟩
theorem Half.below {w wr wx : World} {b1 b2 g P q mp kb n : Nat} {t t' : TS} (h : Half w wr b1 b2 g P q mp kb n t t') (hb : Below wr.heap.size wr wx) : Half w wx b1 b2 g P q mp kb n t t' :=
  ⟨h.tr.below hb, h.md.below hb, h.fr.trans (hb.mono h.fr.size), Nat.le_trans h.s2 hb.size, h.b01, h.b12⟩
theorem Half.drewE {w wr wx : World} {b1 b2 g P q mp kb n : Nat} {t t' : TS} (h : Half w wr b1 b2 g P q mp kb n t t') (hd : ∃ m, wx = wr.drewN m) : Half w wx b1 b2 g P q mp kb n t t' := by
  obtain ⟨m, rfl⟩ := hd
  exact ⟨h.tr.drewN m, h.md.drewE ⟨m, rfl⟩, below_drewN h.fr m, h.s2, h.b01, h.b12⟩

/-- what put makes of the law's trail, at the current level and at the next -/
theorem put_facts {t : TS} (h : t.Good) (l rs : Int) : (t.takes l = true → (t.put l rs).recs = t.recs ++ [⟨l, t.starts.length + 0, rs⟩] ∧ (t.put l rs).starts.length = t.starts.length + 0 ∧ (t.put l rs).ph = t.ph.set (l.natAbs - 1) (decide (0 < l)) ∧ (t.put l rs).Good) ∧ (t.takes l = false → t.put l rs = t) := by
  refine ⟨fun ht => ?_, fun ht => by unfold TS.put; rw [if_neg (by simp [ht])]⟩
  have hg := h.put l rs
  have e : t.put l rs = t.push l rs := by unfold TS.put; rw [if_pos ht]
  rw [e] at hg ⊢
  exact ⟨rfl, rfl, rfl, hg⟩
theorem dec_facts {t : TS} (h : t.Good) (l : Int) : (t.takes l = true → (t.dec l).recs = t.recs ++ [⟨l, t.starts.length + 1, -1⟩] ∧ (t.dec l).starts.length = t.starts.length + 1 ∧ (t.dec l).ph = t.ph.set (l.natAbs - 1) (decide (0 < l)) ∧ (t.dec l).Good) ∧ (t.takes l = false → t.dec l = t) := by
  refine ⟨fun ht => ?_, fun ht => by unfold TS.dec; rw [if_neg (by simp [ht])]⟩
  have hg := h.dec l
  have e : t.dec l = t.up.push l (-1) := by unfold TS.dec; rw [if_pos ht]
  rw [e] at hg ⊢
  refine ⟨?_, ?_, rfl, hg⟩
  · simp [TS.push, TS.up]
  · simp [TS.push, TS.up]
/-- a deed's own block, and what else is of its type, stays -/
theorem Tn.deed {ts : List TypeId} {b P p : Nat} {w w' : World} {X : Array Value} (ht : Tn ts b P w w') (hX : Blk w p 32 X) (h1 : 32 ∉ ts) (h2 : p ≠ P) : Blk w' p 32 X := ht.blk hX h1 h2
theorem Md.start {w : World} {n : Nat} (hn : n ≤ 100000) : Md ((w.alloc (.map #[] 0)).alloc (.cells #[.int .i64 (n : Nat), .int .i64 0, .slice none 0 0, .map (some w.heap.size)] 30)) w.heap.size (w.heap.size + 1) w.heap.size 0 (TS.fresh n) := by
  refine ⟨⟨none, 0, ?_, World.ownsRow_nil _ _ _ _⟩, ⟨0, .map [], (World.ownsMap_made w _ _ _).alloc _, Nat.le_refl _, fun v h1 h2 => ?_⟩, TS.Good.fresh hn, by omega, Nat.le_refl _⟩
  · have := Blk.new (w.alloc (.map #[] 0)) 30 #[.int .i64 (n : Nat), .int .i64 0, .slice none 0 0, .map (some w.heap.size)]
    simpa [TS.fresh] using this
  · simp [TS.fresh] at h2
    simp [TS.fresh, List.getD, show v - 1 < n by omega]
    rfl

/-- a phase that is set, in the statements' own trail -/
theorem Md.phase {w : World} {base q mp kb : Nat} {t : TS} (h : Md w base q mp kb t) (hB : base ≤ w.heap.size) (hkb : kb ≤ 1000000) {l : Int} (hl : 1 ≤ l ∧ l ≤ t.ph.length) (b : Bool) :
    ∃ w5, (Instr.mapUpdate 27 (.map (some mp)) (.int .i64 l) (.bool b)).run Try.prog w = .ok () w5 ∧ Md w5 base q mp (kb + 1) (t.setPh l b) ∧ Tn modT base mp w w5 := by
  obtain ⟨A, c, b1, b2⟩ := h.ex
  obtain ⟨k, D, m1, m2, m3⟩ := h.map
  have hf := h.good.few
  obtain ⟨w5, hrun, hown, hg⟩ := m1.update intLaw12 Try.underlying27 (by unfold maxLen; omega) (Maps.keyOf_int_mk Try.underlying3 (WalkArith.wf_i64 (by omega : -9223372036854775808 ≤ l ∧ l ≤ 9223372036854775807))) (plainElem_bool Try.underlying4 b)
  have e : t.setPh l b = ⟨t.recs, t.starts, t.ph.set (l.toNat - 1) b⟩ := by unfold TS.setPh; rw [if_pos (TS.isVar_iff.2 hl)]
  have hgd := h.good.setPh l b
  rw [e] at hgd ⊢
  refine ⟨w5, hrun, ⟨⟨A, c, ?_, ?_⟩, ⟨k + 1, _, hown, by omega, ?_⟩, hgd, h.hq, h.hmp⟩, (Tn.refl w).mapped h.hmp hB hg⟩
  · have := b1.grown hg (by simpa using map_ne_blk m1 b1)
    simpa using this
  · exact b2.kept hg (.inr (Ne.symm (map_ne_own m1 b2)))
  · have := m3.put m1.isMap (v := l.toNat) (by omega) b
    rw [show ((l.toNat : Nat) : Int) = l by omega] at this
    exact this

/-- the refs of one deed: what they tell (which of two is stored first, the language leaves open) -/
def refsF (k1 v1 k2 v2 x : Int) : Option Int := if x = k2 then some v2 else if x = k1 then some v1 else none
def FOk (f : Int → Option Int) : Prop := ∀ x y, f x = some y → -9223372036854775808 ≤ y ∧ y ≤ 9223372036854775807
theorem refsF_ok {k1 v1 k2 v2 : Int} (h1 : -9223372036854775808 ≤ v1 ∧ v1 ≤ 9223372036854775807) (h2 : -9223372036854775808 ≤ v2 ∧ v2 ≤ 9223372036854775807) : FOk (refsF k1 v1 k2 v2) := by
  intro x y h
  unfold refsF at h
  split at h
  · injection h with h; omega
  · split at h
    · injection h with h; omega
    · cases h
theorem refs_map (w : World) {k1 v1 k2 v2 : Int} (h1 : -9223372036854775808 ≤ k1 ∧ k1 ≤ 9223372036854775807) (h2 : -9223372036854775808 ≤ v1 ∧ v1 ≤ 9223372036854775807) (h3 : -9223372036854775808 ≤ k2 ∧ k2 ≤ 9223372036854775807) (h4 : -9223372036854775808 ≤ v2 ∧ v2 ≤ 9223372036854775807) :
    ∃ wA wB D, (Instr.mapUpdate 39 (.map (some w.heap.size)) (.int .i64 k1) (.int .i64 v1)).run Try.prog (w.alloc (.map #[] 0)).drew = .ok () wA ∧ (Instr.mapUpdate 39 (.map (some w.heap.size)) (.int .i64 k2) (.int .i64 v2)).run Try.prog wA = .ok () wB ∧
      wB.ownsMap Try.prog 3 (plainElem (H := Unit) Try.prog 3) w.heap.size 2 D ∧ MapF D (refsF k1 v1 k2 v2) ∧ Below w.heap.size w wB ∧ Below w.heap.size w wA := by
  have m0 : (w.alloc (.map #[] 0)).drew.ownsMap Try.prog 3 (plainElem (H := Unit) Try.prog 3) w.heap.size 0 (.map []) := (World.ownsMap_made w Try.prog 3 (plainElem (H := Unit) Try.prog 3)).drew
  obtain ⟨wA, hr1, o1, g1⟩ := m0.update intLaw12 Try.underlying39 (by unfold maxLen; omega) (Maps.keyOf_int_mk Try.underlying3 (WalkArith.wf_i64 h1)) (plainElem_int Try.underlying3 (WalkArith.wf_i64 h2))
  obtain ⟨wB, hr2, o2, g2⟩ := o1.update intLaw12 Try.underlying39 (by unfold maxLen; omega) (Maps.keyOf_int_mk Try.underlying3 (WalkArith.wf_i64 h3)) (plainElem_int Try.underlying3 (WalkArith.wf_i64 h4))
  refine ⟨wA, wB, _, hr1, hr2, o2, fun x hx1 hx2 => ?_, ?_, (((Below.refl w.heap.size w).alloc (Nat.le_refl _) _).drew).grown g1 (by simp) (fun k hk => by injection hk with hk; omega)⟩
  · have hk : ∀ z : Int, WideAt.IsKeyLit (.int .i64 z) := fun _ => trivial
    unfold refsF
    by_cases h3 : x = k2
    · subst h3
      rw [if_pos rfl]
      refine ⟨by rw [Maps.has_put_same o1.isMap (hk _)]; rfl, fun y hy => ?_⟩
      injection hy with hy
      subst hy
      rw [Maps.atKey_put_same o1.isMap (hk _)]
    · have n3 : (Lit.int .i64 x) ≠ .int .i64 k2 := by intro e; injection e with _ e; exact h3 e
      rw [if_neg h3]
      by_cases hxr : x = k1
      · subst hxr
        rw [if_pos rfl]
        refine ⟨by rw [Maps.has_put_other n3, Maps.has_put_same m0.isMap (hk _)]; rfl, fun y hy => ?_⟩
        injection hy with hy
        subst hy
        rw [Maps.atKey_put_other n3, Maps.atKey_put_same m0.isMap (hk _)]
      · have nr : (Lit.int .i64 x) ≠ .int .i64 k1 := by intro e; injection e with _ e; exact hxr e
        rw [if_neg hxr]
        refine ⟨by rw [Maps.has_put_other n3, Maps.has_put_other nr]; rfl, fun y hy => by cases hy⟩
  · exact (((((Below.refl w.heap.size w).alloc (Nat.le_refl _) _).drew).grown g1 (by simp) (fun k hk => by injection hk with hk; omega)).grown g2 (by have := g1.size; simp at this; omega) (fun k hk => by injection hk with hk; omega))
theorem map_tn {w w' : World} {ts : List TypeId} {base P B k : Nat} {D : DataW Unit} {R : Value → Option (DataW Unit × List MemPlace)} {pr : Program} {ky : TypeId} (h : w.ownsMap pr ky R B k D) (ht : Tn ts base P w w') (hne : B ≠ P) : w'.ownsMap pr ky R B k D := by
  obtain ⟨es, clock, hb, rest⟩ := h
  exact ⟨es, clock, ht.keep B _ hb hne (fun cs t z e => by cases e), rest⟩
theorem Blk.farN12 {w : World} {g p : Nat} {t : TypeId} {cs : Array Value} (h : Blk w g t cs) (hp : g ≠ p) (i : Nat) (u : Value) : Blk (w.setCell ⟨p, i, none⟩ u) g t cs := h.far (p := ⟨p, i, none⟩) hp u
theorem own3_put {w : World} {base e L n c s : Nat} {xs : List Value} (h : w.ownsRow base e s (.slice (some ⟨L, 0, none⟩) n c) n xs) (j : Nat) (u : Value) : (w.setCell ⟨L, j, none⟩ u).ownsRow base e s (.slice (some ⟨L, 0, none⟩) n c) n (xs.set j u) := by
  refine ⟨by rw [List.length_set]; exact h.1, ?_⟩
  rcases h.2 with ⟨hv, _⟩ | ⟨g', cap', cur, hv, hb', hg', hnc, hmx, hcs, htk⟩
  · cases hv
  · injection hv with hA _ hC
    injection hA with hA
    injection hA with hA
    subst hA hC
    refine .inr ⟨L, c, cur.setIfInBounds j u, rfl, hb', ?_, hnc, hmx, by rw [Array.size_setIfInBounds]; exact hcs, ?_⟩
    · simp [World.setCell, Array.getElem?_modify, hg']
    · rw [Array.toList_setIfInBounds, List.take_set, htk]
theorem stepsV_why {rs : List Rec} {i : Nat} {r : Rec} (h : rs[i]? = some r) (y : Int) : (stepsV rs).set (i * 3 + 2) (.int .i64 y) = stepsV (rs.set i ⟨r.l, r.lev, y⟩) := by
  induction rs generalizing i with
  | nil => simp at h
  | cons s rs ih =>
    cases i with
    | zero =>
      simp at h
      subst h
      simp [stepsV, stepV]
    | succ i =>
      have := ih (i := i) (by simpa using h)
      show (stepV s ++ stepsV rs).set ((i + 1) * 3 + 2) _ = stepV s ++ stepsV (rs.set i _)
      rw [List.set_append_right _ _ (by simp [stepV]; omega), ← this]
      congr 2
      simp [stepV]
      omega
end Go.Proofs.Ytihljekdipengaa
