/- One clause of those that wait at a literal: what holds stays. -/
import Derived.Test.YthcpfaahcncfjaaGreatDoorWat07
namespace Go.Proofs.YthcpfaahcncfjaaGreatDoor
open Go.RowKit
set_option linter.unusedVariables false
set_option linter.unusedSimpArgs false

section
variable {X X' : SX} {fo fo' : List Bool} {L : List Int} {E : Int → Prop} {l : Int} {kept rest : List Nat} {p : Nat} {r b' : Bool}
theorem Mid8.skip (h : Mid8 X fo L E l kept (p :: rest) false) : Mid8 X fo L E l (kept ++ [p]) rest false :=
  ⟨h.cl, h.plen, h.pile, by rw [List.append_assoc]; exact h.here, h.fw, h.neg, h.sound, h.eF, fun e => (by cases e), h.clash⟩
theorem SX.cs_cl (X : SX) (p : Nat) (x : CX) (h : x.lits = (X.C p).lits) (hg : x.gone = (X.C p).gone) (i : Nat) (v : Value) (ps : List Nat) : ((X.cl p x).pile i v ps).cs = X.cs := by
  have hl : ((X.cl p x).pile i v ps).live = X.live := by
    unfold SX.live
    refine List.filter_congr fun q hq => ?_
    show (!(if q = p then x else X.C q).gone) = _
    by_cases e : q = p
    · rw [if_pos e, hg, e]
    · rw [if_neg e]
  unfold SX.cs
  rw [hl]
  refine List.map_congr_left fun q hq => ?_
  show (if q = p then x else X.C q).lits = _
  by_cases e : q = p
  · rw [if_pos e, h, e]
  · rw [if_neg e]
theorem Mid8.waits (h : Mid8 X fo L E l kept (p :: rest) true) : p ∈ X.ps ∧ Waits (X.C p) (ix l) ∧ p ∉ kept ∧ p ∉ rest := by
  obtain ⟨h1, h2, _⟩ := h.here
  have hp := h2 p (by simp)
  rw [List.nodup_append] at h1
  obtain ⟨a, b, c⟩ := h1
  rw [List.nodup_cons] at b
  exact ⟨hp.1, hp.2, fun hk => c p hk p (by simp) rfl, b.1⟩
/-- one that is gone is let go -/
theorem Mid8.gone (h : Mid8 X fo L E l kept (p :: rest) true) (hgn : (X.C p).gone = true) : Mid8 X fo L E l kept rest true := by
  obtain ⟨hp, hw, hpk, hpr⟩ := h.waits
  obtain ⟨h1, h2, h3⟩ := h.here
  rw [List.nodup_append] at h1
  obtain ⟨a, b, c⟩ := h1
  rw [List.nodup_cons] at b
  refine ⟨h.cl, h.plen, h.pile, ⟨List.nodup_append.2 ⟨a, b.2, fun y hy z hz => c y hy z (by simp [hz])⟩, fun q hq => h2 q ?_, fun q hq hg hw => ?_⟩, h.fw, h.neg, h.sound, h.eF, fun _ q hq hg hq2 => ?_, fun e => (by cases e)⟩
  · rcases List.mem_append.1 hq with hq | hq
    · simp [hq]
    · simp [hq]
  · have hne : q ≠ p := fun e => by rw [e, hgn] at hg; cases hg
    have := h3 q hq hg hw
    simp [hne] at this
    simpa using this
  · have hne : q ≠ p := fun e => by rw [e, hgn] at hg; cases hg
    have := h.watch rfl q hq hg hq2
    exact ⟨fun hE => this.1 (by rcases hE with hE | ⟨x, y⟩; exact .inl hE; exact .inr ⟨by simp [hne, x], y⟩), fun hE => this.2 (by rcases hE with hE | ⟨x, y⟩; exact .inl hE; exact .inr ⟨by simp [hne, x], y⟩)⟩
theorem Mid8.moved (h : Mid8 X fo L E l kept (p :: rest) true) (hgn : (X.C p).gone = false) (hl : Lt7 X.V l) {k : Nat} {v : Value} (hk : nextFree fo (otherOf (X.C p) l) (X.C p).lits (X.C p).tried = some k) (hnum : 2 * X.V ≤ X.pss.length) :
    Mid8 ((X.cl p { X.C p with w0 := otherOf (X.C p) l, w1 := (X.C p).lits.getD k 0, tried := k }).pile (ix ((X.C p).lits.getD k 0)) v (X.pss.getD (ix ((X.C p).lits.getD k 0)) [] ++ [p])) fo L E l kept rest true := by
  obtain ⟨hp, hw, hpk, hpr⟩ := h.waits
  have hcl := h.cl p hp
  obtain ⟨o1, o2, o3, o4⟩ := other_of_waits hcl hl hw
  obtain ⟨hk1, hk2⟩ := nextFree_some hk
  have hxm := (take_snoc7 hk1).2
  have hw2 := h.watch rfl p hp hgn hw.1
  obtain ⟨o, ho⟩ : ∃ o, o = otherOf (X.C p) l := ⟨_, rfl⟩
  obtain ⟨x, hx⟩ : ∃ x, x = (X.C p).lits.getD k 0 := ⟨_, rfl⟩
  rw [← ho] at hk2 o1 o2 o4 ⊢
  rw [← hx] at hk2 hxm ⊢
  have hol := hcl.lt o o1
  have hxl := hcl.lt x hxm
  obtain ⟨f1, f2⟩ := (free_iff h.fw hxl).1 hk2
  have hxne : x ≠ l := fun e => f2 (e ▸ h.neg)
  have hixl : ix x ≠ ix l := fun e => hxne (ix_inj hxl hl e)
  have hiol : ix o ≠ ix l := fun e => o2 (ix_inj hol hl e)
  have hixo : ix x ≠ ix o := fun e => f1 (ix_inj hxl hol e)
  have hCp : ∀ q, ((X.cl p { X.C p with w0 := o, w1 := x, tried := k }).pile (ix x) v (X.pss.getD (ix x) [] ++ [p])).C q = if q = p then { X.C p with w0 := o, w1 := x, tried := k } else X.C q := fun q => rfl
  have hWold : ∀ j, j ≠ ix l → (Waits (X.C p) j ↔ j = ix o) := fun j hj => by
    unfold Waits
    rcases o4 with ⟨e1, e2⟩ | ⟨e1, e2⟩
    · rw [e1, e2]; exact ⟨fun ⟨_, h⟩ => by rcases h with h | h; exact absurd h.symm hj; exact h.symm, fun e => ⟨hw.1, .inr e.symm⟩⟩
    · rw [e1, e2]; exact ⟨fun ⟨_, h⟩ => by rcases h with h | h; exact h.symm; exact absurd h.symm hj, fun e => ⟨hw.1, .inl e.symm⟩⟩
  have hWnew : ∀ j, (Waits { X.C p with w0 := o, w1 := x, tried := k } j ↔ (j = ix o ∨ j = ix x)) := fun j => by
    unfold Waits
    exact ⟨fun ⟨_, h⟩ => by rcases h with h | h; exact .inl h.symm; exact .inr h.symm, fun h => ⟨hw.1, by rcases h with h | h; exact .inl h.symm; exact .inr h.symm⟩⟩
  refine ⟨fun q hq => ?_, h.plen, fun j hj hjl => ?_, ?_, ⟨h.fw.flen, h.fw.tie, h.fw.nd, h.fw.lt, h.fw.con⟩, h.neg, fun z hz => by rw [SX.cs_cl X p { X.C p with w0 := o, w1 := x, tried := k } rfl rfl]; exact h.sound z hz, h.eF, fun _ q hq hqg h2 => ?_, fun e => (by cases e)⟩
  · rw [hCp]
    by_cases e : q = p
    · rw [if_pos e]
      exact ⟨hcl.lt, hcl.len, fun _ => ⟨o1, hxm, Ne.symm f1, hk1⟩⟩
    · rw [if_neg e]; exact h.cl q hq
  · obtain ⟨p1, p2, p3⟩ := h.pile j hj hjl
    have hj' : j < X.pss.length := by have : j < 2 * X.V := hj; omega
    show InPile _ ((X.pss.set (ix x) (X.pss.getD (ix x) [] ++ [p])).getD j []) j
    by_cases ej : j = ix x
    · subst ej
      rw [getD_set_same hj']
      have hpn : p ∉ X.pss.getD (ix x) [] := fun hm => by
        have := (hWold _ hjl).1 (p2 p hm).2
        exact hixo this
      refine ⟨List.nodup_append.2 ⟨p1, by simp, fun a ha b hb => by rw [List.mem_singleton] at hb; rw [hb]; exact fun e => hpn (e ▸ ha)⟩, fun q hq => ?_, fun q hq hqg hqw => ?_⟩
      · rw [List.mem_append, List.mem_singleton] at hq
        rw [hCp]
        by_cases e : q = p
        · subst e
          rw [if_pos rfl, hWnew]
          exact ⟨hp, .inr rfl⟩
        · rw [if_neg e]
          exact p2 q (by rcases hq with hq | hq; exact hq; exact absurd hq e)
      · rw [List.mem_append, List.mem_singleton]
        rw [hCp] at hqg hqw
        by_cases e : q = p
        · exact .inr e
        · rw [if_neg e] at hqg hqw
          exact .inl (p3 q hq hqg hqw)
    · rw [getD_set_other (Ne.symm ej)]
      refine ⟨p1, fun q hq => ?_, fun q hq hqg hqw => ?_⟩
      · have h2 := p2 q hq
        rw [hCp]
        by_cases e : q = p
        · subst e
          rw [if_pos rfl, hWnew]
          exact ⟨hp, .inl ((hWold j hjl).1 h2.2)⟩
        · rw [if_neg e]; exact h2
      · rw [hCp] at hqg hqw
        by_cases e : q = p
        · subst e
          rw [if_pos rfl, hWnew] at hqw
          exact p3 q hp hgn ((hWold j hjl).2 (by rcases hqw with h | h; exact h; exact absurd h ej))
        · rw [if_neg e] at hqg hqw
          exact p3 q hq hqg hqw
  · obtain ⟨h1, h2, h3⟩ := h.here
    have h1' := h1
    rw [List.nodup_append] at h1
    obtain ⟨a, b, c⟩ := h1
    rw [List.nodup_cons] at b
    refine ⟨List.nodup_append.2 ⟨a, b.2, fun y hy z hz => c y hy z (by simp [hz])⟩, fun q hm => ?_, fun q hq hqg hqw => ?_⟩
    · have e : q ≠ p := fun e => by
        subst e
        rcases List.mem_append.1 hm with hm | hm
        · exact absurd hm hpk
        · exact absurd hm hpr
      rw [hCp, if_neg e]
      refine h2 q ?_
      rcases List.mem_append.1 hm with hm | hm
      · simp [hm]
      · simp [hm]
    · rw [hCp] at hqg hqw
      by_cases e : q = p
      · subst e
        rw [if_pos rfl, hWnew] at hqw
        rcases hqw with hm | hm
        · exact absurd hm.symm hiol
        · exact absurd hm.symm hixl
      · rw [if_neg e] at hqg hqw
        have := h3 q hq hqg hqw
        simp [e] at this
        simpa using this
  · rw [hCp] at h2 hqg ⊢
    by_cases e : q = p
    · subst e
      rw [if_pos rfl]
      refine ⟨fun hE => ?_, fun hE => ?_⟩
      · rcases hE with hE | ⟨_, hE⟩
        · rcases o4 with ⟨e1, e2⟩ | ⟨e1, e2⟩
          · have := hw2.2 (.inl (by rw [e2]; exact hE))
            rw [e1] at this
            exact absurd h.neg (h.fw.con l this)
          · have := hw2.1 (.inl (by rw [e1]; exact hE))
            rw [e2] at this
            exact absurd h.neg (h.fw.con l this)
        · exact absurd hE o2
      · rcases hE with hE | ⟨_, hE⟩
        · exact absurd (h.eF _ hE) f2
        · exact absurd hE hxne
    · rw [if_neg e] at h2 hqg ⊢
      have := h.watch rfl q hq hqg h2
      exact ⟨fun hE => this.1 (by rcases hE with hE | ⟨a, b⟩; exact .inl hE; exact .inr ⟨by simp [e, a], b⟩), fun hE => this.2 (by rcases hE with hE | ⟨a, b⟩; exact .inl hE; exact .inr ⟨by simp [e, a], b⟩)⟩

/-- nothing is free: the other literal follows, or all clashes -/
theorem Mid8.none_free (h : Mid8 X fo L E l kept (p :: rest) true) (hk : nextFree fo (otherOf (X.C p) l) (X.C p).lits (X.C p).tried = none) : ∀ y, y ∈ (X.C p).lits → y ≠ otherOf (X.C p) l → -y ∈ X.fd := by
  obtain ⟨hp, hw, hpk, hpr⟩ := h.waits
  intro y hy hne
  have h1 := nextFree_none hk y hy
  have h2 := mt (free_iff (o := otherOf (X.C p) l) h.fw ((h.cl p hp).lt y hy)).2 (by rw [h1]; decide)
  by_cases hm : -y ∈ X.fd
  · exact hm
  · exact absurd ⟨hne, hm⟩ h2
theorem Mid8.stayed (h : Mid8 X fo L E l kept (p :: rest) true) (hgn : (X.C p).gone = false) (hl : Lt7 X.V l) (hwhy : fo.getD (ix (otherOf (X.C p) l)) false = true ∨ nextFree fo (otherOf (X.C p) l) (X.C p).lits (X.C p).tried = none) (hb : b' = !(fo.getD (ix (-(otherOf (X.C p) l))) false)) (hs : SameButFd X X')
    (ha : fo.getD (ix (-(otherOf (X.C p) l))) false = true → X' = X ∧ fo' = fo) (hb2 : fo.getD (ix (-(otherOf (X.C p) l))) false = false → fo.getD (ix (otherOf (X.C p) l)) false = true → X' = X ∧ fo' = fo)
    (hc : fo.getD (ix (-(otherOf (X.C p) l))) false = false → fo.getD (ix (otherOf (X.C p) l)) false = false → X'.fd = X.fd ++ [otherOf (X.C p) l] ∧ fo' = fo.set (ix (otherOf (X.C p) l)) true) : Mid8 X' fo' L E l (kept ++ [p]) rest b' := by
  obtain ⟨hp, hw, hpk, hpr⟩ := h.waits
  have hcl := h.cl p hp
  obtain ⟨o1, o2, o3, o4⟩ := other_of_waits hcl hl hw
  have hnone := fun e => h.none_free e
  have hwp := h.watch rfl p hp hgn hw.1
  have hol := hcl.lt _ o1
  obtain ⟨o, ho⟩ : ∃ o, o = otherOf (X.C p) l := ⟨_, rfl⟩
  rw [← ho] at hwhy hb ha hb2 hc o1 o2 o4 hnone hol
  have tneg := h.fw.tie _ hol.neg
  have tpos := h.fw.tie _ hol
  have hhere : InPile X (kept ++ [p] ++ rest) (ix l) := by rw [List.append_assoc]; exact h.here
  -- with o there, the clause is well
  have hwat : ∀ fd' : List Int, (∀ z, z ∈ X.fd → z ∈ fd') → o ∈ fd' → -o ∉ X.fd → ∀ q, q ∈ X.ps → (X.C q).gone = false → 2 ≤ (X.C q).lits.length → (E (-(X.C q).w0) ∨ (q ∉ rest ∧ (X.C q).w0 = l) → (X.C q).w1 ∈ fd') ∧ (E (-(X.C q).w1) ∨ (q ∉ rest ∧ (X.C q).w1 = l) → (X.C q).w0 ∈ fd') := by
    intro fd' hsub hof hno q hq hqg h2
    by_cases e : q = p
    · subst e
      rcases o4 with ⟨e1, e2⟩ | ⟨e1, e2⟩
      · rw [e1, e2]
        exact ⟨fun _ => hof, fun hE => by rcases hE with hE | ⟨_, hE⟩; exact absurd (h.eF _ hE) hno; exact absurd hE o2⟩
      · rw [e1, e2]
        exact ⟨fun hE => (by rcases hE with hE | ⟨_, hE⟩; exact absurd (h.eF _ hE) hno; exact absurd hE o2), fun _ => hof⟩
    · have := h.watch rfl q hq hqg h2
      exact ⟨fun hE => hsub _ (this.1 (by rcases hE with hE | ⟨a, b⟩; exact .inl hE; exact .inr ⟨by simp [e, a], b⟩)), fun hE => hsub _ (this.2 (by rcases hE with hE | ⟨a, b⟩; exact .inl hE; exact .inr ⟨by simp [e, a], b⟩))⟩
  cases hneg : fo.getD (ix (-o)) false with
  | true =>
    obtain ⟨rfl, rfl⟩ := ha hneg
    rw [hneg] at hb
    subst hb
    have hno := tneg.1 hneg
    refine ⟨h.cl, h.plen, h.pile, hhere, h.fw, h.neg, h.sound, h.eF, fun e => (by cases e), fun _ => ?_⟩
    rcases hwhy with e | e
    · exact absurd hno (h.fw.con _ (tpos.1 e))
    · refine .inr ⟨(X'.C p).lits, SX.mem_cs hp hgn, fun y hy => ?_⟩
      by_cases ey : y = o
      · rw [ey]; exact h.sound _ hno
      · exact h.sound _ (hnone e y hy ey)
  | false =>
    rw [hneg] at hb
    subst hb
    have hno : -o ∉ X.fd := fun hm => by rw [tneg.2 hm] at hneg; cases hneg
    cases hpos : fo.getD (ix o) false with
    | true =>
      obtain ⟨rfl, rfl⟩ := hb2 hneg hpos
      exact ⟨h.cl, h.plen, h.pile, hhere, h.fw, h.neg, h.sound, h.eF, fun _ => hwat _ (fun _ h => h) (tpos.1 hpos) hno, fun e => (by cases e)⟩
    | false =>
      obtain ⟨hfd, rfl⟩ := hc hneg hpos
      have hone : nextFree fo o (X.C p).lits (X.C p).tried = none := by
        rcases hwhy with e | e
        · rw [hpos] at e; cases e
        · exact e
      have hon : o ∉ X.fd := fun hm => by rw [tpos.2 hm] at hpos; cases hpos
      have hcs : X'.cs = X.cs := by unfold SX.cs SX.live; rw [hs.ps, hs.C]
      refine ⟨by rw [hs.ps, hs.V, hs.C]; exact h.cl, by rw [hs.ps]; exact h.plen, by unfold InPile; rw [hs.V, hs.pss, hs.ps, hs.C]; exact h.pile, by unfold InPile; rw [hs.ps, hs.C]; exact hhere, h.fw.add hs.V hol hon hno hfd, by rw [hfd]; exact List.mem_append_left _ h.neg, fun z hz => ?_, fun z hz => by rw [hfd]; exact List.mem_append_left _ (h.eF z hz), fun _ => ?_, fun e => (by cases e)⟩
      · rw [hcs]
        rw [hfd] at hz
        rcases List.mem_append.1 hz with hz | hz
        · exact h.sound z hz
        · rw [List.mem_singleton.1 hz]
          exact Fol.closed (X.C p).lits (SX.mem_cs hp hgn) o o1 fun y hy hne => h.sound _ (hnone hone y hy hne)
      · rw [hs.ps, hs.C, hfd]
        exact hwat _ (fun z hz => List.mem_append_left _ hz) (by simp) hno
/-- one clause more -/
theorem Mid8.step {b : Bool} (h : Mid8 X fo L E l kept (p :: rest) b) (hl : Lt7 X.V l) (hnum : 2 * X.V ≤ X.pss.length) (he : StepE X fo b l p r b' X' fo') : Mid8 X' fo' L E l (if r then kept else kept ++ [p]) rest b' := by
  rcases he with ⟨rfl, rfl, rfl, rfl, rfl⟩ | ⟨rfl, he⟩
  · exact h.skip
  · rcases he with ⟨hg, rfl, rfl, rfl, rfl⟩ | ⟨hg, rfl, rfl, rfl, _, k, v, hk, rfl⟩ | ⟨hg, rfl, h1, h2, h3, h4, h5, h6⟩
    · exact h.gone hg
    · exact h.moved hg hl hk hnum
    · exact h.stayed hg hl h1 h2 h3 h4 h5 h6
end
end Go.Proofs.YthcpfaahcncfjaaGreatDoor
