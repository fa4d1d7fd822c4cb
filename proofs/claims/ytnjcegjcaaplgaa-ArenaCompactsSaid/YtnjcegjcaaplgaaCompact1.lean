/- Compact: what is so behind its loop over the clauses. -/
import Derived.Test.YtnjcegjcaaplgaaCompact0
import Derived.Maps.RangeWalk
namespace Go.Proofs.Ytnjcegjcaaplgaa
open Go.RowKit Go.Shelf
set_option linter.unusedVariables false

theorem starts_lb (cs : List Cl) : ∀ (p : Nat), ∀ x ∈ startsFrom p cs, (p : Int) ≤ x := by
  induction cs with
  | nil => intro p x h; cases h
  | cons c r ih =>
    intro p x h
    have := c.size_pos
    rcases List.mem_cons.1 h with rfl | h
    · exact Int.le_refl _
    · have := ih _ x h; omega
theorem starts_rise (cs : List Cl) : ∀ (p : Nat), (startsFrom p cs).Pairwise (· < ·) := by
  induction cs with
  | nil => intro p; exact List.Pairwise.nil
  | cons c r ih =>
    intro p
    have := c.size_pos
    exact List.Pairwise.cons (fun x hx => by have := starts_lb r _ x hx; omega) (ih _)
theorem starts_has (cs : List Cl) : (∀ c ∈ cs, c.alive = true) → ∀ (p : Nat), ∀ x ∈ startsFrom p cs, (at? cs (x - p)).isSome = true := by
  induction cs with
  | nil => intro _ p x h; cases h
  | cons c r ih =>
    intro hal p x h
    have := c.size_pos
    rcases List.mem_cons.1 h with rfl | h
    · rw [Int.sub_self, at?, if_pos rfl, if_pos (hal c (by simp))]; rfl
    · have h1 := starts_lb r _ x h
      rw [at?, if_neg (by omega), show x - (p : Int) - c.size = x - ((p + c.size : Nat) : Int) by omega]
      exact ih (fun c hc => hal c (by simp [hc])) _ x h
theorem size_least (L : List Int) : L.Pairwise (· < ·) → ∀ (D : DataW Unit), Maps.Tidy D → (∀ x ∈ L, Maps.has D (.int .i64 x) = true) → L.length ≤ Maps.size D := by
  induction L with
  | nil => intro _ D _ _; exact Nat.zero_le _
  | cons x L ih =>
    intro hp D hD h
    obtain ⟨h1, h2⟩ := List.pairwise_cons.1 hp
    have h3 := ih h2 (D.del (.int .i64 x)) (hD.del _) fun y hy => by
      rw [Maps.has_del_other (by intro e; injection e with _ e; have := h1 y hy; omega)]
      exact h y (by simp [hy])
    have h4 := Maps.size_del (k := .int .i64 x) hD
    rw [h x (by simp), if_pos rfl] at h4
    simp
    omega

/-- the place of the map that is filled anew -/
def Filled (X : World) (b : Nat) (cs : List Cl) (left : Lit → Bool) (cnt : Nat) : Prop :=
  ∃ (D : DataW Unit) (n : Nat), X.ownsMap Try.prog 3 (unitElem (H := Unit)) b n D ∧ (∀ x : Int, Maps.has D (.int .i64 x) = true ↔ ∃ k : Int, movedFrom 0 cs k = some x ∧ left (.int .i64 k) = false) ∧ n + cnt ≤ countOf cs

theorem Filled.done {X : World} {b : Nat} {cs : List Cl} {left : Lit → Bool} (h : Filled X b cs left 0) (hl : ∀ kl, left kl = false) : There X b (live cs) := by
  obtain ⟨D, n, hm, hh, hn⟩ := h
  have hb : ∀ x : Int, Maps.has D (.int .i64 x) = (at? (live cs) x).isSome := by
    intro x
    rw [Bool.eq_iff_iff, hh]
    constructor
    · rintro ⟨k, hk, _⟩
      have := (moved_to cs 0 k x hk).2
      simpa using this
    · intro h
      obtain ⟨k, hk⟩ := moved_from cs 0 x h
      exact ⟨k, by simpa using hk, hl _⟩
  have h1 : (live cs).length ≤ Maps.size D := by
    have := size_least (startsFrom 0 (live cs)) (starts_rise _ 0) D (hm.tidy intLaw) fun x hx => by
      rw [hb]
      simpa using starts_has (live cs) (live_alive cs) 0 x hx
    rwa [startsFrom_length] at this
  have h2 : Maps.size D ≤ n := by
    obtain ⟨es, clock, _, _, hs, rfl⟩ := hm
    simpa [Maps.size, length_sorted] using hs
  rw [live_length] at h1
  exact ⟨D, n, hm, hb, by rw [count_live]; omega, by rw [live_length]; omega⟩

theorem Filled.more {X' : World} {b : Nat} {cs : List Cl} {left : Lit → Bool} {cnt cnt' : Nat} {k c : Int} {D : DataW Unit} {n : Nat}
    (hh : ∀ x : Int, Maps.has D (.int .i64 x) = true ↔ ∃ k : Int, movedFrom 0 cs k = some x ∧ left (.int .i64 k) = false) (hn : n + cnt ≤ countOf cs) (hD : Maps.IsMap D) (hk : left (.int .i64 k) = true) (hc : movedFrom 0 cs k = some c) (hlt : cnt' < cnt)
    (hm : X'.ownsMap Try.prog 3 (unitElem (H := Unit)) b (n + 1) (D.put (.int .i64 c) (.agg []))) : Filled X' b cs (fun z => left z && !z.sameKey (.int .i64 k)) cnt' := by
  refine ⟨_, _, hm, fun x => ?_, by omega⟩
  have hkl : WideAt.IsKeyLit (.int .i64 c) := trivial
  by_cases hx : x = c
  · rw [hx, Maps.has_put_same hD hkl]
    refine ⟨fun _ => ⟨k, hc, ?_⟩, fun _ => rfl⟩
    show (left (.int .i64 k) && !Lit.sameKey (.int .i64 k) (.int .i64 k)) = false
    rw [WideAt.sameKey_self (show WideAt.IsKeyLit (.int .i64 k) from trivial)]
    simp
  · rw [Maps.has_put_other (by intro e; injection e with _ e; exact hx e), hh]
    constructor
    · rintro ⟨j, h1, h2⟩
      exact ⟨j, h1, by show (left (.int .i64 j) && !Lit.sameKey (.int .i64 j) (.int .i64 k)) = false; rw [h2]; rfl⟩
    · rintro ⟨j, h1, h2⟩
      refine ⟨j, h1, ?_⟩
      by_cases hj : j = k
      · subst hj
        rw [hc] at h1
        injection h1 with h1
        exact absurd h1.symm hx
      · cases hl : left (.int .i64 j)
        · rfl
        · have h2 : (left (.int .i64 j) && !Lit.sameKey (.int .i64 j) (.int .i64 k)) = false := h2
          rw [hl] at h2
          have : (Lit.int .i64 j).sameKey (.int .i64 k) = true := by simpa using h2
          have := WideAt.sameKey_eq this
          injection this with _ this
          exact absurd this hj

/-- behind the loop over the clauses: the words are cut -/
structure CE (w0 : World) (base g b e c : Nat) (A : Option Addr) (lim : Int) (cs : List Cl) (Dm : Nat) (X : World) : Prop where
  ba : Blk X w0.heap.size 25 #[.pointer (some ⟨g, 0, none⟩)]
  bm : Blk X (w0.heap.size + 2) 45 #[.map (some (w0.heap.size + 1))]
  bg : Blk X g 53 #[.slice A e c, .int .i64 lim, .map (some b)]
  row : X.ownsRow base 3 1 (.slice A e c) e ((wordsOf (live cs)).map (Value.int .i64))
  tn : Turn w0 X g b (Value.slice A e c).ownBlock
  df : X.heap[Dm]? = some (.deferred (some []))
  hg : g < w0.heap.size
  hb : b < w0.heap.size
  hw : ∀ k, (Value.slice A e c).ownBlock = some k → k < w0.heap.size ∧ k ≠ b
  hD : w0.heap.size + 5 ≤ Dm
  hgb : g ≠ b

theorem CE.grown {w0 X X' : World} {base g b e c Dm k : Nat} {A : Option Addr} {lim : Int} {cs : List Cl} (h : CE w0 base g b e c A lim cs Dm X) (hk : k = b ∨ w0.heap.size + 5 ≤ k) (hkD : k ≠ Dm) (hgr : X.grownBy X' (some k)) : CE w0 base g b e c A lim cs Dm X' := by
  have h1 := h.hg
  have h2 := h.hb
  have h3 := h.hgb
  have hX := h.tn.size
  refine ⟨h.ba.grown hgr (by intro e; injection e with e; omega), h.bm.grown hgr (by intro e; injection e with e; omega), h.bg.grown hgr (by intro e; injection e with e; omega), ?_, ?_, ?_, h.hg, h.hb, h.hw, h.hD, h.hgb⟩
  · refine ⟨h.row.1, ?_⟩
    rcases h.row.2 with hn | ⟨gg, cap, cur, hv, hgg, hcell, rest⟩
    · exact .inl hn
    · refine .inr ⟨gg, cap, cur, hv, hgg, (hgr.block gg (Array.getElem?_eq_some_iff.1 hcell).1 ?_).trans hcell, rest⟩
      have := h.hw gg (by rw [hv]; rfl)
      intro e; injection e with e; omega
  · refine ⟨hgr.os.trans h.tn.os, hgr.tape.trans h.tn.tape, hgr.output.trans h.tn.output, Nat.le_trans h.tn.size hgr.size, fun j hj n1 n2 n3 => (hgr.block j (by omega) ?_).trans (h.tn.block j hj n1 n2 n3)⟩
    intro e; injection e with e; omega
  · exact (hgr.block Dm (Array.getElem?_eq_some_iff.1 h.df).1 (by intro e; injection e with e; omega)).trans h.df

theorem CE.drew_ {w0 X : World} {base g b e c Dm : Nat} {A : Option Addr} {lim : Int} {cs : List Cl} (h : CE w0 base g b e c A lim cs Dm X) : CE w0 base g b e c A lim cs Dm X.drew :=
  ⟨h.ba, h.bm, h.bg, h.row, ⟨h.tn.os, h.tn.tape, h.tn.output, h.tn.size, h.tn.block⟩, h.df, h.hg, h.hb, h.hw, h.hD, h.hgb⟩

theorem CI.cut {w0 W : World} {base g b T c Dm : Nat} {A : Option Addr} {lim : Int} {cs : List Cl} (h : CI w0 base g b T c A lim cs cs [] W) (hT : T = total cs) (hD : w0.heap.size + 5 ≤ Dm) (hdf : W.heap[Dm]? = some (.deferred (some []))) :
    CE w0 base g b (total (live cs)) c A lim cs Dm (W.setCell ⟨g, 0, none⟩ (.slice A (total (live cs)) c)) ∧ Moved (W.setCell ⟨g, 0, none⟩ (.slice A (total (live cs)) c)) (w0.heap.size + 1) cs ∧ There (W.setCell ⟨g, 0, none⟩ (.slice A (total (live cs)) c)) b cs := by
  have hg := h.hg
  have hle := total_live_le cs
  have far : ∀ k, k ≠ g → (W.setCell ⟨g, 0, none⟩ (.slice A (total (live cs)) c)).heap[k]? = W.heap[k]? := fun k hk => Below.heap_setCell W _ _ k hk
  obtain ⟨D, n, ⟨es, clock, x1, x2⟩, x3⟩ := h.ex
  obtain ⟨D', n', ⟨es', clock', y1, y2⟩, y3⟩ := h.mv
  have hgb : g ≠ b := by
    rintro rfl
    have := h.bg
    unfold Blk at this
    rw [x1] at this
    cases this
  obtain ⟨ws, r1, r2, r3⟩ := h.row
  have hggne : ∀ k cur, W.heap[k]? = some (.cells cur 3 (0, 0)) → k ≠ g ∧ k ≠ b := by
    intro k cur hk
    constructor
    · rintro rfl
      have := h.bg
      unfold Blk at this
      rw [hk] at this
      injection this with this
      injection this with _ this
      exact absurd this (by decide)
    · rintro rfl
      rw [hk] at x1
      cases x1
  refine ⟨⟨h.ba.far (by show w0.heap.size ≠ g; omega) _, h.bm.far (by show w0.heap.size + 2 ≠ g; omega) _, ?_, ?_, ?_, (far Dm (by omega)).trans hdf, h.hg, h.hb, ?_, hD, hgb⟩, ⟨D', n', ⟨es', clock', (far _ (by omega)).trans y1, y2⟩, y3⟩, ⟨D, n, ⟨es, clock, (far _ (Ne.symm hgb)).trans x1, x2⟩, x3⟩⟩
  · have := h.bg.set_ 0 (.slice A (total (live cs)) c)
    simpa using this
  · refine ⟨by rw [Nat.mul_one, List.length_map]; rfl, ?_⟩
    rcases r1.2 with ⟨hv, h0⟩ | ⟨gg, cap, cur, hv, hgg, hcell, hnc, hmx, hcs, htk⟩
    · injection hv with q1 q2 q3
      have : total (live cs) = 0 := by omega
      rw [this, q1, q3]
      exact .inl ⟨rfl, rfl⟩
    · injection hv with q1 q2 q3
      subst q1 q3
      refine .inr ⟨gg, c, cur, rfl, hgg, (far gg (hggne gg cur hcell).1).trans hcell, by omega, hmx, hcs, ?_⟩
      rw [Nat.mul_one] at htk ⊢
      rw [← r2, List.map_take, ← htk, List.take_take, Nat.min_eq_left (by omega)]
  · refine ⟨h.tn.os, h.tn.tape, h.tn.output, by simpa using h.tn.size, fun j hj n1 n2 n3 => (far j n1).trans (h.tn.block j hj n1 n2 ?_)⟩
    cases A <;> exact n3
  · intro k hk
    have hk' : (Value.slice A T c).ownBlock = some k := by cases A <;> exact hk
    refine ⟨h.hw k hk', ?_⟩
    rcases r1.2 with ⟨hv, h0⟩ | ⟨gg, cap, cur, hv, hgg, hcell, _⟩
    · injection hv with q1
      subst q1
      cases hk'
    · injection hv with q1
      subst q1
      injection hk' with hk'
      subst hk'
      exact (hggne gg cur hcell).2

open Go.ChangeMaps Go.MapKept in
theorem run_clear_map {P : Program} {w : World} {mty ty kt et : TypeId} {r clock : Nat} {es : Array MapEntry} (hm : P.underlying mty = some (.map kt et)) (hb : w.heap[r]? = some (.map es clock)) :
    ∃ w', (Builtin.clear_ #[mty] ty #[.map (some r)]).run P w = .ok (.tuple #[]) w' ∧ w'.heap[r]? = some (.map #[] clock) ∧ w.grownBy w' (some r) := by
  refine ⟨ChangeMaps.setBlock w r (.map #[] clock), by simp [Builtin.clear_, run_underlying hm, MapKept.run_getObj_map hb, MapKept.run_setObj_map _ hb, Result.andThen]; rfl, (MapKept.heap_set hb).1, rfl, rfl, rfl, by simp [ChangeMaps.setBlock], fun i hi hne => (MapKept.heap_set hb).2 i (by intro e; exact hne (by rw [e]))⟩

theorem There.clear {w : World} {b : Nat} {cs : List Cl} (h : There w b cs) : ∃ es clock, w.heap[b]? = some (.map es clock) := by
  obtain ⟨D, n, ⟨es, clock, h1, _⟩, _⟩ := h
  exact ⟨es, clock, h1⟩
theorem owns_none {w : World} {b clock : Nat} (h : w.heap[b]? = some (.map #[] clock)) : w.ownsMap Try.prog 3 (unitElem (H := Unit)) b 0 (.map []) :=
  ⟨#[], clock, h, ⟨by simp, MapKept.stamped_empty clock, by simp⟩, Nat.le_refl _, rfl⟩
theorem Moved.data {W : World} {bm : Nat} {pre : List Cl} (h : Moved W bm pre) : ∃ (D : DataW Unit) (n : Nat), W.ownsMap Try.prog 3 (plainElem (H := Unit) Try.prog 3) bm n D ∧ (∀ x : Int, Maps.has D (.int .i64 x) = (at? pre x).isSome) ∧
    (∀ (x y : Int) (z : DataW Unit), movedFrom 0 pre x = some y → D.atKey (.int .i64 x) z = .lit (.int .i64 y)) ∧ Maps.size D = countOf pre ∧ n ≤ pre.length := h
theorem owns_grown {w w' : World} {P : Program} {k : TypeId} {R : Value → Option (DataW Unit × List MemPlace)} {b n : Nat} {D : DataW Unit} {row : Option Nat} (h : w.ownsMap P k R b n D) (hg : w.grownBy w' row) (hb : some b ≠ row) : w'.ownsMap P k R b n D := by
  obtain ⟨es, clock, h1, h2⟩ := h
  exact ⟨es, clock, (hg.block b (Array.getElem?_eq_some_iff.1 h1).1 hb).trans h1, h2⟩
theorem Filled.grown {X X' : World} {b : Nat} {cs : List Cl} {left : Lit → Bool} {cnt : Nat} {row : Option Nat} (h : Filled X b cs left cnt) (hg : X.grownBy X' row) (hb : some b ≠ row) : Filled X' b cs left cnt := by
  obtain ⟨D, n, h1, h2⟩ := h
  exact ⟨D, n, owns_grown h1 hg hb, h2⟩
theorem moved_key {pre : List Cl} {DM : DataW Unit} {x c : Int} (h1 : ∀ x : Int, Maps.has DM (.int .i64 x) = (at? pre x).isSome) (h2 : ∀ (x y : Int) (z : DataW Unit), movedFrom 0 pre x = some y → DM.atKey (.int .i64 x) z = .lit (.int .i64 y))
    (hx : Maps.has DM (.int .i64 x) = true) (hat : ∀ zd, DM.atKey (.int .i64 x) zd = .lit (.int .i64 c)) : movedFrom 0 pre x = some c := by
  rw [h1, ← moved_isSome pre 0 x] at hx
  obtain ⟨y, hy⟩ := Option.isSome_iff_exists.1 hx
  have h3 := h2 x y (.agg []) hy
  rw [hat] at h3
  injection h3 with h3
  injection h3 with _ h3
  rw [hy, h3]
theorem Filled.start {X : World} {b : Nat} {cs : List Cl} {DM : DataW Unit} (h : X.ownsMap Try.prog 3 (unitElem (H := Unit)) b 0 (.map [])) (h1 : ∀ x : Int, Maps.has DM (.int .i64 x) = (at? cs x).isSome) (h2 : Maps.size DM = countOf cs) : Filled X b cs (Maps.has DM) (Maps.size DM) := by
  refine ⟨_, 0, h, fun x => ⟨fun h => (by cases h), ?_⟩, by omega⟩
  rintro ⟨k, hk, hl⟩
  rw [h1, ← moved_isSome cs 0 k, hk] at hl
  cases hl
theorem CE.ar {w0 X : World} {base g b c Dm : Nat} {gw : Option Nat} {A : Option Addr} {lim : Int} {cs : List Cl} (h : CE w0 base g b (total (live cs)) c A lim cs Dm X) (hm : There X b (live cs)) (hgw : (Value.slice A (total (live cs)) c).ownBlock = gw) (h1 : base ≤ g) (h2 : base ≤ b) : Ar X base g b gw lim (live cs) :=
  ⟨⟨A, c, h.bg, h.row, hgw⟩, hm, h1, h2⟩
theorem CE.fin {w0 X X' : World} {base g b c Dm : Nat} {gw : Option Nat} {A : Option Addr} {lim : Int} {cs : List Cl} {D : DataW Unit} {n : Nat} (h : CE w0 base g b (total (live cs)) c A lim cs Dm X) (hm : There X b (live cs)) (hgw : (Value.slice A (total (live cs)) c).ownBlock = gw) (h1 : base ≤ g) (h2 : base ≤ b)
    (hd : X.ownsMap Try.prog 3 (plainElem (H := Unit) Try.prog 3) (w0.heap.size + 1) n D)
    (hdd : (∀ x : Int, Maps.has D (.int .i64 x) = (at? cs x).isSome) ∧ (∀ (x y : Int) (z : DataW Unit), movedFrom 0 cs x = some y → D.atKey (.int .i64 x) z = .lit (.int .i64 y)) ∧ Maps.size D = countOf cs) (hn : n ≤ cs.length)
    (hX : X'.os = X.os ∧ X'.tape = X.tape ∧ X'.output = X.output ∧ X.heap.size ≤ X'.heap.size ∧ ∀ k, k ≠ Dm → X'.heap[k]? = X.heap[k]?) :
    Ar X' base g b gw lim (live cs) ∧ Turn w0 X' g b gw ∧ Moved X' (w0.heap.size + 1) cs := by
  obtain ⟨x1, x2, x3, x4, x5⟩ := hX
  have hg := h.hg
  have hb := h.hb
  have hDm := h.hD
  obtain ⟨d1, d2, d3⟩ := hdd
  refine ⟨⟨⟨A, c, (x5 g (by omega)).trans h.bg, ?_, hgw⟩, ?_, h1, h2⟩, ?_, ⟨D, n, ?_, d1, d2, d3, hn⟩⟩
  · refine ⟨h.row.1, ?_⟩
    rcases h.row.2 with hn | ⟨gg, cap, cur, hv, hgg, hcell, rest⟩
    · exact .inl hn
    · refine .inr ⟨gg, cap, cur, hv, hgg, (x5 gg ?_).trans hcell, rest⟩
      have := h.hw gg (by rw [hv]; rfl)
      omega
  · obtain ⟨D, n, ⟨es, clock, y1, y2⟩, y3⟩ := hm
    exact ⟨D, n, ⟨es, clock, (x5 b (by omega)).trans y1, y2⟩, y3⟩
  · refine ⟨x1.trans h.tn.os, x2.trans h.tn.tape, x3.trans h.tn.output, Nat.le_trans h.tn.size x4, fun j hj n1 n2 n3 => (x5 j (by omega)).trans (h.tn.block j hj n1 n2 (by rw [hgw]; exact n3))⟩
  · obtain ⟨es, clock, y1, y2⟩ := hd
    exact ⟨es, clock, (x5 _ (by omega)).trans y1, y2⟩
end Go.Proofs.Ytnjcegjcaaplgaa
