/- The statements' own clauses in memory, beside the arena. -/
import Derived.Test.YtnjcegjcaaplgaaArena5
import Derived.Test.YtnjcegjcaaplgaaAll
namespace Go.Proofs.Ytnjcegjcaaplgaa
open Go.RowKit
set_option linter.unusedVariables false
set_option linter.unusedSimpArgs false

theorem starts_sizes : ∀ (a b : List Cl) (p : Nat), a.map Cl.size = b.map Cl.size → startsFrom p a = startsFrom p b
  | [], [], _, _ => rfl
  | [], _ :: _, _, h => by simp at h
  | _ :: _, [], _, h => by simp at h
  | x :: a, y :: b, p, h => by
    simp only [List.map_cons, List.cons.injEq] at h
    simp only [startsFrom]
    rw [h.1, starts_sizes a b _ h.2]
theorem startOf_sizes {a b : List Cl} (h : a.map Cl.size = b.map Cl.size) (k : Nat) : startOf a k = startOf b k := by unfold startOf; rw [starts_sizes a b 0 h]
theorem get_mid {α : Type} (pre post : List α) (x y : α) {k : Nat} (hk : k ≠ pre.length) : (pre ++ x :: post)[k]? = (pre ++ y :: post)[k]? := by
  rcases Nat.lt_or_ge k pre.length with h | h
  · rw [List.getElem?_append_left h, List.getElem?_append_left h]
  · rw [List.getElem?_append_right h, List.getElem?_append_right h]
    obtain ⟨j, hj⟩ : ∃ j, k - pre.length = j + 1 := ⟨k - pre.length - 1, by omega⟩
    rw [hj]; rfl
theorem get_at {α : Type} (pre post : List α) (x : α) : (pre ++ x :: post)[pre.length]? = some x := by
  rw [List.getElem?_append_right (Nat.le_refl _), Nat.sub_self]; rfl

theorem Ar.far {w : World} {base g b : Nat} {gw : Option Nat} {lim : Int} {cs : List Cl} (h : Ar w base g b gw lim cs) {q j : Nat} (v : Value) (h1 : q ≠ g) (h2 : q ≠ b) (h3 : some q ≠ gw) : Ar (w.setCell ⟨q, j, none⟩ v) base g b gw lim cs := by
  have hb : ∀ k, k ≠ q → (w.setCell ⟨q, j, none⟩ v).heap[k]? = w.heap[k]? := fun k hk => Below.heap_setCell w _ v k hk
  have hg : w.grownBy (w.setCell ⟨q, j, none⟩ v) (some q) := ⟨rfl, rfl, rfl, by simp [World.setCell], fun k _ hne => hb k (by intro e; exact hne (by rw [e]))⟩
  obtain ⟨A, c, e1, e2, e3⟩ := h.ex
  refine ⟨⟨A, c, e1.far (Ne.symm h1) _, ⟨e2.1, ?_⟩, e3⟩, ?_, h.hg, h.hb⟩
  · rcases e2.2 with hn | ⟨q', cap, cur, hv, hb', hc, rest⟩
    · exact .inl hn
    · refine .inr ⟨q', cap, cur, hv, hb', (hb q' ?_).trans hc, rest⟩
      intro e
      apply h3
      rw [← e3, hv, ← e]
      rfl
  · obtain ⟨D, n, hm, rest⟩ := h.map
    exact ⟨D, n, hm.kept hg (by intro e; injection e with e; exact h2 e.symm), rest⟩

/-- a clause of the statements: its struct in block p, its literals in a row of its own -/
structure Clause (w : World) (D : Nat) (gw : Option Nat) (p : Nat) (s : Int) (cl : Cl) : Prop where
  ex : ∃ (L : Nat) (n1 n2 : Int) (lr : Bool) (zs : List Int), Blk w p 36 #[.int .i64 s, .int .i64 n1, .int .i64 n2, .slice (some ⟨L, 0, none⟩) cl.lits.length cl.lits.length, .bool lr, .bool (!cl.alive)] ∧ zs.length = cl.lits.length ∧ Blk w L 3 (zs.map (Value.int .i64)).toArray ∧ some L ≠ gw ∧ D ≤ L
  lo : D ≤ p
section
variable {w w' : World} {base g b D p : Nat} {gw gw' : Option Nat} {lim s : Int} {cs : List Cl} {cl : Cl}
theorem Clause.turn (h : Clause w D gw p s cl) (ha : Ar w base g b gw lim cs) (ht : Turn w w' g b gw) (hg : g < D) (hb : b < D) (hl : Later w gw gw') : Clause w' D gw' p s cl := by
  obtain ⟨⟨L, n1, n2, lr, zs, h1, h2, h3, h4, h5⟩, h6⟩ := h
  obtain ⟨A, c, hk, hown, hgw⟩ := ha.ex
  have hp : some p ≠ gw := hgw ▸ own_blk_ne hown h1 (by decide)
  refine ⟨⟨L, n1, n2, lr, zs, (ht.block p h1.lt (by omega) (by omega) hp).trans h1, h2, (ht.block L h3.lt (by omega) (by omega) h4).trans h3, ?_, h5⟩, h6⟩
  rcases hl with rfl | ⟨k, rfl, hk⟩
  · exact h4
  · intro e; injection e with e; have := h3.lt; omega
theorem Clause.below (h : Clause w D gw p s cl) (hb : Below w.heap.size w w') : Clause w' D gw p s cl := by
  obtain ⟨⟨L, n1, n2, lr, zs, h1, h2, h3, h4, h5⟩, h6⟩ := h
  exact ⟨⟨L, n1, n2, lr, zs, h1.below hb h1.lt, h2, h3.below hb h3.lt, h4, h5⟩, h6⟩
theorem Clause.int_ (h : Clause w D gw p s cl) {L0 : Nat} {xs : List Int} (hL : Blk w L0 3 (xs.map (Value.int .i64)).toArray) (j : Nat) (u : Int) : Clause (w.setCell ⟨L0, j, none⟩ (.int .i64 u)) D gw p s cl := by
  obtain ⟨⟨L, n1, n2, lr, zs, h1, h2, h3, h4, h5⟩, h6⟩ := h
  have hp : p ≠ L0 := h1.ne_ hL (by decide)
  by_cases e : L = L0
  · subst e
    have := h3.set_ j (.int .i64 u)
    refine ⟨⟨L, n1, n2, lr, zs.set j u, h1.far hp _, by simpa using h2, ?_, h4, h5⟩, h6⟩
    simpa [List.map_set] using this
  · exact ⟨⟨L, n1, n2, lr, zs, h1.far hp _, h2, h3.far e _, h4, h5⟩, h6⟩
theorem Clause.other (h : Clause w D gw p s cl) {q : Nat} {X : Array Value} (hq : Blk w q 36 X) (hne : p ≠ q) (j : Nat) (v : Value) : Clause (w.setCell ⟨q, j, none⟩ v) D gw p s cl := by
  obtain ⟨⟨L, n1, n2, lr, zs, h1, h2, h3, h4, h5⟩, h6⟩ := h
  exact ⟨⟨L, n1, n2, lr, zs, h1.far hne _, h2, h3.far (h3.ne_ hq (by decide)) _, h4, h5⟩, h6⟩
theorem Clause.put1 (h : Clause w D gw p s cl) (u : Int) : Clause (w.setCell ⟨p, 1, none⟩ (.int .i64 u)) D gw p s cl := by
  obtain ⟨⟨L, n1, n2, lr, zs, h1, h2, h3, h4, h5⟩, h6⟩ := h
  exact ⟨⟨L, u, n2, lr, zs, h1.set_ 1 (.int .i64 u), h2, h3.far (h3.ne_ h1 (by decide)) _, h4, h5⟩, h6⟩
theorem Clause.put2 (h : Clause w D gw p s cl) (u : Int) : Clause (w.setCell ⟨p, 2, none⟩ (.int .i64 u)) D gw p s cl := by
  obtain ⟨⟨L, n1, n2, lr, zs, h1, h2, h3, h4, h5⟩, h6⟩ := h
  exact ⟨⟨L, n1, u, lr, zs, h1.set_ 2 (.int .i64 u), h2, h3.far (h3.ne_ h1 (by decide)) _, h4, h5⟩, h6⟩
theorem Clause.gone (h : Clause w D gw p s cl) : Clause (w.setCell ⟨p, 5, none⟩ (.bool true)) D gw p s (kill cl) := by
  obtain ⟨⟨L, n1, n2, lr, zs, h1, h2, h3, h4, h5⟩, h6⟩ := h
  exact ⟨⟨L, n1, n2, lr, zs, h1.set_ 5 (.bool true), h2, h3.far (h3.ne_ h1 (by decide)) _, h4, h5⟩, h6⟩
theorem Clause.like {dl : Cl} (h : Clause w D gw p s cl) (h1 : dl.lits.length = cl.lits.length) (h2 : dl.alive = cl.alive) : Clause w D gw p s dl := by
  obtain ⟨⟨L, n1, n2, lr, zs, e1, e2, e3, e4, e5⟩, h6⟩ := h
  exact ⟨⟨L, n1, n2, lr, zs, by rw [h1, h2]; exact e1, by rw [h1]; exact e2, e3, e4, e5⟩, h6⟩
end

/-- all of them: the pointers' blocks are ps -/
structure Model (w : World) (D : Nat) (gw : Option Nat) (ps : List Nat) (cs : List Cl) : Prop where
  len : ps.length = cs.length
  nd : ps.Nodup
  at_ : ∀ (k : Nat) (cl : Cl), cs[k]? = some cl → Clause w D gw (ps.getD k 0) (startOf cs k) cl
section
variable {w w' : World} {base g b D : Nat} {gw gw' : Option Nat} {lim : Int} {cs pre post : List Cl} {cl dl : Cl} {ps : List Nat}
theorem Model.nil_ : Model w D gw [] [] := ⟨rfl, List.nodup_nil, fun k cl h => by simp at h⟩
theorem Model.mid (h : Model w D gw ps (pre ++ cl :: post)) : Clause w D gw (ps.getD pre.length 0) (total pre : Nat) cl := by
  have := h.at_ pre.length cl (get_at pre post cl)
  rwa [startOf_mid] at this
theorem Model.all (h : Model w D gw ps cs) (hk : ∀ p s cl, Clause w D gw p s cl → Clause w' D gw' p s cl) : Model w' D gw' ps cs := ⟨h.len, h.nd, fun k cl hc => hk _ _ _ (h.at_ k cl hc)⟩
theorem Model.turn {cs' : List Cl} (h : Model w D gw ps cs) (ha : Ar w base g b gw lim cs') (ht : Turn w w' g b gw) (hg : g < D) (hb : b < D) (hl : Later w gw gw') : Model w' D gw' ps cs := h.all fun _ _ _ hc => hc.turn ha ht hg hb hl
theorem Model.below (h : Model w D gw ps cs) (hb : Below w.heap.size w w') : Model w' D gw ps cs := h.all fun _ _ _ hc => hc.below hb
theorem Model.ne (h : Model w D gw ps cs) {j k : Nat} (hj : j < cs.length) (hk : k < cs.length) (hne : j ≠ k) : ps.getD j 0 ≠ ps.getD k 0 := by
  have hl := h.len
  intro e
  have h1 : j < ps.length := by omega
  have h2 : k < ps.length := by omega
  simp only [List.getD, List.getElem?_eq_getElem h1, List.getElem?_eq_getElem h2, Option.getD_some] at e
  have hp := List.pairwise_iff_getElem.1 h.nd
  rcases Nat.lt_or_gt_of_ne hne with hl | hl
  · exact hp j k h1 h2 hl e
  · exact hp k j h2 h1 hl e.symm
theorem Model.put (h : Model w D gw ps (pre ++ cl :: post)) (hs : dl.size = cl.size) (hk : Clause w' D gw (ps.getD pre.length 0) (total pre : Nat) dl)
    (ho : ∀ q s c, q ≠ ps.getD pre.length 0 → Clause w D gw q s c → Clause w' D gw q s c) : Model w' D gw ps (pre ++ dl :: post) := by
  refine ⟨by rw [h.len]; simp, h.nd, fun k c hc => ?_⟩
  by_cases e : k = pre.length
  · subst e
    rw [get_at] at hc
    injection hc with hc
    subst hc
    rw [startOf_mid]; exact hk
  · rw [get_mid pre post dl cl e] at hc
    have h1 := h.at_ k c hc
    rw [startOf_sizes (b := pre ++ cl :: post) (by simp [hs])]
    have hkl := (List.getElem?_eq_some_iff.1 hc).1
    exact ho _ _ _ (h.ne hkl (by simp) e) h1
theorem Model.like (h : Model w D gw ps (pre ++ cl :: post)) (h1 : dl.lits.length = cl.lits.length) (h2 : dl.alive = cl.alive) : Model w D gw ps (pre ++ dl :: post) :=
  h.put (by unfold Cl.size; rw [h1]) (h.mid.like h1 h2) fun _ _ _ _ hc => hc
theorem Model.snoc {p : Nat} (h : Model w D gw ps cs) (hc : Clause w D gw p (total cs : Nat) cl) (hn : ∀ q ∈ ps, q ≠ p) : Model w D gw (ps ++ [p]) (cs ++ [cl]) := by
  have hl := h.len
  refine ⟨by simp [hl], List.nodup_append.2 ⟨h.nd, by simp, fun a ha b hb => by rw [List.mem_singleton] at hb; rw [hb]; exact hn a ha⟩, fun k c hk => ?_⟩
  by_cases e : k = cs.length
  · subst e
    have e1 := get_at cs [] cl
    rw [e1] at hk
    injection hk with hk
    subst hk
    rw [show startOf (cs ++ [cl]) cs.length = total cs from startOf_mid cs cl [], ← hl, List.getD, List.getElem?_append_right (Nat.le_refl _), Nat.sub_self]
    exact hc
  · have hkl := (List.getElem?_eq_some_iff.1 hk).1
    simp at hkl
    have hk2 : k < cs.length := by omega
    rw [List.getElem?_append_left hk2] at hk
    have h1 := h.at_ k c hk
    have e2 : startOf (cs ++ [cl]) k = startOf cs k := by
      unfold startOf
      rw [startsFrom_append, List.getD, List.getElem?_append_left (by rw [startsFrom_length]; exact hk2)]
      rfl
    rw [e2, List.getD, List.getElem?_append_left (by omega)]
    exact h1
end

/-- what stays while the arena and the statements' clauses turn -/
structure Fr (base : Nat) (w w' : World) : Prop where
  below : Below base w w'
  blk : ∀ (q : Nat) (t : TypeId) (X : Array Value), Blk w q t X → t ≠ 3 → t ≠ 36 → t ≠ 53 → Blk w' q t X
theorem Fr.refl (base : Nat) (w : World) : Fr base w w := ⟨Below.refl _ _, fun _ _ _ h _ _ _ => h⟩
theorem Fr.trans {base : Nat} {w w' w'' : World} (h : Fr base w w') (h' : Fr base w' w'') : Fr base w w'' := ⟨h.below.trans h'.below, fun q t X hb h1 h2 h3 => h'.blk q t X (h.blk q t X hb h1 h2 h3) h1 h2 h3⟩
theorem Fr.of_below {base : Nat} {w w' : World} (h : Below w.heap.size w w') (hB : base ≤ w.heap.size) : Fr base w w' := ⟨h.mono hB, fun q t X hb _ _ _ => hb.below h hb.lt⟩
theorem Fr.of_turn {base g b : Nat} {gw : Option Nat} {lim : Int} {cs : List Cl} {w w' : World} (ha : Ar w base g b gw lim cs) (ht : Turn w w' g b gw) (hB : base ≤ w.heap.size) : Fr base w w' := by
  refine ⟨ha.turn_below ht hB, fun q t X hb h1 _ h3 => ?_⟩
  obtain ⟨A, c, hk, hown, hgw⟩ := ha.ex
  obtain ⟨M, n, hm, _⟩ := ha.map
  exact (ht.block q hb.lt (hb.ne_ hk h3) (blk_map_ne hb hm) (hgw ▸ own_blk_ne hown hb (Ne.symm h1))).trans hb
theorem Fr.set {base : Nat} {w : World} {q : Nat} {t : TypeId} {X : Array Value} (hq : Blk w q t X) (ht : t = 3 ∨ t = 36) (hB : base ≤ q) (j : Nat) (v : Value) : Fr base w (w.setCell ⟨q, j, none⟩ v) :=
  ⟨(Below.refl _ _).setCell hB v, fun q' t' X' hb h1 h2 _ => hb.far (hb.ne_ hq (by rcases ht with rfl | rfl; exact h1; exact h2)) v⟩
end Go.Proofs.Ytnjcegjcaaplgaa
