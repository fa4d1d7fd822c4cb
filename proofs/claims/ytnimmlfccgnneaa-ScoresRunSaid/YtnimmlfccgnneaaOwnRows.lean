/- Blocks known whole; rows of rows that a call makes for itself, no two in one block. No program is named here. -/
import Derived.Test.YtnimmlfccgnneaaOwn
namespace Go.Proofs.Ytnimmlfccgnneaa
open Go.RowKit

/-- a block, known whole -/
def Blk (w : World) (g : Nat) (t : TypeId) (cs : Array Value) : Prop := w.heap[g]? = some (.cells cs t (0, 0))
section
variable {w w' : World} {g : Nat} {t : TypeId} {cs : Array Value}
theorem Blk.lt (h : Blk w g t cs) : g < w.heap.size := (Array.getElem?_eq_some_iff.1 h).1
theorem Blk.cell (h : Blk w g t cs) (i : Nat) : w.cell? ⟨g, i, none⟩ = cs[i]? := cell_of_row w g i cs t (0, 0) h
theorem Blk.frozen (h : Blk w g t cs) (i : Nat) : w.frozen? ⟨g, i, none⟩ = false := by
  unfold Blk at h
  simp [World.frozen?, h]
theorem Blk.c0 {x y : Value} (h : Blk w g t #[x, y]) : w.cell? ⟨g, 0, none⟩ = some x := by rw [h.cell]; rfl
theorem Blk.c1 {x y : Value} (h : Blk w g t #[x, y]) : w.cell? ⟨g, 1, none⟩ = some y := by rw [h.cell]; rfl
theorem Blk.new (w : World) (t : TypeId) (cs : Array Value) : Blk (w.alloc (.cells cs t)) w.heap.size t cs := heap_alloc_new w _
theorem Blk.drewN (h : Blk w g t cs) (n : Nat) : Blk (w.drewN n) g t cs := h
theorem Blk.drew_ (h : Blk w g t cs) : Blk w.drew g t cs := h
theorem Blk.alloc (h : Blk w g t cs) (o : Obj) : Blk (w.alloc o) g t cs := (Below.heap_alloc w o g h.lt).trans h
theorem Blk.set_ (h : Blk w g t cs) (i : Nat) (u : Value) : Blk (w.setCell ⟨g, i, none⟩ u) g t (cs.setIfInBounds i u) := by
  unfold Blk at h ⊢
  simp [World.setCell, Array.getElem?_modify, h]
theorem Blk.far (h : Blk w g t cs) {p : Addr} (hp : g ≠ p.block) (u : Value) : Blk (w.setCell p u) g t cs := (Below.heap_setCell w p u g hp).trans h
theorem Blk.below {B : Nat} (h : Blk w g t cs) (hb : Below B w w') (hg : g < B) : Blk w' g t cs := (hb.block g hg).trans h
theorem Blk.grown {row : Option Nat} (h : Blk w g t cs) (hb : w.grownBy w' row) (hg : some g ≠ row) : Blk w' g t cs := (hb.block g h.lt hg).trans h
theorem Blk.ne_ {g' : Nat} {t' : TypeId} {cs' : Array Value} (h : Blk w g t cs) (h' : Blk w g' t' cs') (hne : t ≠ t') : g ≠ g' := by
  rintro rfl
  unfold Blk at h h'
  rw [h] at h'
  injection h' with h'
  injection h' with _ ht
  exact hne ht
theorem own_blk_ne {base : Nat} {e : TypeId} {n : Nat} {v : Value} {xs : List Value} (h : w.ownsRow base e 1 v n xs) (hg : Blk w g t cs) (hne : e ≠ t) : some g ≠ v.ownBlock := by
  rcases h.2 with ⟨rfl, _⟩ | ⟨g', cap, cur, rfl, _, hh, _⟩
  · simp [Value.ownBlock]
  · intro he
    have : g = g' := by simpa [Value.ownBlock] using he
    subst this
    exact Blk.ne_ (t := e) hh hg hne rfl
theorem own_own_ne {base base' : Nat} {e e' : TypeId} {n n' : Nat} {v v' : Value} {xs xs' : List Value} (h : w.ownsRow base e 1 v n xs) (h' : w.ownsRow base' e' 1 v' n' xs') (hne : e ≠ e') : v.ownBlock = none ∨ v.ownBlock ≠ v'.ownBlock := by
  rcases h.2 with ⟨rfl, _⟩ | ⟨g', cap, cur, rfl, _, hh, _⟩
  · exact .inl rfl
  · right
    intro he
    have he' : v'.ownBlock = some g' := by rw [← he]; rfl
    exact own_blk_ne h' (show Blk w g' e cur from hh) (Ne.symm hne) he'.symm
end

theorem grown_setCell (w : World) (p : Addr) (u : Value) : w.grownBy (w.setCell p u) (some p.block) :=
  ⟨rfl, rfl, rfl, by simp [World.setCell], fun k _ hk => Below.heap_setCell w p u k (fun e => hk (by rw [e]))⟩
theorem grown_undrew {w w' : World} {row : Option Nat} (h : w.drew.grownBy w' row) : w.grownBy w' row := ⟨h.os, h.tape, h.output, h.size, h.block⟩
theorem own_setCell {w : World} {base e n : Nat} {v : Value} {xs : List Value} (h : w.ownsRow base e 1 v n xs) {p : Addr} (u : Value) (hp : some p.block ≠ v.ownBlock) : (w.setCell p u).ownsRow base e 1 v n xs :=
  h.kept (grown_setCell w p u) (.inr (Ne.symm hp))

/-- rows of ints of one's own, no two in one block -/
structure OwnList (w : World) (base : Nat) (ei : TypeId) (vs : List Value) (xss : List (List Int)) : Prop where
  each : ∀ j, j < xss.length → ∃ Aj cj, vs[j]? = some (.slice Aj (xss.getD j []).length cj) ∧ w.ownsRow base ei 1 (.slice Aj (xss.getD j []).length cj) (xss.getD j []).length ((xss.getD j []).map (Value.int .i64))
  ne : ∀ i j g, i < j → j < xss.length → ((vs[i]?).getD undef).ownBlock = some g → ((vs[j]?).getD undef).ownBlock = some g → False

section
variable {w w' : World} {base : Nat} {ei : TypeId} {vs : List Value} {xss : List (List Int)}
theorem OwnList.nil_ : OwnList w base ei vs [] := ⟨fun _ h => absurd h (by simp), fun _ _ _ _ h => absurd h (by simp)⟩
theorem OwnList.kept {row : Option Nat} (h : OwnList w base ei vs xss) (hg : w.grownBy w' row) (hr : ∀ j g, j < xss.length → ((vs[j]?).getD undef).ownBlock = some g → some g ≠ row) : OwnList w' base ei vs xss := by
  refine ⟨fun j hj => ?_, h.ne⟩
  obtain ⟨Aj, cj, h1, h2⟩ := h.each j hj
  refine ⟨Aj, cj, h1, h2.kept hg ?_⟩
  rcases hb : (Value.slice Aj (xss.getD j []).length cj).ownBlock with _ | g
  · exact .inl rfl
  · exact .inr (hr j g hj (by rw [h1]; exact hb))
theorem OwnList.below {B : Nat} (h : OwnList w base ei vs xss) (hb : Below B w w') (hB : w.heap.size ≤ B) : OwnList w' base ei vs xss := by
  refine ⟨fun j hj => ?_, h.ne⟩
  obtain ⟨Aj, cj, h1, h2⟩ := h.each j hj
  exact ⟨Aj, cj, h1, own_below h2 hb fun g hg => Nat.lt_of_lt_of_le (h2.lt g hg).2 hB⟩
theorem OwnList.lt (h : OwnList w base ei vs xss) {j g : Nat} (hj : j < xss.length) (hg : ((vs[j]?).getD undef).ownBlock = some g) : base ≤ g ∧ g < w.heap.size := by
  obtain ⟨Aj, cj, h1, h2⟩ := h.each j hj
  rw [h1] at hg
  exact h2.lt g hg
/-- one more, in a block of its own; the list of values may be another one, as far as it holds the same -/
theorem OwnList.step {base' : Nat} {A : Option Addr} {c : Nat} {xs : List Int} (vs' : List Value) (h : OwnList w base ei vs xss) (hold : ∀ j, j < xss.length → vs'[j]? = vs[j]?) (hnew : vs'[xss.length]? = some (.slice A xs.length c))
    (h2 : w.ownsRow base' ei 1 (.slice A xs.length c) xs.length (xs.map (Value.int .i64)))
    (hbb : base ≤ base') (hfar : ∀ j g, j < xss.length → ((vs[j]?).getD undef).ownBlock = some g → g < base') : OwnList w base ei vs' (xss ++ [xs]) := by
  have gold : ∀ j, j < xss.length → (xss ++ [xs]).getD j [] = xss.getD j [] := fun j hj => by simp [List.getD, List.getElem?_append_left hj]
  have gnew : (xss ++ [xs]).getD xss.length [] = xs := by simp [List.getD]
  refine ⟨fun j hj => ?_, fun i j g hij hj hgi hgj => ?_⟩
  · simp at hj
    rcases Nat.lt_or_ge j xss.length with hlt | hge
    · rw [hold j hlt, gold j hlt]
      exact h.each j hlt
    · obtain rfl : j = xss.length := by omega
      rw [hnew, gnew]
      exact ⟨A, c, rfl, own_more h2 hbb⟩
  · simp at hj
    rw [hold i (by omega)] at hgi
    rcases Nat.lt_or_ge j xss.length with hlt | hge
    · rw [hold j hlt] at hgj
      exact h.ne i j g hij hlt hgi hgj
    · obtain rfl : j = xss.length := by omega
      rw [hnew] at hgj
      have := hfar i g hij hgi
      have := (h2.lt g hgj).1
      omega
theorem OwnList.snoc {base' : Nat} {A : Option Addr} {c : Nat} {xs : List Int} (h : OwnList w base ei vs xss) (hv : vs.length = xss.length) (h2 : w.ownsRow base' ei 1 (.slice A xs.length c) xs.length (xs.map (Value.int .i64)))
    (hbb : base ≤ base') (hfar : ∀ j g, j < xss.length → ((vs[j]?).getD undef).ownBlock = some g → g < base') : OwnList w base ei (vs ++ [.slice A xs.length c]) (xss ++ [xs]) :=
  h.step _ (fun j hj => List.getElem?_append_left (by omega)) (by rw [← hv]; simp) h2 hbb hfar
/-- what is done to the outer row touches no inner one -/
theorem OwnList.ne_outer {eo : TypeId} {base' n : Nat} {v : Value} {xs : List Value} (h : OwnList w base ei vs xss) (ho : w.ownsRow base' eo 1 v n xs) (hne : ei ≠ eo) : ∀ j g, j < xss.length → ((vs[j]?).getD undef).ownBlock = some g → some g ≠ v.ownBlock := by
  intro j g hj hg he
  obtain ⟨Aj, cj, h1, h2⟩ := h.each j hj
  rw [h1] at hg
  rcases own_own_ne h2 ho hne with h3 | h3
  · have hg' : (Value.slice Aj (xss.getD j []).length cj).ownBlock = some g := hg
    rw [h3] at hg'
    cases hg'
  · exact h3 (Eq.trans hg he)
theorem OwnList.ne_blk {t : TypeId} {b : Nat} {cs : Array Value} (h : OwnList w base ei vs xss) (ho : Blk w b t cs) (hne : ei ≠ t) : ∀ j g, j < xss.length → ((vs[j]?).getD undef).ownBlock = some g → some g ≠ some b := by
  intro j g hj hg he
  obtain ⟨Aj, cj, h1, h2⟩ := h.each j hj
  rw [h1] at hg
  exact own_blk_ne h2 ho hne (Eq.trans he.symm hg.symm)
theorem OwnList.rows {eo : TypeId} {A : Option Addr} {c base' : Nat} (h : OwnList w base ei vs xss) (ho : w.ownsRow base' eo 1 (.slice A xss.length c) xss.length vs) : Rows w w.heap.size A xss := by
  intro hn
  have hc := cells_of_own ho undef
  obtain ⟨b, off, e, hb, hcell⟩ := hc hn
  refine ⟨b, off, e, hb, fun j hj => ?_⟩
  obtain ⟨Aj, cj, h1, h2⟩ := h.each j hj
  refine ⟨Aj, cj, ?_, ?_⟩
  · rw [hcell j hj]; simp [List.getD, h1]
  · refine (cells_of_own h2 (.int .i64 0)).congr fun i hi => ?_
    simp [List.getD]
theorem ints_of_own {base' : Nat} {A : Option Addr} {c : Nat} {xs : List Int} (h2 : w.ownsRow base' ei 1 (.slice A xs.length c) xs.length (xs.map (Value.int .i64))) : Ints w w.heap.size A xs := by
  refine (cells_of_own h2 (.int .i64 0)).congr fun i hi => ?_
  simp [List.getD]
end

/-- what owns its rows from base on stays, where those blocks do -/
theorem own_agree {w w' : World} {base e n : Nat} {v : Value} {xs : List Value} (h : w.ownsRow base e 1 v n xs) (ha : ∀ g, base ≤ g → g < w.heap.size → w'.heap[g]? = w.heap[g]?) : w'.ownsRow base e 1 v n xs := by
  refine ⟨h.1, ?_⟩
  rcases h.2 with hn | ⟨g, cap, cur, rfl, hg, hgg, rest⟩
  · exact .inl hn
  · exact .inr ⟨g, cap, cur, rfl, hg, by rw [ha g hg (Array.getElem?_eq_some_iff.1 hgg).1]; exact hgg, rest⟩
theorem OwnList.agree {w w' : World} {base : Nat} {ei : TypeId} {vs : List Value} {xss : List (List Int)} (h : OwnList w base ei vs xss) (ha : ∀ g, base ≤ g → g < w.heap.size → w'.heap[g]? = w.heap[g]?) : OwnList w' base ei vs xss := by
  refine ⟨fun j hj => ?_, h.ne⟩
  obtain ⟨Aj, cj, h1, h2⟩ := h.each j hj
  exact ⟨Aj, cj, h1, own_agree h2 ha⟩
theorem OwnList.more {w : World} {base base' : Nat} {ei : TypeId} {vs : List Value} {xss : List (List Int)} (h : OwnList w base ei vs xss) (hb : base' ≤ base) : OwnList w base' ei vs xss := by
  refine ⟨fun j hj => ?_, h.ne⟩
  obtain ⟨Aj, cj, h1, h2⟩ := h.each j hj
  exact ⟨Aj, cj, h1, own_more h2 hb⟩
/-- and reads as before -/
theorem OwnList.rows_agree {w w' : World} {base : Nat} {ei eo : TypeId} {vs : List Value} {xss : List (List Int)} {A : Option Addr} {c : Nat} (h : OwnList w base ei vs xss) (ho : w.ownsRow base eo 1 (.slice A xss.length c) xss.length vs)
    (ha : ∀ g, base ≤ g → g < w.heap.size → w'.heap[g]? = w.heap[g]?) : Rows w' w.heap.size A xss := by
  intro hn
  obtain ⟨g, hA, hg1, hg2⟩ := own_addr ho hn
  have hr := h.rows ho hn
  obtain ⟨b, off, e, hb, hcell⟩ := hr
  refine ⟨b, off, e, hb, fun j hj => ?_⟩
  obtain ⟨Aj, cj, h1, h2⟩ := hcell j hj
  have hbg : b = g := by rw [hA] at e; injection e with e; injection e with e; exact e.symm
  refine ⟨Aj, cj, ?_, ?_⟩
  · rw [World.cell?_of_block (ha b (by omega) hb)]; exact h1
  · intro hn2
    obtain ⟨b2, o2, e2, hb2, hc2⟩ := h2 hn2
    obtain ⟨Aj', cj', h1', h2'⟩ := h.each j hj
    have hco := World.ownsRow.cellAt (g := g) (by rw [hA] at ho; exact ho) j (by omega)
    have hoff : off = 0 := by rw [hA] at e; injection e with e; injection e with _ e; exact e.symm
    subst hbg hoff
    rw [Nat.zero_add, hco, h1'] at h1
    injection h1 with h1
    injection h1 with h1 _ _
    subst h1
    obtain ⟨g3, hA3, hg31, hg32⟩ := own_addr h2' hn2
    have hbg3 : b2 = g3 := by rw [hA3] at e2; injection e2 with e2; injection e2 with e2 _; exact e2.symm
    exact ⟨b2, o2, e2, hb2, fun i hi => by rw [World.cell?_of_block (ha b2 (by omega) hb2)]; exact hc2 i hi⟩
end Go.Proofs.Ytnimmlfccgnneaa
