/- Rows of strings: memory that reads as such, and rows of them that a call makes for itself. -/
import Derived.Test.YtnjcegjcaaplgaaGreatDoorOwnRows
namespace Go.Proofs.YtnjcegjcaaplgaaGreatDoor
open Go.RowKit
set_option linter.unusedSimpArgs false
set_option linter.unusedVariables false

def strV (s : List UInt8) : Value := .string ⟨s.toArray⟩
/-- a row of strings that reads as a list -/
def Strs (w : World) (B : Nat) (A : Option Addr) (xs : List (List UInt8)) : Prop := Cells w B A xs.length fun j => strV (xs.getD j [])
/-- a row of rows of ints -/
def SRows (w : World) (B : Nat) (A : Option Addr) (xss : List (List (List UInt8))) : Prop :=
  0 < xss.length → ∃ b off, A = some ⟨b, off, none⟩ ∧ b < B ∧ ∀ j, j < xss.length → ∃ Aj cj, w.cell? ⟨b, off + j, none⟩ = some (.slice Aj (xss.getD j []).length cj) ∧ Strs w B Aj (xss.getD j [])

section
variable {w w' : World} {B B' : Nat} {A : Option Addr} {xss : List (List (List UInt8))}
theorem SRows.nil_ : SRows w B A [] := fun h => absurd h (by simp)
theorem SRows.at_ {k : Nat} (h : SRows w B A xss) (hk : k < xss.length) :
    ∃ b off Ak ck, A = some ⟨b, off, none⟩ ∧ b < B ∧ w.cell? ⟨b, off + k, none⟩ = some (.slice Ak (xss.getD k []).length ck) ∧ Strs w B Ak (xss.getD k []) := by
  obtain ⟨b, off, e, hb, hc⟩ := h (by omega)
  obtain ⟨Ak, ck, h1, h2⟩ := hc k hk
  exact ⟨b, off, Ak, ck, e, hb, h1, h2⟩
theorem SRows.keep (h : SRows w B A xss) (hk : ∀ p : Addr, p.block < B → w'.cell? p = w.cell? p) : SRows w' B A xss := fun hn => by
  obtain ⟨b, off, e, hb, hc⟩ := h hn
  refine ⟨b, off, e, hb, fun j hj => ?_⟩
  obtain ⟨Aj, cj, h1, h2⟩ := hc j hj
  exact ⟨Aj, cj, (hk _ hb).trans h1, Cells.keep h2 hk⟩
theorem SRows.more (h : SRows w B A xss) (hB : B ≤ B') : SRows w B' A xss := fun hn => by
  obtain ⟨b, off, e, hb, hc⟩ := h hn
  refine ⟨b, off, e, by omega, fun j hj => ?_⟩
  obtain ⟨Aj, cj, h1, h2⟩ := hc j hj
  exact ⟨Aj, cj, h1, Cells.more h2 hB⟩
theorem SRows.below (h : SRows w B A xss) (hb : Below B w w') : SRows w' B A xss := h.keep fun _ hp => hb.cell hp
theorem SRows.alloc (h : SRows w B A xss) (hB : B ≤ w.heap.size) (o : Obj) : SRows (w.alloc o) B A xss := h.keep fun p hp => World.cell?_alloc_lt w o p (by omega)
theorem SRows.setCell (h : SRows w B A xss) {p : Addr} (hB : B ≤ p.block) (u : Value) : SRows (w.setCell p u) B A xss :=
  h.keep fun q hq => World.cell?_setCell_other w p q u (fun e => by subst e; omega)
theorem SRows.drewN (h : SRows w B A xss) (k : Nat) : SRows (w.drewN k) B A xss := h
end

/-- rows of strings of one's own, no two in one block -/
structure OwnStrs (w : World) (base : Nat) (ei : TypeId) (vs : List Value) (xss : List (List (List UInt8))) : Prop where
  each : ∀ j, j < xss.length → ∃ Aj cj, vs[j]? = some (.slice Aj (xss.getD j []).length cj) ∧ w.ownsRow base ei 1 (.slice Aj (xss.getD j []).length cj) (xss.getD j []).length ((xss.getD j []).map (strV))
  ne : ∀ i j g, i < j → j < xss.length → ((vs[i]?).getD undef).ownBlock = some g → ((vs[j]?).getD undef).ownBlock = some g → False

section
variable {w w' : World} {base : Nat} {ei : TypeId} {vs : List Value} {xss : List (List (List UInt8))}
theorem OwnStrs.nil_ : OwnStrs w base ei vs [] := ⟨fun _ h => absurd h (by simp), fun _ _ _ _ h => absurd h (by simp)⟩
theorem OwnStrs.kept {row : Option Nat} (h : OwnStrs w base ei vs xss) (hg : w.grownBy w' row) (hr : ∀ j g, j < xss.length → ((vs[j]?).getD undef).ownBlock = some g → some g ≠ row) : OwnStrs w' base ei vs xss := by
  refine ⟨fun j hj => ?_, h.ne⟩
  obtain ⟨Aj, cj, h1, h2⟩ := h.each j hj
  refine ⟨Aj, cj, h1, h2.kept hg ?_⟩
  rcases hb : (Value.slice Aj (xss.getD j []).length cj).ownBlock with _ | g
  · exact .inl rfl
  · exact .inr (hr j g hj (by rw [h1]; exact hb))
theorem OwnStrs.below {B : Nat} (h : OwnStrs w base ei vs xss) (hb : Below B w w') (hB : w.heap.size ≤ B) : OwnStrs w' base ei vs xss := by
  refine ⟨fun j hj => ?_, h.ne⟩
  obtain ⟨Aj, cj, h1, h2⟩ := h.each j hj
  exact ⟨Aj, cj, h1, own_below h2 hb fun g hg => Nat.lt_of_lt_of_le (h2.lt g hg).2 hB⟩
theorem OwnStrs.lt (h : OwnStrs w base ei vs xss) {j g : Nat} (hj : j < xss.length) (hg : ((vs[j]?).getD undef).ownBlock = some g) : base ≤ g ∧ g < w.heap.size := by
  obtain ⟨Aj, cj, h1, h2⟩ := h.each j hj
  rw [h1] at hg
  exact h2.lt g hg
/-- one more, in a block of its own; the list of values may be another one, as far as it holds the same -/
theorem OwnStrs.step {base' : Nat} {A : Option Addr} {c : Nat} {xs : List (List UInt8)} (vs' : List Value) (h : OwnStrs w base ei vs xss) (hold : ∀ j, j < xss.length → vs'[j]? = vs[j]?) (hnew : vs'[xss.length]? = some (.slice A xs.length c))
    (h2 : w.ownsRow base' ei 1 (.slice A xs.length c) xs.length (xs.map (strV)))
    (hbb : base ≤ base') (hfar : ∀ j g, j < xss.length → ((vs[j]?).getD undef).ownBlock = some g → g < base') : OwnStrs w base ei vs' (xss ++ [xs]) := by
  have gold : ∀ j, j < xss.length → (xss ++ [xs]).getD j [] = xss.getD j [] := fun j hj => by simp [List.getD, List.getElem?_append_left hj]
  have gnew : (xss ++ [xs]).getD xss.length [] = xs := by simp [List.getD]
  refine ⟨fun j hj => ?_, fun i j g hij hj hgi hgj => ?_⟩
  · simp at hj
    rcases Nat.lt_or_ge j xss.length with hlt | hge
    · rw [hold j hlt, gold j hlt]
      exact h.each j hlt
    · obtain rfl : j = xss.length := by omega
      rw [hnew, gnew]
      exact ⟨A, c, rfl, own_more h2 hbb⟩
  · simp at hj
    rw [hold i (by omega)] at hgi
    rcases Nat.lt_or_ge j xss.length with hlt | hge
    · rw [hold j hlt] at hgj
      exact h.ne i j g hij hlt hgi hgj
    · obtain rfl : j = xss.length := by omega
      rw [hnew] at hgj
      have := hfar i g hij hgi
      have := (h2.lt g hgj).1
      omega
theorem OwnStrs.snoc {base' : Nat} {A : Option Addr} {c : Nat} {xs : List (List UInt8)} (h : OwnStrs w base ei vs xss) (hv : vs.length = xss.length) (h2 : w.ownsRow base' ei 1 (.slice A xs.length c) xs.length (xs.map (strV)))
    (hbb : base ≤ base') (hfar : ∀ j g, j < xss.length → ((vs[j]?).getD undef).ownBlock = some g → g < base') : OwnStrs w base ei (vs ++ [.slice A xs.length c]) (xss ++ [xs]) :=
  h.step _ (fun j hj => List.getElem?_append_left (by omega)) (by rw [← hv]; simp) h2 hbb hfar
/-- what is done to the outer row touches no inner one -/
theorem OwnStrs.ne_outer {eo : TypeId} {base' n : Nat} {v : Value} {xs : List Value} (h : OwnStrs w base ei vs xss) (ho : w.ownsRow base' eo 1 v n xs) (hne : ei ≠ eo) : ∀ j g, j < xss.length → ((vs[j]?).getD undef).ownBlock = some g → some g ≠ v.ownBlock := by
  intro j g hj hg he
  obtain ⟨Aj, cj, h1, h2⟩ := h.each j hj
  rw [h1] at hg
  rcases own_own_ne h2 ho hne with h3 | h3
  · have hg' : (Value.slice Aj (xss.getD j []).length cj).ownBlock = some g := hg
    rw [h3] at hg'
    cases hg'
  · exact h3 (Eq.trans hg he)
theorem OwnStrs.ne_blk {t : TypeId} {b : Nat} {cs : Array Value} (h : OwnStrs w base ei vs xss) (ho : Blk w b t cs) (hne : ei ≠ t) : ∀ j g, j < xss.length → ((vs[j]?).getD undef).ownBlock = some g → some g ≠ some b := by
  intro j g hj hg he
  obtain ⟨Aj, cj, h1, h2⟩ := h.each j hj
  rw [h1] at hg
  exact own_blk_ne h2 ho hne (Eq.trans he.symm hg.symm)
theorem OwnStrs.rows {eo : TypeId} {A : Option Addr} {c base' : Nat} (h : OwnStrs w base ei vs xss) (ho : w.ownsRow base' eo 1 (.slice A xss.length c) xss.length vs) : SRows w w.heap.size A xss := by
  intro hn
  have hc := cells_of_own ho undef
  obtain ⟨b, off, e, hb, hcell⟩ := hc hn
  refine ⟨b, off, e, hb, fun j hj => ?_⟩
  obtain ⟨Aj, cj, h1, h2⟩ := h.each j hj
  refine ⟨Aj, cj, ?_, ?_⟩
  · rw [hcell j hj]; simp [List.getD, h1]
  · refine (cells_of_own h2 (strV [])).congr fun i hi => ?_
    simp [List.getD]
end

/-- and reads as before -/
theorem OwnStrs.rows_agree {w w' : World} {base : Nat} {ei eo : TypeId} {vs : List Value} {xss : List (List (List UInt8))} {A : Option Addr} {c : Nat} (h : OwnStrs w base ei vs xss) (ho : w.ownsRow base eo 1 (.slice A xss.length c) xss.length vs)
    (ha : ∀ g, base ≤ g → g < w.heap.size → w'.heap[g]? = w.heap[g]?) : SRows w' w.heap.size A xss := by
  intro hn
  obtain ⟨g, hA, hg1, hg2⟩ := own_addr ho hn
  have hr := h.rows ho hn
  obtain ⟨b, off, e, hb, hcell⟩ := hr
  refine ⟨b, off, e, hb, fun j hj => ?_⟩
  obtain ⟨Aj, cj, h1, h2⟩ := hcell j hj
  have hbg : b = g := by rw [hA] at e; injection e with e; injection e with e; exact e.symm
  refine ⟨Aj, cj, ?_, ?_⟩
  · rw [World.cell?_of_block (ha b (by omega) hb)]; exact h1
  · intro hn2
    obtain ⟨b2, o2, e2, hb2, hc2⟩ := h2 hn2
    obtain ⟨Aj', cj', h1', h2'⟩ := h.each j hj
    have hco := World.ownsRow.cellAt (g := g) (by rw [hA] at ho; exact ho) j (by omega)
    have hoff : off = 0 := by rw [hA] at e; injection e with e; injection e with _ e; exact e.symm
    subst hbg hoff
    rw [Nat.zero_add, hco, h1'] at h1
    injection h1 with h1
    injection h1 with h1 _ _
    subst h1
    obtain ⟨g3, hA3, hg31, hg32⟩ := own_addr h2' hn2
    have hbg3 : b2 = g3 := by rw [hA3] at e2; injection e2 with e2; injection e2 with e2 _; exact e2.symm
    exact ⟨b2, o2, e2, hb2, fun i hi => by rw [World.cell?_of_block (ha b2 (by omega) hb2)]; exact hc2 i hi⟩

/-- rows of strings, with the values that the outer row holds -/
def SRowsV (w : World) (B : Nat) (A : Option Addr) (vs : List Value) (xss : List (List (List UInt8))) : Prop :=
  0 < xss.length → ∃ b off, A = some ⟨b, off, none⟩ ∧ b < B ∧ ∀ j, j < xss.length → ∃ Aj cj, vs[j]? = some (.slice Aj (xss.getD j []).length cj) ∧ w.cell? ⟨b, off + j, none⟩ = some (.slice Aj (xss.getD j []).length cj) ∧ Strs w B Aj (xss.getD j [])
theorem OwnStrs.rows_agreeV {w w' : World} {base : Nat} {ei eo : TypeId} {vs : List Value} {xss : List (List (List UInt8))} {A : Option Addr} {c : Nat} (h : OwnStrs w base ei vs xss) (ho : w.ownsRow base eo 1 (.slice A xss.length c) xss.length vs)
    (ha : ∀ g, base ≤ g → g < w.heap.size → w'.heap[g]? = w.heap[g]?) : SRowsV w' w.heap.size A vs xss := by
  intro hn
  obtain ⟨g, hA, hg1, hg2⟩ := own_addr ho hn
  refine ⟨g, 0, hA, hg2, fun j hj => ?_⟩
  obtain ⟨Aj', cj', h1', h2'⟩ := h.each j hj
  have hco := World.ownsRow.cellAt (g := g) (by rw [hA] at ho; exact ho) j (by omega)
  refine ⟨Aj', cj', h1', ?_, fun hn2 => ?_⟩
  · rw [World.cell?_of_block (ha g hg1 hg2), Nat.zero_add, hco, h1']
  · obtain ⟨g3, hA3, hg31, hg32⟩ := own_addr h2' hn2
    have hc2 := (cells_of_own h2' (strV [])) hn2
    obtain ⟨b2, o2, e2, hb2, hc2⟩ := hc2
    have hbg3 : b2 = g3 := by rw [hA3] at e2; injection e2 with e2; injection e2 with e2 _; exact e2.symm
    refine ⟨b2, o2, e2, hb2, fun i hi => ?_⟩
    rw [World.cell?_of_block (ha b2 (by omega) hb2), hc2 i hi]
    simp [List.getD]
end Go.Proofs.YtnjcegjcaaplgaaGreatDoor
