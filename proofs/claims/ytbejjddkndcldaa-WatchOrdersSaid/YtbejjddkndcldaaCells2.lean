/- Cells of one's own, one turned at a time; stores that pass by. No program is named here. -/
import Derived.Test.YtbejjddkndcldaaOwnRows
namespace Go.Proofs.Ytbejjddkndcldaa
open Go.RowKit

theorem Blk.set0 {w : World} {g : Nat} {t : TypeId} {x y : Value} (h : Blk w g t #[x, y]) (u : Value) : Blk (w.setCell ⟨g, 0, none⟩ u) g t #[u, y] := by
  have := h.set_ 0 u; simpa using this
theorem Blk.set1 {w : World} {g : Nat} {t : TypeId} {x y : Value} (h : Blk w g t #[x, y]) (u : Value) : Blk (w.setCell ⟨g, 1, none⟩ u) g t #[x, u] := by
  have := h.set_ 1 u; simpa using this
theorem Blk.farN {w : World} {g p i : Nat} {t : TypeId} {cs : Array Value} (h : Blk w g t cs) (hp : g ≠ p) (u : Value) : Blk (w.setCell ⟨p, i, none⟩ u) g t cs := h.far (p := ⟨p, i, none⟩) hp u
theorem heap_set_ {w : World} {g p i : Nat} {o : Option Obj} {u : Value} (h : w.heap[g]? = o) (hp : g ≠ p) : (w.setCell ⟨p, i, none⟩ u).heap[g]? = o := (Below.heap_setCell w ⟨p, i, none⟩ u g hp).trans h
theorem heap_alloc_ {w : World} {g : Nat} {o : Option Obj} {b : Obj} (h : w.heap[g]? = o) (hp : g < w.heap.size) : (w.alloc b).heap[g]? = o := (Below.heap_alloc w b g hp).trans h
theorem below_set_ {B p i : Nat} {a w : World} {u : Value} (h : Below B a w) (hp : B ≤ p) : Below B a (w.setCell ⟨p, i, none⟩ u) := h.setCell (p := ⟨p, i, none⟩) hp u
theorem Blk.new1 (w : World) (o : Obj) (t : TypeId) (cs : Array Value) : Blk ((w.alloc o).alloc (.cells cs t)) (w.heap.size + 1) t cs := by
  have := Blk.new (w.alloc o) t cs; simp only [World.size_alloc] at this; exact this

/-- one cell of one row turned: the rows stay one's own -/
theorem OwnList.setAt {w : World} {base : Nat} {ei : TypeId} {vs : List Value} {xss : List (List Int)} {i k g ci : Nat} (h : OwnList w base ei vs xss) (hi : i < xss.length) (hv : vs[i]? = some (.slice (some ⟨g, 0, none⟩) (xss.getD i []).length ci)) (y : Int) :
    OwnList (w.setCell ⟨g, k, none⟩ (.int .i64 y)) base ei vs (xss.set i ((xss.getD i []).set k y)) := by
  obtain ⟨Ai, ci', h1, h2⟩ := h.each i hi
  rw [hv] at h1
  injection h1 with h1
  injection h1 with e1 _ e3
  subst e1 e3
  obtain ⟨hst, hgr⟩ := World.ownsRow.stored h2 k (.int .i64 y)
  have hself : (xss.set i ((xss.getD i []).set k y)).getD i [] = (xss.getD i []).set k y := by simp [List.getD, hi]
  refine ⟨fun j hj => ?_, fun a b gg hab hb => h.ne a b gg hab (by simpa using hb)⟩
  simp at hj
  by_cases hij : j = i
  · subst hij
    rw [hself, List.length_set, List.map_set]
    exact ⟨_, _, hv, hst⟩
  · have e : (xss.set i ((xss.getD i []).set k y)).getD j [] = xss.getD j [] := by simp [List.getD, List.getElem?_set_ne (show i ≠ j by omega)]
    rw [e]
    obtain ⟨Aj, cj, h1, h3⟩ := h.each j hj
    refine ⟨Aj, cj, h1, h3.kept hgr ?_⟩
    rcases hb : (Value.slice Aj (xss.getD j []).length cj).ownBlock with _ | gg
    · exact .inl rfl
    · right
      intro he
      injection he with he
      subst he
      have b1 : ((vs[i]?).getD undef).ownBlock = some gg := by rw [hv]; rfl
      have b2 : ((vs[j]?).getD undef).ownBlock = some gg := by rw [h1]; exact hb
      rcases Nat.lt_or_gt_of_ne hij with hlt | hgt
      · exact h.ne j i gg hlt hi b2 b1
      · exact h.ne i j gg hgt hj b1 b2

/-- the first k turned by f -/
def mix {α : Type} (f : α → α) (k : Nat) (xs : List α) : List α := (xs.take k).map f ++ xs.drop k
theorem mix_zero {α : Type} (f : α → α) (xs : List α) : mix f 0 xs = xs := by simp [mix]
theorem mix_full {α : Type} (f : α → α) {k : Nat} {xs : List α} (h : xs.length ≤ k) : mix f k xs = xs.map f := by simp [mix, List.take_of_length_le h, List.drop_eq_nil_of_le h]
theorem mix_len {α : Type} (f : α → α) (k : Nat) (xs : List α) : (mix f k xs).length = xs.length := by simp [mix]; omega
theorem mix_get {α : Type} (f : α → α) (d : α) {k : Nat} {xs : List α} (h : k < xs.length) : (mix f k xs).getD k d = xs.getD k d := by
  unfold mix
  show (((xs.take k).map f ++ xs.drop k)[k]?).getD d = _
  rw [List.getElem?_append_right (by simp; omega)]
  simp [List.getD, h, show min k xs.length = k by omega]
theorem mix_succ {α : Type} (f : α → α) (d : α) {k : Nat} {xs : List α} (h : k < xs.length) : mix f (k + 1) xs = (xs.take k).map f ++ f (xs.getD k d) :: xs.drop (k + 1) := by
  unfold mix
  rw [List.take_succ_eq_append_getElem h, List.map_append, List.append_assoc]
  simp [List.getD, h]
theorem mix_set {α : Type} (f : α → α) (d : α) {k : Nat} {xs : List α} (h : k < xs.length) : (mix f k xs).set k (f (xs.getD k d)) = mix f (k + 1) xs := by
  rw [mix_succ f d h]
  unfold mix
  rw [List.set_append_right _ _ (by simp; omega)]
  congr 1
  rw [show k - ((xs.take k).map f).length = 0 by simp; omega, List.drop_eq_getElem_cons h]
  rfl
theorem mix_same {α : Type} (f : α → α) (d : α) {k : Nat} {xs : List α} (h : k < xs.length) (e : f (xs.getD k d) = xs.getD k d) : mix f (k + 1) xs = mix f k xs := by
  rw [mix_succ f d h, e]
  unfold mix
  congr 1
  rw [List.drop_eq_getElem_cons h]
  simp [List.getD, h]
end Go.Proofs.Ytbejjddkndcldaa
