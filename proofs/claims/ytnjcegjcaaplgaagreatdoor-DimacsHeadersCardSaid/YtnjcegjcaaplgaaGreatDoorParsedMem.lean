/- A text's formula, or its first error, as the statements read it. -/
import Derived.Test.YtnjcegjcaaplgaaGreatDoorWLines
import Derived.Test.YtnjcegjcaaplgaaGreatDoorNumber
import Derived.Test.YtnjcegjcaaplgaaGreatDoorParsedMath
namespace Go.Proofs.YtnjcegjcaaplgaaGreatDoor
open Go.RowKit
set_option linter.unusedSimpArgs false
set_option linter.unusedVariables false
set_option linter.unnecessarySimpa false

/-- what is known between two words, in memory -/
def PM (w wl wr : World) (r : Rd) (Af : Option Addr) (cf : Nat) (vs : List Value) (mid : Nat) (Ao : Option Addr) (co : Nat) : Prop :=
  Blk wr (w.heap.size + 1) 28 #[.int .i64 r.vars, .slice Af r.cls.length cf] ∧ Blk wr w.heap.size 28 #[.int .i64 0, .slice none 0 0] ∧
    wr.ownsRow wl.heap.size 45 1 (.slice Af r.cls.length cf) r.cls.length vs ∧ OwnList wr wl.heap.size 3 vs r.cls ∧ wl.heap.size ≤ mid ∧ mid ≤ wr.heap.size ∧
    (∀ j g, j < r.cls.length → ((vs[j]?).getD undef).ownBlock = some g → g < mid) ∧ wr.ownsRow mid 3 1 (.slice Ao r.opn.length co) r.opn.length (r.opn.map (Value.int .i64)) ∧
    Below w.heap.size w wr ∧ (∀ g, w.heap.size + 2 ≤ g → g < wl.heap.size → wr.heap[g]? = wl.heap[g]?) ∧ w.heap.size + 2 ≤ wl.heap.size
def PAt (w wl wr : World) (r : Rd) (Ao : Option Addr) (co : Nat) : Prop := ∃ (Af : Option Addr) (cf : Nat) (vs : List Value) (mid : Nat), PM w wl wr r Af cf vs mid Ao co

section
variable {w wl wr w' w3 : World} {r : Rd} {Af : Option Addr} {cf : Nat} {vs : List Value} {mid : Nat} {Ao : Option Addr} {co : Nat}
theorem PM.callee (h : PM w wl wr r Af cf vs mid Ao co) (hb : Below wr.heap.size wr w') : PM w wl w' r Af cf vs mid Ao co := by
  obtain ⟨h1, h2, h3, h4, h5, h6, h7, h8, h9, h10, h11⟩ := h
  exact ⟨h1.below hb h1.lt, h2.below hb h2.lt, own_below h3 hb (fun g hg => (h3.lt g hg).2), h4.below hb (Nat.le_refl _), h5, Nat.le_trans h6 hb.size, h7, own_below h8 hb (fun g hg => (h8.lt g hg).2),
    h9.trans (hb.mono h9.size), fun g hg1 hg2 => (hb.block g (by omega)).trans (h10 g hg1 hg2), h11⟩
theorem PAt.callee (h : PAt w wl wr r Ao co) (hb : Below wr.heap.size wr w') : PAt w wl w' r Ao co := by
  obtain ⟨Af, cf, vs, mid, h⟩ := h
  exact ⟨Af, cf, vs, mid, h.callee hb⟩
/-- the number of variables laid down -/
theorem PM.vars (h : PM w wl wr r Af cf vs mid Ao co) (v : Int) : PM w wl (wr.setCell ⟨w.heap.size + 1, 0, none⟩ (.int .i64 v)) { r with vars := v } Af cf vs mid Ao co := by
  obtain ⟨h1, h2, h3, h4, h5, h6, h7, h8, h9, h10, h11⟩ := h
  refine ⟨by simpa using h1.set_ 0 (.int .i64 v), h2.far (by simp) _, own_setCell h3 _ (own_blk_ne h3 h1 (by decide)), h4.kept (grown_setCell wr _ _) (h4.ne_blk h1 (by decide)), h5, by simpa using h6, h7, own_setCell h8 _ (own_blk_ne h8 h1 (by decide)),
    h9.setCell (by simp) _, fun g hg1 hg2 => ?_, h11⟩
  rw [Below.heap_setCell wr _ _ g (by simp; omega)]
  exact h10 g hg1 hg2
/-- a literal more in the open clause -/
theorem PM.add {A3 : Option Addr} {c3 : Nat} (n : Int) (h : PM w wl wr r Af cf vs mid Ao co) (h3' : w3.ownsRow mid 3 1 (.slice A3 (r.opn.length + 1) c3) (r.opn.length + 1) (r.opn.map (Value.int .i64) ++ [.int .i64 n]))
    (hg : (wr.alloc (.cells #[.int .i64 n] 3)).grownBy w3 (Value.slice Ao r.opn.length co).ownBlock) : PM w wl w3 { r with opn := r.opn ++ [n] } Af cf vs mid A3 c3 := by
  obtain ⟨h1, h2, h3, h4, h5, h6, h7, h8, h9, h10, h11⟩ := h
  have hz := hg.size
  simp at hz
  have hoa := h8.alloc (.cells #[.int .i64 n] 3)
  have h1a := h1.alloc (.cells #[.int .i64 n] 3)
  have h2a := h2.alloc (.cells #[.int .i64 n] 3)
  have h3a := h3.alloc (.cells #[.int .i64 n] 3)
  have hla := h4.kept (World.grownBy_alloc wr (.cells #[.int .i64 n] 3) none) (fun _ _ _ _ h => by cases h)
  have hne : ∀ j g, j < r.cls.length → ((vs[j]?).getD undef).ownBlock = some g → some g ≠ (Value.slice Ao r.opn.length co).ownBlock := by
    intro j g hj hg' he
    have h8' := h7 j g hj hg'
    have h9' := (h8.lt g he.symm).1
    omega
  have hlo : ∀ g, (Value.slice Ao r.opn.length co).ownBlock = some g → wl.heap.size ≤ g := fun g hg' => by have := (h8.lt g hg').1; omega
  refine ⟨h1a.grown hg (own_blk_ne hoa h1a (by decide)), h2a.grown hg (own_blk_ne hoa h2a (by decide)), h3a.kept hg (own_own_ne h3a hoa (by decide)), hla.kept hg hne, h5, by omega, h7, by simpa using h3', ?_, fun g hg1 hg2 => ?_, h11⟩
  · exact (h9.alloc (by have := h9.size; omega) (.cells #[.int .i64 n] 3)).grown hg (by have := h9.size; simp; omega) (fun g hg' => by have := hlo g hg'; omega)
  · rw [hg.block g (by simp; omega) (fun e => by have := hlo g e.symm; omega), Below.heap_alloc wr _ g (by omega)]
    exact h10 g hg1 hg2
/-- the open clause ended -/
theorem PM.close {A3 : Option Addr} {c3 : Nat} (h : PM w wl wr r Af cf vs mid Ao co) (h3' : w3.ownsRow wl.heap.size 45 1 (.slice A3 (r.cls.length + 1) c3) (r.cls.length + 1) (vs ++ [.slice Ao r.opn.length co]))
    (hg : (wr.alloc (.cells #[.slice Ao r.opn.length co] 45)).grownBy w3 (Value.slice Af r.cls.length cf).ownBlock) :
    PM w wl (w3.setCell ⟨w.heap.size + 1, 1, none⟩ (.slice A3 (r.cls.length + 1) c3)) { r with cls := r.cls ++ [r.opn], opn := [] } A3 c3 (vs ++ [.slice Ao r.opn.length co]) w3.heap.size none 0 := by
  obtain ⟨h1, h2, h3, h4, h5, h6, h7, h8, h9, h10, h11⟩ := h
  have hz := hg.size
  simp at hz
  have h1a := h1.alloc (.cells #[.slice Ao r.opn.length co] 45)
  have h2a := h2.alloc (.cells #[.slice Ao r.opn.length co] 45)
  have h3a := h3.alloc (.cells #[.slice Ao r.opn.length co] 45)
  have h8a := h8.alloc (.cells #[.slice Ao r.opn.length co] 45)
  have hla := h4.kept (World.grownBy_alloc wr (.cells #[.slice Ao r.opn.length co] 45) none) (fun _ _ _ _ h => by cases h)
  have hl3 := hla.kept hg (hla.ne_outer h3a (by decide))
  have ho3 := h8a.kept hg (own_own_ne h8a h3a (by decide))
  have hvl : vs.length = r.cls.length := by have := h3.1; omega
  have hl4 := hl3.snoc hvl ho3 h5 h7
  have hb3 := h1a.grown hg (own_blk_ne h3a h1a (by decide))
  have hr3 := h2a.grown hg (own_blk_ne h3a h2a (by decide))
  have hl5 := hl4.kept (grown_setCell w3 ⟨w.heap.size + 1, 1, none⟩ (.slice A3 (r.cls.length + 1) c3)) (hl4.ne_blk hb3 (by decide))
  have hlo : ∀ g, (Value.slice Af r.cls.length cf).ownBlock = some g → wl.heap.size ≤ g := fun g hg' => (h3.lt g hg').1
  have e1 : (r.cls ++ [r.opn]).length = r.cls.length + 1 := by simp
  refine ⟨?_, hr3.far (by simp) _, ?_, hl5, by omega, by simp, fun j g hj hg' => ?_, World.ownsRow_nil _ _ _ _, ?_, fun g hg1 hg2 => ?_, h11⟩
  · simp only [e1]
    simpa using hb3.set_ 1 (.slice A3 (r.cls.length + 1) c3)
  · simp only [e1]
    exact own_setCell h3' _ (own_blk_ne h3' hb3 (by decide))
  · exact (hl4.lt hj hg').2
  · exact ((h9.alloc (by have := h9.size; omega) (.cells #[.slice Ao r.opn.length co] 45)).grown hg (by have := h9.size; simp; omega) (fun g hg' => by have := hlo g hg'; omega)).setCell (by simp) _
  · rw [Below.heap_setCell w3 _ _ g (by simp; omega), hg.block g (by simp; omega) (fun e => by have := hlo g e.symm; omega), Below.heap_alloc wr _ g (by omega)]
    exact h10 g hg1 hg2
end

/-- the number of clauses, as the statement keeps it -/
def clOf (r : Rd) : Int := if r.begun then r.stated else -1

/-- what is known of the text -/
structure RTxt (s : List UInt8) (L : List (List (List UInt8))) (k : Nat) (r : Rd) : Prop where
  eq : parseOf s = parseW r k (L.drop k)
  pos : r.begun = true → 0 ≤ r.stated ∧ 0 ≤ r.vars
  size : r.size ≤ 100000 * k
theorem takeBody_keeps : ∀ (ws : List (List UInt8)) (r : Rd), (takeBody r ws).1.begun = r.begun ∧ (takeBody r ws).1.stated = r.stated ∧ (takeBody r ws).1.vars = r.vars
  | [], r => ⟨rfl, rfl, rfl⟩
  | w :: ws, r => by
    have ht : ∀ n, (takeItem r n).1.begun = r.begun ∧ (takeItem r n).1.stated = r.stated ∧ (takeItem r n).1.vars = r.vars := fun n => by
      unfold takeItem
      repeat' split
      all_goals exact ⟨rfl, rfl, rfl⟩
    unfold takeBody
    split
    · exact ⟨rfl, rfl, rfl⟩
    · rename_i n _
      obtain ⟨a1, a2, a3⟩ := ht n
      split
      · obtain ⟨b1, b2, b3⟩ := takeBody_keeps ws (takeItem r n).1
        exact ⟨b1.trans a1, b2.trans a2, b3.trans a3⟩
      · exact ⟨a1, a2, a3⟩
theorem RTxt.skip {s : List UInt8} {L : List (List (List UInt8))} {k : Nat} {r : Rd} (h : RTxt s L k r) (hk : k < L.length) (hs : skipLine (L.getD k []) = true) : RTxt s L (k + 1) r := by
  refine ⟨?_, h.pos, by have := h.size; omega⟩
  have e : L.getD k [] = L[k] := by rw [List.getD, List.getElem?_eq_getElem hk]; rfl
  rw [h.eq, List.drop_eq_getElem_cons hk, parseW_cons, if_pos (by rw [← e]; exact hs)]
theorem RTxt.bad {s : List UInt8} {L : List (List (List UInt8))} {k : Nat} {r r' : Rd} {E : Int} (h : RTxt s L k r) (hk : k < L.length) (hs : skipLine (L.getD k []) = false) (ht : takeLine r (L.getD k []) = (r', E)) (hE : E ≠ 0) : parseOf s = .bad (k + 1) E := by
  have e : L.getD k [] = L[k] := by rw [List.getD, List.getElem?_eq_getElem hk]; rfl
  rw [h.eq, List.drop_eq_getElem_cons hk, parseW_cons, if_neg (by rw [← e, hs]; decide), ← e, ht, if_neg hE]
theorem RTxt.good {s : List UInt8} {L : List (List (List UInt8))} {k : Nat} {r r' : Rd} (h : RTxt s L k r) (hk : k < L.length) (hs : skipLine (L.getD k []) = false) (ht : takeLine r (L.getD k []) = (r', 0)) (hl : (L.getD k []).length ≤ 100000) (hp : r'.begun = true → 0 ≤ r'.stated ∧ 0 ≤ r'.vars) :
    RTxt s L (k + 1) r' := by
  have e : L.getD k [] = L[k] := by rw [List.getD, List.getElem?_eq_getElem hk]; rfl
  refine ⟨?_, hp, ?_⟩
  · rw [h.eq, List.drop_eq_getElem_cons hk, parseW_cons, if_neg (by rw [← e, hs]; decide), ← e, ht, if_pos rfl]
  · have h1 := takeLine_size r (L.getD k [])
    rw [ht] at h1
    have := h.size
    simp only at h1
    omega

/-- what a statement has of a text -/
def GPost (R : Res) (w : World) (e : Ending) (w' : World) : Prop :=
  match R with
  | .ok v cls => ∃ (A : Option Addr) (c : Nat), e = .returned (.tuple #[.agg #[.int .i64 v, .slice A cls.length c], .int .i64 0, .int .i64 0]) ∧ Rows w' w'.heap.size A cls ∧ Below w.heap.size w w'
  | .bad line err => e = .returned (.tuple #[.agg #[.int .i64 0, .slice none 0 0], .int .i64 line, .int .i64 err]) ∧ Below w.heap.size w w'

end Go.Proofs.YtnjcegjcaaplgaaGreatDoor
