/- The search for a literal at which a clause may wait. -/
import Derived.Test.YthcpfaahcncfjaaGreatDoorEnlist07
import Derived.Lib.SlBy
namespace Go.Proofs.YthcpfaahcncfjaaGreatDoor
open Go.RowKit
set_option linter.unusedVariables false
set_option linter.unusedSimpArgs false

theorem Sto.below {W W' : World} {base : Nat} {X : SX} {fo : List Bool} (h : Sto W base X fo) (hb : Below W.heap.size W W') : Sto W' base X fo := by
  have row : ∀ (e : TypeId) (v : Value) (n : Nat) (xs : List Value), W.ownsRow base e 1 v n xs → W'.ownsRow base e 1 v n xs := fun e v n xs ho => own_below ho hb fun g hg => (ho.lt g hg).2
  refine ⟨h.st.below hb h.st.lt, h.fol.below hb h.fol.lt, h.flen, row _ _ _ _ h.fnd, row _ _ _ _ h.out, h.pil.keep fun q Y hq => hq.below hb hq.lt, h.num, fun p hp => ?_, ?_, h.lo, h.vb⟩
  · obtain ⟨c1, c2, c3, c4⟩ := h.cl p hp
    exact ⟨c1.below hb c1.lt, c2, row _ _ _ _ c3, c4⟩
  · obtain ⟨D, n, ⟨es, clock, m1, m2⟩, h2⟩ := h.map
    exact ⟨D, n, ⟨es, clock, (hb.block _ (Array.getElem?_eq_some_iff.1 m1).1).trans m1, m2⟩, h2⟩
theorem Tn.of_below {base : Nat} {X : SX} {W W' : World} (h : Below W.heap.size W W') (hB : base ≤ W.heap.size) : Tn base X W W' := ⟨h.mono hB, fun q t Y hq _ _ _ _ _ _ => hq.below h hq.lt, Recs.of_below h⟩

instance (V : Nat) (l : Int) : Decidable (Lt7 V l) := by unfold Lt7; infer_instance
/-- may a clause wait at x, beside o? -/
def freeB (fo : List Bool) (o x : Int) : Bool := decide (x ≠ o) && !(fo.getD (ix (-x)) false)
set_option maxRecDepth 100000 in
theorem free_any {W : World} {base : Nat} {X : SX} {fo : List Bool} (h : Sto W base X fo) (o x : Int) (ob sb : Nat) (hx : Lt7 X.V x) (ho : Blk W ob 3 #[.int .i64 o]) (hs : Blk W sb 53 #[.pointer (some ⟨X.s, 0, none⟩)]) :
    Calls Tryz.prog 138 #[.int .i64 x, .pointer (some ⟨ob, 0, none⟩), .pointer (some ⟨sb, 0, none⟩)] W fun e W' => e = .returned (.bool (freeB fo o x)) ∧ ∃ q, W' = W.drewN q := by
  have hvb := h.vb
  obtain ⟨e2, b2⟩ := ix_eq hx.neg
  obtain ⟨c0, c5, c7, c8, cf⟩ := h.cells
  obtain ⟨g2, g2f⟩ := h.folcell b2
  obtain ⟨hl0, hl1, hl2⟩ := hx
  have HJ := Lib.hid (fun w => index_any (-x) w (by omega) (by omega))
  have hwl : IntKind.i64.wrap (-x) = -x := IntWalk.i64_in _ (by omega)
  rw [e2] at HJ
  have o0 := ho.cell 0
  have s0 := hs.cell 0
  simp at o0 s0
  unfold freeB
  obtain ⟨j, hj'⟩ : ∃ j, j = ix (-x) := ⟨_, rfl⟩
  obtain ⟨N, hN⟩ : ∃ N, N = 2 * X.V := ⟨_, rfl⟩
  rw [← hj'] at HJ b2 g2 g2f ⊢
  rw [← hN] at c7 b2
  obtain ⟨fj, hfj⟩ : ∃ fj, fj = fo.getD j false := ⟨_, rfl⟩
  rw [← hfj] at g2 ⊢
  have hb2 : (j : Int) < (N : Int) := by omega
  clear h e2 hj' hN hfj ho hs c0 c5 c8 cf
  by_cases hxo : x = o
  · have hq : (x != o) = false := by simp [hxo]
    rw [show (decide (x ≠ o) && !fj) = false by simp [hxo]]
    clear hxo
    go_enter Tryz.func138, Tryz.ntmps138
    go_wp2
    go_quiet (fail)
    go_wp2
    go_ret
    exact ⟨rfl, _, rfl⟩
  · have hq : (x != o) = true := by simp [hxo]
    rw [show (decide (x ≠ o) && !fj) = !fj by simp [hxo]]
    clear hxo
    go_enter Tryz.func138, Tryz.ntmps138
    go_wp2
    go_quiet ((go_at_call 88; with_reducible exact quiet_left (HJ.out _)))
    go_wp2
    go_ret
    exact ⟨rfl, _, rfl⟩

/-- the place of the first of them that may, from a place on -/
def firstFree (fo : List Bool) (o : Int) (xs : List Int) : Int := match xs.findIdx? (freeB fo o) with | some i => i | none => -1
theorem idx_first {α : Type} [Inhabited α] (p : α → Bool) (zs : List α) : Lib.idxBy (fun _ y => p y) zs default = (match zs.findIdx? p with | some i => (i : Int) | none => -1) := by
  cases h : zs.findIdx? p with
  | none =>
    have hm := Lib.idxBy_miss (fun (_ y : α) => p y) zs zs.length default fun j hj => by
      rw [getElem!_pos zs j hj]
      have := List.findIdx?_eq_none_iff.1 h zs[j] (List.getElem_mem hj)
      simpa using this
    rwa [List.take_length] at hm
  | some i =>
    obtain ⟨hi, h1, h2⟩ := List.findIdx?_eq_some_iff_getElem.1 h
    have hm := Lib.idxBy_hit (fun (_ y : α) => p y) zs zs.length i default hi (Nat.le_refl _) (by rw [getElem!_pos zs i hi]; exact h1) (fun j hj => by
      rw [getElem!_pos zs j (by omega)]
      have := h2 j hj
      simpa using this)
    rwa [List.take_length] at hm

theorem findIdx_congr7 {α : Type} {p q : α → Bool} : ∀ {xs : List α}, (∀ x, x ∈ xs → p x = q x) → xs.findIdx? p = xs.findIdx? q
  | [], _ => rfl
  | x :: r, h => by
    rw [List.findIdx?_cons, List.findIdx?_cons, h x (by simp), findIdx_congr7 fun y hy => h y (by simp [hy])]
/-- a literal as the search takes it; others stand for themselves no longer -/
def clamp7 (V : Nat) (x : Int) : Int := if Lt7 V x then x else 1
theorem clamp7_lt {V : Nat} (hV : 1 ≤ V) (x : Int) : Lt7 V (clamp7 V x) := by
  unfold clamp7
  split
  · assumption
  · exact ⟨by omega, by omega, by omega⟩
theorem search_any {W : World} {base : Nat} {X : SX} {fo : List Bool} (h : Sto W base X fo) (o : Int) (ob sb : Nat) (ho : Blk W ob 3 #[.int .i64 o]) (hs : Blk W sb 53 #[.pointer (some ⟨X.s, 0, none⟩)])
    (xs : List Int) (hx : ∀ x, x ∈ xs → Lt7 X.V x) (hn : xs.length ≤ 1000000000) (B : Nat) (A : Option Addr) (c : Nat) (hi : Ints W B A xs) :
    Calls Tryz.prog 71 #[.slice A xs.length c, .func (.func 138) #[] #[.pointer (some ⟨ob, 0, none⟩), .pointer (some ⟨sb, 0, none⟩)]] W fun e W' => e = .returned (.int .i64 (firstFree fo o xs)) ∧ ∃ q, W' = W.drewN q := by
  have eg : ∀ args w, (callFunc 138 args).run Tryz.prog w = .ok (.enter 138 args) w := enters_of Tryz.func138 (by kernel_rfl) rfl
  rcases Nat.eq_zero_or_pos xs.length with h0 | h0
  · obtain rfl : xs = [] := List.length_eq_zero_iff.1 h0
    exact (Tryz.slices_IndexFunc_empty (α := Int) A c _ W).mono fun _ _ ⟨he, hw⟩ => ⟨he, 0, hw⟩
  · obtain ⟨b, off, rfl, _, hcell⟩ := hi h0
    have hV : 1 ≤ X.V := by
      obtain ⟨h1, h2, h3⟩ := hx _ (take_snoc7 h0).2
      omega
    have hp : PredAt Tryz.prog 138 #[.pointer (some ⟨ob, 0, none⟩), .pointer (some ⟨sb, 0, none⟩)] (fun x : Int => Value.int .i64 (clamp7 X.V x)) (fun x => freeB fo o (clamp7 X.V x)) W := fun W' x hb =>
      free_any (h.below hb) o (clamp7 X.V x) ob sb (clamp7_lt hV x) (ho.below hb ho.lt) (hs.below hb hs.lt)
    have h1 := Tryz.slices_IndexFunc (fun x : Int => Value.int .i64 (clamp7 X.V x)) (fun x => freeB fo o (clamp7 X.V x)) 138 #[.pointer (some ⟨ob, 0, none⟩), .pointer (some ⟨sb, 0, none⟩)] eg b off xs.length c xs W hp (Nat.le_refl _) (by omega) (fun j hj => by
      rw [hcell j hj, getElem!_pos xs j hj]
      have hc : clamp7 X.V xs[j] = xs[j] := by unfold clamp7; rw [if_pos (hx _ (List.getElem_mem hj))]
      rw [hc]
      simp [List.getD, hj])
    rw [List.take_length, idx_first] at h1
    have e : xs.findIdx? (fun x => freeB fo o (clamp7 X.V x)) = xs.findIdx? (freeB fo o) := by
      apply findIdx_congr7
      intro x hx'
      unfold clamp7
      rw [if_pos (hx x hx')]
    rw [e] at h1
    exact h1
end Go.Proofs.YthcpfaahcncfjaaGreatDoor
