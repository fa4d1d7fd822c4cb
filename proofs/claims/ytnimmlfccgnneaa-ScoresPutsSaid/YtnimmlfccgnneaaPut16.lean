/- Two heaps, the law's own beside the second, and a row of what was taken. -/
import Derived.Test.YtnimmlfccgnneaaFit16
import Derived.Test.YtnimmlfccgnneaaCnt16
namespace Go.Proofs.Ytnimmlfccgnneaa
open Go.RowKit
set_option linter.unusedVariables false
set_option linter.unusedSimpArgs false

def SP.withI (s : SP) (inn : List Bool) : SP := ⟨s.sc, inn, s.rise⟩
theorem SP.bump_withI (s : SP) (i : List Bool) (V : Int) : (s.withI i).bump V = (s.bump V).withI i := by
  unfold SP.bump
  by_cases hv : s.isV V = true
  · rw [if_pos hv, if_pos (show (s.withI i).isV V = true from hv)]
    by_cases h : 1125899906842624 < (s.up (V.toNat - 1)).sc.getD (V.toNat - 1) 0
    · rw [if_pos h, if_pos (show 1125899906842624 < ((s.withI i).up (V.toNat - 1)).sc.getD (V.toNat - 1) 0 from h)]
      rfl
    · rw [if_neg h, if_neg (show ¬ 1125899906842624 < ((s.withI i).up (V.toNat - 1)).sc.getD (V.toNat - 1) 0 from h)]
      rfl
  · rw [if_neg hv, if_neg (show ¬ (s.withI i).isV V = true from hv)]
theorem SP.decay_withI (s : SP) (i : List Bool) : (s.withI i).decay = s.decay.withI i := by
  unfold SP.decay
  by_cases h : 1125899906842624 < s.rose.rise
  · rw [if_pos h, if_pos (show 1125899906842624 < (s.withI i).rose.rise from h)]
    rfl
  · rw [if_neg h, if_neg (show ¬ 1125899906842624 < (s.withI i).rose.rise from h)]
    rfl
theorem SP.decays_withI (s : SP) (i : List Bool) : ∀ j, (s.withI i).decays j = (s.decays j).withI i
  | 0 => rfl
  | j + 1 => by
    show ((s.withI i).decays j).decay = _
    rw [SP.decays_withI s i j, SP.decay_withI]
    rfl
theorem SP.bump_inn16 (s : SP) (V : Int) : (s.bump V).inn = s.inn := by
  unfold SP.bump
  split
  · split <;> rfl
  · rfl
theorem SP.decay_inn16 (s : SP) : s.decay.inn = s.inn := by
  unfold SP.decay
  split <;> rfl
theorem SP.decays_inn16 (s : SP) : ∀ j, (s.decays j).inn = s.inn
  | 0 => rfl
  | j + 1 => (SP.decay_inn16 _).trans (SP.decays_inn16 s j)
theorem cntB_all (k : Nat) : ∀ j, j ≤ k → cntB (List.replicate k true) j = j := by
  intro j
  induction j with
  | zero => intro _; rfl
  | succ j ih =>
    intro h
    rw [cntB_succ, ih (by omega)]
    have : (List.replicate k true).getD j false = true := by simp [List.getD, show j < k by omega]
    rw [this]
    rfl

/-- what was taken, and who is in -/
structure OutR (k : Nat) (inn : List Bool) (xs : List Nat) : Prop where
  len : inn.length = k
  iff_ : ∀ i, i < k → (inn.getD i false = true ↔ i + 1 ∉ xs)
  nd : xs.Nodup
  rng : ∀ v ∈ xs, 1 ≤ v ∧ v ≤ k
theorem OutR.start (k : Nat) : OutR k (List.replicate k true) [] := ⟨by simp, fun i hi => by simp [List.getD, hi], List.nodup_nil, fun v hv => by cases hv⟩
theorem OutR.snoc {k i : Nat} {inn : List Bool} {xs : List Nat} (h : OutR k inn xs) (hi : i < k) (hin : inn.getD i false = true) : OutR k (inn.set i false) (xs ++ [i + 1]) := by
  refine ⟨by simp [h.len], fun j hj => ?_, ?_, fun v hv => ?_⟩
  · rw [getD_set_bool, h.len, List.mem_append, List.mem_singleton]
    by_cases e : j = i
    · subst e
      rw [if_pos ⟨rfl, hi⟩]
      simp
    · rw [if_neg (fun h => e h.1), h.iff_ j hj]
      constructor
      · rintro h1 (h2 | h2)
        · exact h1 h2
        · omega
      · exact fun h1 h2 => h1 (.inl h2)
  · rw [List.nodup_append]
    refine ⟨h.nd, by simp, fun a ha b hb => ?_⟩
    rw [List.mem_singleton] at hb
    subst hb
    rintro rfl
    exact (h.iff_ i hi).1 hin ha
  · rw [List.mem_append, List.mem_singleton] at hv
    rcases hv with hv | rfl
    · exact h.rng v hv
    · omega
theorem OutR.put {k v : Nat} {inn : List Bool} {xs : List Nat} (h : OutR k inn (v :: xs)) : 1 ≤ v ∧ v ≤ k ∧ inn.getD (v - 1) false = false ∧ OutR k (inn.set (v - 1) true) xs := by
  have hr := h.rng v (by simp)
  have hnd := List.nodup_cons.1 h.nd
  refine ⟨hr.1, hr.2, ?_, by simp [h.len], fun j hj => ?_, hnd.2, fun u hu => h.rng u (by simp [hu])⟩
  · rw [Bool.eq_false_iff]
    intro e
    have := (h.iff_ (v - 1) (by omega)).1 e
    rw [show v - 1 + 1 = v by omega] at this
    exact this (by simp)
  · rw [getD_set_bool, h.len]
    by_cases e : j = v - 1
    · rw [if_pos ⟨e, by omega⟩, e, show v - 1 + 1 = v by omega]
      exact ⟨fun _ => hnd.1, fun _ => rfl⟩
    · rw [if_neg (fun h => e h.1), h.iff_ j hj, List.mem_cons]
      constructor
      · exact fun h1 h2 => h1 (.inr h2)
      · rintro h1 (h2 | h2)
        · omega
        · exact h1 h2
theorem OutR.nil_all {k : Nat} {inn : List Bool} (h : OutR k inn []) : inn = List.replicate k true := by
  apply List.ext_getElem
  · rw [h.len, List.length_replicate]
  · intro i h1 h2
    have hk := h.len
    have := (h.iff_ i (by omega)).2 (by simp)
    simpa [List.getD, h1] using this

def natV (xs : List Nat) : List Value := xs.map fun (x : Nat) => .int .i64 (x : Int)
/-- where all lies: both heaps, the law's, below B2; behind it the row -/
structure PPc (w0 : World) (B2 : Nat) (b1 b2 : HB) (m1 : MB) : Prop where
  lo : ∀ q, b1.foot q ∨ foot2 b2 m1 q → w0.heap.size ≤ q
  hi : ∀ q, b1.foot q ∨ foot2 b2 m1 q → q < B2
  dj : ∀ q, b1.foot q → ¬ foot2 b2 m1 q
  b : w0.heap.size ≤ B2
structure PP (w0 w : World) (B2 : Nat) (b1 b2 : HB) (m1 : MB) (k : Nat) (sh sg : SP) (v : Value) (xs : List Nat) : Prop where
  h : St16 w b1 k sh
  g : Pr16 w b2 m1 k sg
  row : w.ownsRow B2 3 1 v xs.length (natV xs)
  fr : Below w0.heap.size w0 w
  sz : B2 ≤ w.heap.size
section
variable {w0 w w' : World} {B2 : Nat} {b1 b2 : HB} {m1 : MB} {k : Nat} {sh sg sh' sg' : SP} {v : Value} {xs : List Nat}
theorem PP.low (h : PP w0 w B2 b1 b2 m1 k sh sg v xs) (hb : Below w.heap.size w w') : PP w0 w' B2 b1 b2 m1 k sh sg v xs :=
  ⟨h.h.low hb, h.g.low hb, own_below h.row hb fun g hg => (h.row.lt g hg).2, h.fr.trans (hb.mono h.fr.size), Nat.le_trans h.sz hb.size⟩
theorem PP.drewN (h : PP w0 w B2 b1 b2 m1 k sh sg v xs) (j : Nat) : PP w0 (w.drewN j) B2 b1 b2 m1 k sh sg v xs := h.low (below_drewN (Below.refl _ _) j)
theorem PP.stepH (h : PP w0 w B2 b1 b2 m1 k sh sg v xs) (c : PPc w0 B2 b1 b2 m1) (h1 : St16 w' b1 k sh') (hf : Ft b1.foot w w') : PP w0 w' B2 b1 b2 m1 k sh' sg v xs :=
  ⟨h1, h.g.ft hf fun q hq e => c.dj q e hq, hf.own h.row fun q hq e => by have := (h.row.lt q hq).1; have := c.hi q (.inl e); omega, h.fr.trans (hf.below h.fr.size fun q hq => c.lo q (.inl hq)), Nat.le_trans h.sz hf.size⟩
theorem PP.stepG (h : PP w0 w B2 b1 b2 m1 k sh sg v xs) (c : PPc w0 B2 b1 b2 m1) (h1 : Pr16 w' b2 m1 k sg') (hf : Ft (foot2 b2 m1) w w') : PP w0 w' B2 b1 b2 m1 k sh sg' v xs :=
  ⟨h.h.ft hf fun q hq e => c.dj q hq e, h1, hf.own h.row fun q hq e => by have := (h.row.lt q hq).1; have := c.hi q (.inr e); omega, h.fr.trans (hf.below h.fr.size fun q hq => c.lo q (.inr hq)), Nat.le_trans h.sz hf.size⟩
theorem PP.app (h : PP w0 w B2 b1 b2 m1 k sh sg v xs) (c : PPc w0 B2 b1 b2 m1) (o : Obj) {v' : Value} {x : Nat} (hown : w'.ownsRow B2 3 1 v' (xs.length + 1) (natV xs ++ [.int .i64 (x : Nat)])) (hg : (w.alloc o).grownBy w' v.ownBlock) : PP w0 w' B2 b1 b2 m1 k sh sg v' (xs ++ [x]) := by
  have hf : Ft (fun q => B2 ≤ q) w w' := (Ft.of_below (F := fun q => B2 ≤ q) ((Below.refl w.heap.size w).alloc (Nat.le_refl _) o)).grown hg fun q hq _ => (h.row.lt q hq).1
  refine ⟨h.h.ft hf fun q hq e => by have := c.hi q (.inl hq); omega, h.g.ft hf fun q hq e => by have := c.hi q (.inr hq); omega, ?_, h.fr.trans (hf.below h.fr.size fun q hq => Nat.le_trans c.b hq), Nat.le_trans h.sz hf.size⟩
  rw [List.length_append, List.length_singleton]
  have e : natV (xs ++ [x]) = natV xs ++ [.int .i64 (x : Nat)] := by simp [natV]
  rw [e]
  exact hown
/-- the second heap alone goes on -/
structure QQ (w0 w : World) (B2 : Nat) (b1 b2 : HB) (k : Nat) (s : SP) : Prop where
  h : St16 w b1 k s
  g : St16 w b2 k s
  fr : Below w0.heap.size w0 w
theorem QQ.stepH {s' : SP} (h : QQ w0 w B2 b1 b2 k sh) (c : PPc w0 B2 b1 b2 m1) {x : SP} (h1 : St16 w' b1 k x) (hf : Ft b1.foot w w') : St16 w' b2 k sh ∧ Below w0.heap.size w0 w' :=
  ⟨h.g.ft hf fun q hq e => c.dj q e (.inl hq), h.fr.trans (hf.below h.fr.size fun q hq => c.lo q (.inl hq))⟩
end
end Go.Proofs.Ytnimmlfccgnneaa
