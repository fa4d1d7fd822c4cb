/- A state as the statements of layer 14 know it. -/
import Derived.Test.YtbejjddkndcldaaFit14
import Derived.Test.YtbejjddkndcldaaRawForm
import Derived.Test.YtbejjddkndcldaaLaw02
namespace Go.Proofs.Ytbejjddkndcldaa
open Go.RowKit
set_option linter.unusedVariables false
set_option linter.unusedSimpArgs false

/-- a state whose struct lies in block g, all of whose blocks lie from B on -/
structure St14 (w : World) (B : Nat) (ρ : Nat → Nat) (g : Nat) (z : List Bool) (yss : List (List Int)) (s : LS) (b : BS) : Prop where
  ex : ∃ p : Lx, p.g = g ∧ LM w ρ p (MS.of z s b)
  good : s.Good z.length
  at_ : s.At z
  cls : s.cls = yss
  bg : b.Good z
  few : b.fewest ≤ 1000
  lo : ∀ q, ρ q ≠ 0 → B ≤ q
  hB : B ≤ w.heap.size
/-- a variable's value, turned, if it is one -/
def turnI (z : List Bool) (v : Int) : List Bool := if 1 ≤ v ∧ v ≤ z.length then turn z v.toNat else z
theorem turnI_len (z : List Bool) (v : Int) : (turnI z v).length = z.length := by
  unfold turnI
  split
  · exact turn_len _ _
  · rfl
section
variable {w w' : World} {B g : Nat} {ρ ρ' : Nat → Nat} {z : List Bool} {yss : List (List Int)} {s : LS} {b : BS}
theorem St14.below (h : St14 w B ρ g z yss s b) (hb : Below w.heap.size w w') : St14 w' B ρ g z yss s b := by
  obtain ⟨p, h1, h2⟩ := h.ex
  exact ⟨⟨p, h1, h2.below hb⟩, h.good, h.at_, h.cls, h.bg, h.few, h.lo, Nat.le_trans h.hB hb.size⟩
theorem St14.drewN (h : St14 w B ρ g z yss s b) (k : Nat) : St14 (w.drewN k) B ρ g z yss s b := h.below (below_drewN (Below.refl _ _) k)
theorem St14.fresh (h : St14 w B ρ g z yss s b) : ∀ q, ρ q ≠ 0 → q < w.heap.size := by
  obtain ⟨p, h1, h2⟩ := h.ex
  exact h2.fresh
theorem St14.frame (h : St14 w B ρ g z yss s b) (hs : LStep w ρ w' ρ') : Below B w w' := hs.ft.below h.hB h.lo
theorem St14.beside {ρ2 ρ2' : Nat → Nat} (h : St14 w B ρ g z yss s b) (hs : LStep w ρ2 w' ρ2') (hd : ∀ q, ρ q ≠ 0 → ρ2 q = 0) : St14 w' B ρ g z yss s b := by
  obtain ⟨p, h1, h2⟩ := h.ex
  exact ⟨⟨p, h1, h2.beside hs hd⟩, h.good, h.at_, h.cls, h.bg, h.few, h.lo, Nat.le_trans h.hB hs.ft.size⟩
/-- where blocks that the state has nothing of turn -/
theorem St14.ft {F : Nat → Prop} (h : St14 w B ρ g z yss s b) (hf : Ft F w w') (hd : ∀ q, ρ q ≠ 0 → ¬ F q) : St14 w' B ρ g z yss s b := by
  obtain ⟨p, h1, h2⟩ := h.ex
  exact ⟨⟨p, h1, h2.ft hf hd⟩, h.good, h.at_, h.cls, h.bg, h.few, h.lo, Nat.le_trans h.hB hf.size⟩
theorem dj_step {ρ1 ρ1' ρ2 : Nat → Nat} (hs : LStep w ρ1 w' ρ1') (hd : ∀ q, ρ1 q ≠ 0 → ρ2 q = 0) (hf : ∀ q, ρ2 q ≠ 0 → q < w.heap.size) : ∀ q, ρ1' q ≠ 0 → ρ2 q = 0 := fun q hq => by
  rcases Nat.lt_or_ge q w.heap.size with hl | hl
  · rw [hs.part q hl] at hq
    exact hd q hq
  · refine Decidable.not_not.1 fun hne => ?_
    have := hf q hne
    omega
theorem dj_symm {ρ1 ρ2 : Nat → Nat} (hd : ∀ q, ρ1 q ≠ 0 → ρ2 q = 0) : ∀ q, ρ2 q ≠ 0 → ρ1 q = 0 := fun q hq => Decidable.not_not.1 fun hne => hq (hd q hne)

theorem st_new (F : Nat) (xss : List (List Int)) (z : List Bool) (B : Nat) (A Az : Option Addr) (c cz : Nat) (w : World) (hF : F ≤ 1000) (hL : LightForm F xss) (hR : Rows w B A xss) (hZ : Cells w B Az z.length fun j => .bool (z.getD j false)) (hB : B ≤ w.heap.size) (hz : z.length = F) :
    Calls Try.prog 21 #[.agg #[.int .i64 F, .slice A xss.length c], .slice Az z.length cz] w fun e w' => ∃ ρ g s, e = .returned (.tuple #[.pointer (some ⟨g, 0, none⟩), .int .i64 0]) ∧ St14 w' w.heap.size ρ g z (normForm xss) s ⟨0, s.row.length, [], none⟩ ∧ Below w.heap.size w w' := by
  refine (new_any14 F xss z B A Az c cz w hF hL hR hZ hB hz).mono ?_
  rintro e w' ⟨ρ, p, rfl, s, hm, hc, hg, ha, hb, hl⟩
  have h1 := hg.rlen
  have h2 := hg.few
  exact ⟨ρ, p.g, s, rfl, ⟨⟨p, rfl, hm⟩, hg, ha, hc, ⟨(fun v hv => by cases hv), fun _ => .inr rfl, Nat.zero_le _, (fun a ha => by cases ha)⟩, by show s.row.length ≤ 1000; omega, hl, hb.size⟩, hb⟩

theorem st_flip (h : St14 w B ρ g z yss s b) (hfl : b.flips ≤ 1000000) (v : Int) (hv : -9223372036854775808 ≤ v ∧ v ≤ 9223372036854775807) :
    Calls Try.prog 23 #[.pointer (some ⟨g, 0, none⟩), .int .i64 v] w fun e w' => e = .returned (.bool (isVar z.length v)) ∧ ∃ ρ' s' b', St14 w' B ρ' g (turnI z v) yss s' b' ∧ LStep w ρ w' ρ' ∧
      (isVar z.length v = true → b'.flips = b.flips + 1 ∧ b'.fewest = (if s'.row.length < b.fewest then s'.row.length else b.fewest) ∧ b'.of (turnI z v) = if s'.row.length < b.fewest then turnI z v else b.of z) ∧ (isVar z.length v = false → b' = b ∧ s' = s) := by
  obtain ⟨p, rfl, hm⟩ := h.ex
  by_cases hc : 1 ≤ v ∧ v ≤ z.length
  · obtain ⟨k, rfl⟩ : ∃ k : Nat, v = k := ⟨v.toNat, by omega⟩
    have hi : isVar z.length (k : Int) = true := decide_eq_true hc
    have ht : turnI z (k : Int) = turn z k := by unfold turnI; rw [if_pos hc, Int.toNat_natCast]
    rw [hi, ht]
    have h1 : 1 ≤ k := by omega
    have h2 : k ≤ z.length := by omega
    refine (flip_yes hm h.good h.at_ h.bg hfl h.few h1 h2).mono ?_
    rintro e w1 ⟨rfl, ρ', p', e1, hm', hs⟩
    obtain ⟨g1, g2, g3⟩ := flip_spec h.good h.at_ h1 h2
    have hlt : b.best = none → b.since.length < z.length := fun hn => by
      rcases h.bg.few hn with e | e
      · exact e
      · rw [e]; simp; omega
    have hr := g1.rlen
    have hf := g1.few
    refine ⟨rfl, ρ', s.flip z k, _, ⟨⟨p', e1, hm'⟩, g1, g3, g2.trans h.cls, next_good h.bg h1 h2 hlt, ?_, fun q hq => ?_, Nat.le_trans h.hB hs.ft.size⟩, hs, fun _ => ⟨next_flips, next_fewest, next_of h.bg h1 h2⟩, fun e => by cases e⟩
    · rw [next_fewest]
      split
      · omega
      · exact h.few
    · rcases Nat.lt_or_ge q w.heap.size with hl | hl
      · rw [hs.part q hl] at hq
        exact h.lo q hq
      · exact Nat.le_trans h.hB hl
  · have hi : isVar z.length v = false := decide_eq_false hc
    have ht : turnI z v = z := by unfold turnI; rw [if_neg hc]
    rw [hi, ht]
    refine (flip_no hm h.good.vars hv hc).mono ?_
    rintro e w1 ⟨rfl, rfl⟩
    exact ⟨rfl, ρ, s, b, h, LStep.refl, (fun e => by cases e), fun _ => ⟨rfl, rfl⟩⟩

theorem st_right (h : St14 w B ρ g z yss s b) (B1 B2 : Nat) (A Az : Option Addr) (c cz : Nat) (hR : Rows w B1 A yss) (hZ : Bools w B2 Az z) (h1 : B1 ≤ w.heap.size) (h2 : B2 ≤ w.heap.size) :
    Calls Try.prog 22 #[.pointer (some ⟨g, 0, none⟩), .slice A yss.length c, .slice Az z.length cz] w fun e w' => e = .returned (.bool true) ∧ Below w.heap.size w w' := by
  obtain ⟨p, rfl, hm⟩ := h.ex
  rw [← h.cls] at hR ⊢
  exact right_any14 hm h.good h.at_ B1 B2 A Az c cz hR hZ h1 h2
theorem st_unsat (h : St14 w B ρ g z yss s b) : Calls Try.prog 26 #[.pointer (some ⟨g, 0, none⟩)] w fun e w' => e = .returned (.int .i64 (s.row.length : Nat)) ∧ w = w' := by
  obtain ⟨p, rfl, hm⟩ := h.ex
  exact unsat_any hm
theorem st_flips (h : St14 w B ρ g z yss s b) : Calls Try.prog 24 #[.pointer (some ⟨g, 0, none⟩)] w fun e w' => e = .returned (.int .i64 (b.flips : Nat)) ∧ w = w' := by
  obtain ⟨p, rfl, hm⟩ := h.ex
  exact flips_any hm
theorem st_clauses (h : St14 w B ρ g z yss s b) : Calls Try.prog 34 #[.pointer (some ⟨g, 0, none⟩)] w fun e w' => e = .returned (.int .i64 (yss.length : Nat)) ∧ w = w' := by
  obtain ⟨p, rfl, hm⟩ := h.ex
  rw [← h.cls]
  exact clauses_any hm
theorem st_assign (h : St14 w B ρ g z yss s b) : Calls Try.prog 25 #[.pointer (some ⟨g, 0, none⟩)] w fun e w' => ∃ A c, e = .returned (.slice A z.length c) ∧ w'.ownsRow w.heap.size 4 1 (.slice A z.length c) z.length (z.map .bool) ∧ Below w.heap.size w w' := by
  obtain ⟨p, rfl, hm⟩ := h.ex
  exact assignment_any hm h.good.vars
theorem st_best (h : St14 w B ρ g z yss s b) : Calls Try.prog 27 #[.pointer (some ⟨g, 0, none⟩)] w fun e w' => ∃ A c, e = .returned (.tuple #[.slice A z.length c, .int .i64 (b.fewest : Nat)]) ∧ w'.ownsRow w.heap.size 4 1 (.slice A z.length c) z.length ((b.of z).map .bool) ∧ Below w.heap.size w w' := by
  obtain ⟨p, rfl, hm⟩ := h.ex
  exact best_any hm h.good.vars h.bg
/-- the break of anything -/
def breakI (s : LS) (n : Nat) (v : Int) : Nat := if 1 ≤ v ∧ v ≤ n then brk s.hss v.toNat else 0
def makeI (s : LS) (z : List Bool) (v : Int) : Nat := if 1 ≤ v ∧ v ≤ z.length then makeOf s z v.toNat else 0
theorem st_break (h : St14 w B ρ g z yss s b) (v : Int) (hv : -9223372036854775808 ≤ v ∧ v ≤ 9223372036854775807) : Calls Try.prog 28 #[.pointer (some ⟨g, 0, none⟩), .int .i64 v] w fun e w' => e = .returned (.int .i64 (breakI s z.length v : Nat)) ∧ w = w' := by
  obtain ⟨p, rfl, hm⟩ := h.ex
  have := break_any hm h.good.vars v hv
  change Calls _ _ _ _ (fun e w' => e = .returned (.int .i64 (if (1 : Int) ≤ v ∧ v ≤ (z.length : Nat) then (brk s.hss v.toNat : Nat) else 0)) ∧ w = w') at this
  unfold breakI
  split
  · rename_i hc
    rw [if_pos hc] at this
    exact this
  · rename_i hc
    rw [if_neg hc] at this
    exact this
theorem st_make (h : St14 w B ρ g z yss s b) (v : Int) (hv : -9223372036854775808 ≤ v ∧ v ≤ 9223372036854775807) : Calls Try.prog 29 #[.pointer (some ⟨g, 0, none⟩), .int .i64 v] w fun e w' => e = .returned (.int .i64 (makeI s z v : Nat)) ∧ ∃ k, w' = w.drewN k := by
  obtain ⟨p, rfl, hm⟩ := h.ex
  unfold makeI
  split
  · rename_i hc
    obtain ⟨k, rfl⟩ : ∃ k : Nat, v = k := ⟨v.toNat, by omega⟩
    rw [Int.toNat_natCast]
    exact make_yes hm h.good (by omega) (by omega)
  · rename_i hc
    exact same_drew14 (make_no hm h.good.vars hv hc)
theorem st_value (h : St14 w B ρ g z yss s b) (v : Int) (hv : -9223372036854775808 ≤ v ∧ v ≤ 9223372036854775807) : Calls Try.prog 33 #[.pointer (some ⟨g, 0, none⟩), .int .i64 v] w fun e w' => e = .returned (.bool (valZ z v)) ∧ w = w' := by
  obtain ⟨p, rfl, hm⟩ := h.ex
  exact value_loc hm h.good.vars v hv
theorem st_holding (h : St14 w B ρ g z yss s b) (i : Int) : Calls Try.prog 32 #[.pointer (some ⟨g, 0, none⟩), .int .i64 i] w fun e w' => e = .returned (.int .i64 (if 0 ≤ i ∧ i < yss.length then ((s.hss.getD i.toNat []).length : Nat) else 0)) ∧ w = w' := by
  obtain ⟨p, rfl, hm⟩ := h.ex
  have hf := h.good.few
  rw [← h.cls]
  exact holding_any hm (show s.cls.length ≤ 1000 by omega) i
theorem st_clause (h : St14 w B ρ g z yss s b) (i : Int) :
    Calls Try.prog 30 #[.pointer (some ⟨g, 0, none⟩), .int .i64 i] w fun e w' => ∃ A c, e = .returned (.slice A (if 0 ≤ i ∧ i < yss.length then (yss.getD i.toNat []).length else 0) c) ∧
      w'.ownsRow w.heap.size 3 1 (.slice A (if 0 ≤ i ∧ i < yss.length then (yss.getD i.toNat []).length else 0) c) (if 0 ≤ i ∧ i < yss.length then (yss.getD i.toNat []).length else 0) ((if 0 ≤ i ∧ i < yss.length then yss.getD i.toNat [] else []).map (Value.int .i64)) ∧ Below w.heap.size w w' := by
  obtain ⟨p, rfl, hm⟩ := h.ex
  have hf := h.good.few
  rw [← h.cls]
  exact clause_loc hm (show s.cls.length ≤ 1000 by omega) (fun i => by have := h.good.short i; show (s.cls.getD i []).length ≤ 1000; omega) i
end
theorem lightForm_rawW14 {F W : Nat} (hW : W ≤ 9) {nss : List (List Int)} (h : light nss 40 = true) : LightForm F (rawForm F W nss) := by
  obtain ⟨h1, h2⟩ := light_iff.1 h
  refine ⟨by rw [rawForm_len]; exact h2, fun c hc => ?_, fun c hc l hl => ?_⟩
  · obtain ⟨d, _, rfl⟩ := List.mem_map.1 hc
    exact Nat.le_trans (rawClause_len F W d).2 hW
  · obtain ⟨d, _, rfl⟩ := List.mem_map.1 hc
    have := rawClause_bd hl
    exact this.2
theorem u8_nat14 {u : Int} (h : (Lit.int .u8 u).wf = true) : ∃ v : Nat, u = v ∧ v ≤ 255 := by
  have := bounds_u8 h
  exact ⟨u.toNat, by omega, by omega⟩

theorem turnI_comm (z : List Bool) (u v : Int) : turnI (turnI z u) v = turnI (turnI z v) u := by
  by_cases hu : 1 ≤ u ∧ u ≤ z.length
  · by_cases hv : 1 ≤ v ∧ v ≤ z.length
    · have e1 : turnI z u = turn z u.toNat := if_pos hu
      have e2 : turnI z v = turn z v.toNat := if_pos hv
      rw [e1, e2]
      unfold turnI
      rw [if_pos (by rw [turn_len]; exact hv), if_pos (by rw [turn_len]; exact hu)]
      exact turn_comm (by omega) (by omega) (by omega) (by omega)
    · have e2 : turnI z v = z := if_neg hv
      rw [e2]
      have : turnI (turnI z u) v = turnI z u := if_neg (by rw [turnI_len]; exact hv)
      exact this
  · have e1 : turnI z u = z := if_neg hu
    rw [e1]
    have : turnI (turnI z v) u = turnI z v := if_neg (by rw [turnI_len]; exact hu)
    exact this.symm
theorem turnI_twice (z : List Bool) (u : Int) : turnI (turnI z u) u = z := by
  by_cases hu : 1 ≤ u ∧ u ≤ z.length
  · have e1 : turnI z u = turn z u.toNat := if_pos hu
    rw [e1]
    unfold turnI
    rw [if_pos (by rw [turn_len]; exact hu)]
    exact turn_turn (by omega) (by omega)
  · have e1 : turnI z u = z := if_neg hu
    rw [e1, e1]
def turns (z : List Bool) (l : List Int) : List Bool := l.foldl turnI z
theorem turns_len (z : List Bool) : ∀ l : List Int, (turns z l).length = z.length := fun l => by
  induction l generalizing z with
  | nil => rfl
  | cons x r ih =>
    show (turns (turnI z x) r).length = _
    rw [ih, turnI_len]
theorem turns_snoc (z : List Bool) (l : List Int) (x : Int) : turns z (l ++ [x]) = turnI (turns z l) x := by simp [turns]
theorem turns_perm {l l' : List Int} (h : l.Perm l') (z : List Bool) : turns z l = turns z l' := by
  induction h generalizing z with
  | nil => rfl
  | cons x _ ih => exact ih (turnI z x)
  | swap x y r =>
    show turns (turnI (turnI z y) x) r = turns (turnI (turnI z x) y) r
    rw [turnI_comm]
  | trans _ _ ih1 ih2 => exact (ih1 z).trans (ih2 z)
theorem turns_app (z : List Bool) (l l' : List Int) : turns (turns z l) l' = turns z (l ++ l') := by simp [turns]
theorem turns_undo (z : List Bool) : ∀ l : List Int, turns (turns z l) l = z := fun l => by
  rw [turns_app]
  induction l with
  | nil => rfl
  | cons x r ih =>
    have hp : ((x :: r) ++ (x :: r)).Perm (x :: x :: (r ++ r)) := List.Perm.cons x (List.perm_middle)
    rw [turns_perm hp]
    show turns (turnI (turnI z x) x) (r ++ r) = z
    rw [turnI_twice, ih]
end Go.Proofs.Ytbejjddkndcldaa
