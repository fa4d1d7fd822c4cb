/- A state as the statements of layer 15 know it: what it is made of and what it turns into are told outright. -/
import Derived.Test.YtllgepabjglnaaaLaw14
import Derived.Test.YtllgepabjglnaaaWalkMath15
import Derived.Test.YtllgepabjglnaaaRawForm
import Derived.Test.YtllgepabjglnaaaLaw02
namespace Go.Proofs.Ytllgepabjglnaaa
open Go.RowKit
set_option linter.unusedVariables false
set_option linter.unusedSimpArgs false

/-- a state whose struct lies in block g, all of whose blocks lie from B on -/
structure St14 (w : World) (B : Nat) (ρ : Nat → Nat) (g : Nat) (z : List Bool) (yss : List (List Int)) (s : LS) (b : BS) : Prop where
  ex : ∃ p : Lx, p.g = g ∧ LM w ρ p (MS.of z s b)
  good : s.Good z.length
  at_ : s.At z
  cls : s.cls = yss
  bg : b.Good z
  few : b.fewest ≤ 1000
  lo : ∀ q, ρ q ≠ 0 → B ≤ q
  hB : B ≤ w.heap.size
theorem turnV_len (z : List Bool) (v : Int) : (turnV z v).length = z.length := by
  unfold turnV
  split
  · exact turn_len _ _
  · rfl
section
variable {w w' : World} {B g : Nat} {ρ ρ' : Nat → Nat} {z : List Bool} {yss : List (List Int)} {s : LS} {b : BS}
theorem St14.below (h : St14 w B ρ g z yss s b) (hb : Below w.heap.size w w') : St14 w' B ρ g z yss s b := by
  obtain ⟨p, h1, h2⟩ := h.ex
  exact ⟨⟨p, h1, h2.below hb⟩, h.good, h.at_, h.cls, h.bg, h.few, h.lo, Nat.le_trans h.hB hb.size⟩
theorem St14.drewN (h : St14 w B ρ g z yss s b) (k : Nat) : St14 (w.drewN k) B ρ g z yss s b := h.below (below_drewN (Below.refl _ _) k)
theorem St14.fresh (h : St14 w B ρ g z yss s b) : ∀ q, ρ q ≠ 0 → q < w.heap.size := by
  obtain ⟨p, h1, h2⟩ := h.ex
  exact h2.fresh
theorem St14.frame (h : St14 w B ρ g z yss s b) (hs : LStep w ρ w' ρ') : Below B w w' := hs.ft.below h.hB h.lo
theorem St14.beside {ρ2 ρ2' : Nat → Nat} (h : St14 w B ρ g z yss s b) (hs : LStep w ρ2 w' ρ2') (hd : ∀ q, ρ q ≠ 0 → ρ2 q = 0) : St14 w' B ρ g z yss s b := by
  obtain ⟨p, h1, h2⟩ := h.ex
  exact ⟨⟨p, h1, h2.beside hs hd⟩, h.good, h.at_, h.cls, h.bg, h.few, h.lo, Nat.le_trans h.hB hs.ft.size⟩
/-- where blocks that the state has nothing of turn -/
theorem St14.ft {F : Nat → Prop} (h : St14 w B ρ g z yss s b) (hf : Ft F w w') (hd : ∀ q, ρ q ≠ 0 → ¬ F q) : St14 w' B ρ g z yss s b := by
  obtain ⟨p, h1, h2⟩ := h.ex
  exact ⟨⟨p, h1, h2.ft hf hd⟩, h.good, h.at_, h.cls, h.bg, h.few, h.lo, Nat.le_trans h.hB hf.size⟩
theorem dj_step {ρ1 ρ1' ρ2 : Nat → Nat} (hs : LStep w ρ1 w' ρ1') (hd : ∀ q, ρ1 q ≠ 0 → ρ2 q = 0) (hf : ∀ q, ρ2 q ≠ 0 → q < w.heap.size) : ∀ q, ρ1' q ≠ 0 → ρ2 q = 0 := fun q hq => by
  rcases Nat.lt_or_ge q w.heap.size with hl | hl
  · rw [hs.part q hl] at hq
    exact hd q hq
  · refine Decidable.not_not.1 fun hne => ?_
    have := hf q hne
    omega
theorem dj_symm {ρ1 ρ2 : Nat → Nat} (hd : ∀ q, ρ1 q ≠ 0 → ρ2 q = 0) : ∀ q, ρ2 q ≠ 0 → ρ1 q = 0 := fun q hq => Decidable.not_not.1 fun hne => hq (hd q hne)

theorem st_new (F : Nat) (xss : List (List Int)) (z : List Bool) (B : Nat) (A Az : Option Addr) (c cz : Nat) (w : World) (hF : F ≤ 1000) (hL : LightForm F xss) (hR : Rows w B A xss) (hZ : Cells w B Az z.length fun j => .bool (z.getD j false)) (hB : B ≤ w.heap.size) (hz : z.length = F) :
    Calls Try.prog 13 #[.agg #[.int .i64 F, .slice A xss.length c], .slice Az z.length cz] w fun e w' => ∃ ρ g s, e = .returned (.tuple #[.pointer (some ⟨g, 0, none⟩), .int .i64 0]) ∧ St14 w' w.heap.size ρ g z (normForm xss) s ⟨0, s.row.length, [], none⟩ ∧ s = startLS z (normForm xss) ∧ Below w.heap.size w w' := by
  refine (new_any14 F xss z B A Az c cz w hF hL hR hZ hB hz).mono ?_
  rintro e w' ⟨ρ, p, rfl, s, hm, hc, hg, ha, hb, hl, hsl⟩
  have h1 := hg.rlen
  have h2 := hg.few
  exact ⟨ρ, p.g, s, rfl, ⟨⟨p, rfl, hm⟩, hg, ha, hc, ⟨(fun v hv => by cases hv), fun _ => .inr rfl, Nat.zero_le _, (fun a ha => by cases ha)⟩, by show s.row.length ≤ 1000; omega, hl, hb.size⟩, hsl, hb⟩

theorem st_flip (h : St14 w B ρ g z yss s b) (hfl : b.flips ≤ 1000000) (v : Int) (hv : -9223372036854775808 ≤ v ∧ v ≤ 9223372036854775807) :
    Calls Try.prog 61 #[.pointer (some ⟨g, 0, none⟩), .int .i64 v] w fun e w' => e = .returned (.bool (isVar z.length v)) ∧ ∃ ρ' b', St14 w' B ρ' g (turnV z v) yss (flipV s z v) b' ∧ LStep w ρ w' ρ' ∧
      (isVar z.length v = true → b'.flips = b.flips + 1 ∧ b'.fewest = (if (flipV s z v).row.length < b.fewest then (flipV s z v).row.length else b.fewest) ∧ b'.of (turnV z v) = if (flipV s z v).row.length < b.fewest then turnV z v else b.of z) ∧ (isVar z.length v = false → b' = b) := by
  obtain ⟨p, rfl, hm⟩ := h.ex
  by_cases hc : 1 ≤ v ∧ v ≤ z.length
  · obtain ⟨k, rfl⟩ : ∃ k : Nat, v = k := ⟨v.toNat, by omega⟩
    have hi : isVar z.length (k : Int) = true := decide_eq_true hc
    have ht : turnV z (k : Int) = turn z k := by unfold turnV; rw [if_pos hc, Int.toNat_natCast]
    have ht2 : flipV s z (k : Int) = s.flip z k := by unfold flipV; rw [if_pos hc, Int.toNat_natCast]
    rw [hi, ht, ht2]
    have h1 : 1 ≤ k := by omega
    have h2 : k ≤ z.length := by omega
    refine (flip_yes hm h.good h.at_ h.bg hfl h.few h1 h2).mono ?_
    rintro e w1 ⟨rfl, ρ', p', e1, hm', hs⟩
    obtain ⟨g1, g2, g3⟩ := flip_spec h.good h.at_ h1 h2
    have hlt : b.best = none → b.since.length < z.length := fun hn => by
      rcases h.bg.few hn with e | e
      · exact e
      · rw [e]; simp; omega
    have hr := g1.rlen
    have hf := g1.few
    refine ⟨rfl, ρ', _, ⟨⟨p', e1, hm'⟩, g1, g3, g2.trans h.cls, next_good h.bg h1 h2 hlt, ?_, fun q hq => ?_, Nat.le_trans h.hB hs.ft.size⟩, hs, fun _ => ⟨next_flips, next_fewest, next_of h.bg h1 h2⟩, fun e => by cases e⟩
    · rw [next_fewest]
      split
      · omega
      · exact h.few
    · rcases Nat.lt_or_ge q w.heap.size with hl | hl
      · rw [hs.part q hl] at hq
        exact h.lo q hq
      · exact Nat.le_trans h.hB hl
  · have hi : isVar z.length v = false := decide_eq_false hc
    have ht : turnV z v = z := by unfold turnV; rw [if_neg hc]
    have ht2 : flipV s z v = s := by unfold flipV; rw [if_neg hc]
    rw [hi, ht, ht2]
    refine (flip_no hm h.good.vars hv hc).mono ?_
    rintro e w1 ⟨rfl, rfl⟩
    exact ⟨rfl, ρ, b, h, LStep.refl, (fun e => by cases e), fun _ => rfl⟩

theorem st_unsat (h : St14 w B ρ g z yss s b) : Calls Try.prog 16 #[.pointer (some ⟨g, 0, none⟩)] w fun e w' => e = .returned (.int .i64 (s.row.length : Nat)) ∧ w = w' := by
  obtain ⟨p, rfl, hm⟩ := h.ex
  exact unsat_any hm
theorem st_assign (h : St14 w B ρ g z yss s b) : Calls Try.prog 27 #[.pointer (some ⟨g, 0, none⟩)] w fun e w' => ∃ A c, e = .returned (.slice A z.length c) ∧ w'.ownsRow w.heap.size 4 1 (.slice A z.length c) z.length (z.map .bool) ∧ Below w.heap.size w w' := by
  obtain ⟨p, rfl, hm⟩ := h.ex
  exact assignment_any hm h.good.vars
theorem st_best (h : St14 w B ρ g z yss s b) : Calls Try.prog 44 #[.pointer (some ⟨g, 0, none⟩)] w fun e w' => ∃ A c, e = .returned (.tuple #[.slice A z.length c, .int .i64 (b.fewest : Nat)]) ∧ w'.ownsRow w.heap.size 4 1 (.slice A z.length c) z.length ((b.of z).map .bool) ∧ Below w.heap.size w w' := by
  obtain ⟨p, rfl, hm⟩ := h.ex
  exact best_any hm h.good.vars h.bg
theorem st_break (h : St14 w B ρ g z yss s b) (v : Int) (hv : -9223372036854775808 ≤ v ∧ v ≤ 9223372036854775807) : Calls Try.prog 20 #[.pointer (some ⟨g, 0, none⟩), .int .i64 v] w fun e w' => e = .returned (.int .i64 (breakV s z.length v : Nat)) ∧ w = w' := by
  obtain ⟨p, rfl, hm⟩ := h.ex
  have := break_any hm h.good.vars v hv
  change Calls _ _ _ _ (fun e w' => e = .returned (.int .i64 (if (1 : Int) ≤ v ∧ v ≤ (z.length : Nat) then (brk s.hss v.toNat : Nat) else 0)) ∧ w = w') at this
  unfold breakV
  split
  · rename_i hc
    rw [if_pos hc] at this
    exact this
  · rename_i hc
    rw [if_neg hc] at this
    exact this
theorem st_value (h : St14 w B ρ g z yss s b) (v : Int) (hv : -9223372036854775808 ≤ v ∧ v ≤ 9223372036854775807) : Calls Try.prog 53 #[.pointer (some ⟨g, 0, none⟩), .int .i64 v] w fun e w' => e = .returned (.bool (valZ z v)) ∧ w = w' := by
  obtain ⟨p, rfl, hm⟩ := h.ex
  exact value_loc hm h.good.vars v hv
theorem st_row (h : St14 w B ρ g z yss s b) (i : Int) : Calls Try.prog 18 #[.pointer (some ⟨g, 0, none⟩), .int .i64 i] w fun e w' => e = .returned (.int .i64 (rowAt s.row i)) ∧ w = w' := by
  obtain ⟨p, rfl, hm⟩ := h.ex
  have h1 := h.good.rlen
  have h2 := h.good.few
  exact row_any hm (show s.row.length ≤ 1000 by omega) i
theorem st_clause (h : St14 w B ρ g z yss s b) (i : Int) :
    Calls Try.prog 17 #[.pointer (some ⟨g, 0, none⟩), .int .i64 i] w fun e w' => ∃ A c, e = .returned (.slice A (if 0 ≤ i ∧ i < yss.length then (yss.getD i.toNat []).length else 0) c) ∧
      w'.ownsRow w.heap.size 3 1 (.slice A (if 0 ≤ i ∧ i < yss.length then (yss.getD i.toNat []).length else 0) c) (if 0 ≤ i ∧ i < yss.length then (yss.getD i.toNat []).length else 0) ((if 0 ≤ i ∧ i < yss.length then yss.getD i.toNat [] else []).map (Value.int .i64)) ∧ Below w.heap.size w w' := by
  obtain ⟨p, rfl, hm⟩ := h.ex
  have hf := h.good.few
  rw [← h.cls]
  exact clause_loc hm (show s.cls.length ≤ 1000 by omega) (fun i => by have := h.good.short i; show (s.cls.getD i []).length ≤ 1000; omega) i
end
theorem lightForm_rawW14 {F W : Nat} (hW : W ≤ 9) {nss : List (List Int)} (h : light nss 40 = true) : LightForm F (rawForm F W nss) := by
  obtain ⟨h1, h2⟩ := light_iff.1 h
  refine ⟨by rw [rawForm_len]; exact h2, fun c hc => ?_, fun c hc l hl => ?_⟩
  · obtain ⟨d, _, rfl⟩ := List.mem_map.1 hc
    exact Nat.le_trans (rawClause_len F W d).2 hW
  · obtain ⟨d, _, rfl⟩ := List.mem_map.1 hc
    have := rawClause_bd hl
    exact this.2
theorem u8_nat14 {u : Int} (h : (Lit.int .u8 u).wf = true) : ∃ v : Nat, u = v ∧ v ≤ 255 := by
  have := bounds_u8 h
  exact ⟨u.toNat, by omega, by omega⟩

end Go.Proofs.Ytllgepabjglnaaa
