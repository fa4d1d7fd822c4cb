/- What a checker says of a proof, as mathematics. No program is named here. A proof that refutes is right; a step that may be added leaves what can be satisfied so. No program is named here. -/
import Derived.Test.YthcpfaahcncfjaaGreatDoorRupMath
import Derived.Test.YthcpfaahcncfjaaGreatDoorNormMath
import Derived.Test.YthcpfaahcncfjaaGreatDoorDratMath
import Derived.Test.YthcpfaahcncfjaaGreatDoorCnfMath
namespace Go.Proofs.YthcpfaahcncfjaaGreatDoor
set_option linter.unusedVariables false

/-- a step's literals, and what a clause has beside the negation of the first -/
def combo (x : Int) (d L : List Int) : List Int := d.filter (fun y => !(y == -x)) ++ L
/-- a step may be added by its first literal -/
def ByP (cs : List (List Int)) (L : List Int) : Prop := ∃ x xs, L = x :: xs ∧ ∀ d, d ∈ cs → -x ∈ d → Clash cs (negs (combo x d L))
def MayP (cs : List (List Int)) (L : List Int) : Prop := Clash cs (negs L) ∨ ByP cs L
theorem mem_negs {L : List Int} {y : Int} : y ∈ negs L ↔ -y ∈ L := by
  unfold negs
  rw [List.mem_map]
  exact ⟨fun ⟨x, h, e⟩ => by subst e; simpa using h, fun h => ⟨-y, h, by omega⟩⟩
theorem mem_combo {x y : Int} {d L : List Int} : y ∈ combo x d L ↔ (y ∈ d ∧ y ≠ -x) ∨ y ∈ L := by simp [combo]
theorem alike_mem {cs ds : List (List Int)} (h : ∀ c, c ∈ cs ↔ c ∈ ds) : Alike cs ds := ⟨fun c hc => ⟨c, (h c).1 hc, fun _ => Iff.rfl⟩, fun d hd => ⟨d, (h d).2 hd, fun _ => Iff.rfl⟩⟩
theorem negs_congr {L M : List Int} (h : ∀ y, y ∈ L ↔ y ∈ M) : ∀ y, y ∈ negs L ↔ y ∈ negs M := fun y => by rw [mem_negs, mem_negs]; exact h _
theorem byP_more {cs ds : List (List Int)} {L : List Int} (h : Alike cs ds) (hb : ByP cs L) : ByP ds L := by
  obtain ⟨x, xs, rfl, hb⟩ := hb
  refine ⟨x, xs, rfl, fun d hd hx => ?_⟩
  obtain ⟨c, hc, hcd⟩ := h.2 d hd
  exact (clash_congr h (negs_congr fun y => by rw [mem_combo, mem_combo, hcd y])).1 (hb c hc ((hcd _).2 hx))
theorem byP_congr {cs ds : List (List Int)} {L : List Int} (h : Alike cs ds) : ByP cs L ↔ ByP ds L := ⟨byP_more h, byP_more h.symm⟩
theorem mayP_congr {cs ds : List (List Int)} {L : List Int} (h : Alike cs ds) : MayP cs L ↔ MayP ds L := by
  unfold MayP
  rw [byP_congr h, clash_congr h (fun _ => Iff.rfl)]

/-- what the checker says: where the proof refutes, and which step may not be -/
inductive Chk : List (List Int) → Int → List Stp → Int → Int → Prop where
  | none_ (cs : List (List Int)) (i : Int) : Chk cs i [] (-1) (-1)
  | del {cs : List (List Int)} {i e b : Int} {L : List Int} {ps : List Stp} : Chk (cs.erase (normOf L)) (i + 1) ps e b → Chk cs i ((true, L) :: ps) e b
  | bad {cs : List (List Int)} {i : Int} {L : List Int} {ps : List Stp} : ¬ MayP cs L → Chk cs i ((false, L) :: ps) (-1) i
  | ref {cs : List (List Int)} {i : Int} {ps : List Stp} : MayP cs [] → Chk cs i ((false, []) :: ps) i (-1)
  | add {cs : List (List Int)} {i e b : Int} {L : List Int} {ps : List Stp} : MayP cs L → L ≠ [] → Chk (cs ++ [normOf L]) (i + 1) ps e b → Chk cs i ((false, L) :: ps) e b
theorem Chk.one {cs : List (List Int)} {i e b e' b' : Int} {ps : List Stp} (h : Chk cs i ps e b) (h' : Chk cs i ps e' b') : e = e' ∧ b = b' := by
  induction h generalizing e' b' with
  | none_ => cases h'; exact ⟨rfl, rfl⟩
  | del _ ih => cases h' with | del h' => exact ih h'
  | bad hb =>
    cases h' with
    | bad _ => exact ⟨rfl, rfl⟩
    | ref h => exact absurd h hb
    | add h _ _ => exact absurd h hb
  | ref hr =>
    cases h' with
    | bad h => exact absurd hr h
    | ref _ => exact ⟨rfl, rfl⟩
    | add _ h _ => exact absurd rfl h
  | add hm hn _ ih =>
    cases h' with
    | bad h => exact absurd hm h
    | ref _ => exact absurd rfl hn
    | add _ _ h' => exact ih h'
theorem Chk.any : ∀ (ps : List Stp) (cs : List (List Int)) (i : Int), ∃ e b, Chk cs i ps e b := by
  intro ps
  induction ps with
  | nil => exact fun cs i => ⟨_, _, .none_ cs i⟩
  | cons p ps ih =>
    intro cs i
    obtain ⟨d, L⟩ := p
    cases d with
    | true => obtain ⟨e, b, h⟩ := ih (cs.erase (normOf L)) (i + 1); exact ⟨e, b, .del h⟩
    | false =>
      by_cases hm : MayP cs L
      · by_cases hl : L = []
        · subst hl; exact ⟨_, _, .ref hm⟩
        · obtain ⟨e, b, h⟩ := ih (cs ++ [normOf L]) (i + 1); exact ⟨e, b, .add hm hl h⟩
      · exact ⟨_, _, .bad hm⟩
/-- the order of the clauses plays no part -/
theorem Chk.perm {cs : List (List Int)} {i e b : Int} {ps : List Stp} (h : Chk cs i ps e b) : ∀ {ds : List (List Int)}, cs.Perm ds → Chk ds i ps e b := by
  induction h with
  | none_ cs i => exact fun _ => .none_ _ _
  | del _ ih => exact fun hp => .del (ih (hp.erase _))
  | bad hb => exact fun hp => .bad fun h => hb ((mayP_congr (alike_mem fun c => hp.mem_iff)).2 h)
  | ref hr => exact fun hp => .ref ((mayP_congr (alike_mem fun c => hp.mem_iff)).1 hr)
  | add hm hn _ ih => exact fun hp => .add ((mayP_congr (alike_mem fun c => hp.mem_iff)).1 hm) hn (ih (hp.append_right _))
/-- where it is: at the end of all, or at a step -/
theorem Chk.bounds {cs : List (List Int)} {i e b : Int} {ps : List Stp} (h : Chk cs i ps e b) : (e = -1 ∨ i ≤ e ∧ e < i + ps.length) ∧ (b = -1 ∨ i ≤ b ∧ b < i + ps.length) ∧ (e = -1 ∨ b = -1) := by
  induction h with
  | none_ => exact ⟨.inl rfl, .inl rfl, .inl rfl⟩
  | del _ ih => simp only [List.length_cons]; omega
  | bad _ => exact ⟨.inl rfl, .inr ⟨Int.le_refl _, by simp only [List.length_cons]; omega⟩, .inl rfl⟩
  | ref _ => exact ⟨.inr ⟨Int.le_refl _, by simp only [List.length_cons]; omega⟩, .inl rfl, .inr rfl⟩
  | add _ _ _ ih => simp only [List.length_cons]; omega
/-- later by one -/
theorem Chk.shift {cs : List (List Int)} {i e b : Int} {ps : List Stp} (h : Chk cs i ps e b) (hi : 0 ≤ i) : Chk cs (i + 1) ps (if e = -1 then -1 else e + 1) (if b = -1 then -1 else b + 1) := by
  induction h with
  | none_ cs i => exact .none_ _ _
  | del _ ih => exact .del (ih (by omega))
  | @bad cs i L ps hb =>
    rw [if_pos rfl, if_neg (by omega)]
    exact .bad hb
  | @ref cs i ps hr =>
    rw [if_neg (by omega), if_pos rfl]
    exact .ref hr
  | add hm hn _ ih => exact .add hm hn (ih (by omega))
/-- a front that ends somewhere says all; one that ends nowhere goes on -/
theorem Chk.front {cs : List (List Int)} {i e b : Int} {ps : List Stp} (h : Chk cs i ps e b) (qs : List Stp) (hi : 0 ≤ i) :
    (e ≠ -1 ∨ b ≠ -1 → Chk cs i (ps ++ qs) e b) ∧ (e = -1 → b = -1 → ∃ ds, ∀ e' b', Chk ds (i + ps.length) qs e' b' → Chk cs i (ps ++ qs) e' b') := by
  induction h with
  | none_ cs i => exact ⟨fun h => by simp at h, fun _ _ => ⟨cs, fun e' b' h => by simpa using h⟩⟩
  | @del cs i e b L ps _ ih =>
    obtain ⟨h1, h2⟩ := ih (by omega)
    refine ⟨fun h => .del (h1 h), fun he hb => ?_⟩
    obtain ⟨ds, h⟩ := h2 he hb
    exact ⟨ds, fun e' b' h' => .del (h e' b' (by simpa [Int.add_assoc, Int.add_comm, Int.add_left_comm] using h'))⟩
  | @bad cs i L ps hb => exact ⟨fun _ => .bad hb, fun _ h => absurd h (by omega)⟩
  | @ref cs i ps hr => exact ⟨fun _ => .ref hr, fun h => absurd h (by omega)⟩
  | @add cs i e b L ps hm hn _ ih =>
    obtain ⟨h1, h2⟩ := ih (by omega)
    refine ⟨fun h => .add hm hn (h1 h), fun he hb => ?_⟩
    obtain ⟨ds, h⟩ := h2 he hb
    exact ⟨ds, fun e' b' h' => .add hm hn (h e' b' (by simpa [Int.add_assoc, Int.add_comm, Int.add_left_comm] using h'))⟩
end Go.Proofs.YthcpfaahcncfjaaGreatDoor

namespace Go.Proofs.YthcpfaahcncfjaaGreatDoor
set_option linter.unusedVariables false

def Rng8 (V : Nat) (l : Int) : Prop := l ≠ 0 ∧ -(V : Int) ≤ l ∧ l ≤ V
def LH (z : List Bool) (l : Int) : Bool := litHolds l z.length (fun j => z.getD j false)
theorem lh_neg {z : List Bool} {l : Int} (h : Rng8 z.length l) : LH z (-l) = !LH z l := by
  obtain ⟨h0, h1, h2⟩ := h
  unfold LH
  rcases Int.lt_or_gt_of_ne h0 with hl | hl
  · obtain ⟨k, rfl⟩ : ∃ k : Nat, l = -((k : Int) + 1) := ⟨(-l - 1).toNat, by omega⟩
    rw [Int.neg_neg, litHolds_pos (by omega), litHolds_neg (by omega), Bool.not_not]
  · obtain ⟨k, rfl⟩ : ∃ k : Nat, l = (k : Int) + 1 := ⟨(l - 1).toNat, by omega⟩
    rw [litHolds_pos (by omega), litHolds_neg (by omega)]
theorem sat_iff {z : List Bool} {c : List Int} : clauseSat z c = true ↔ ∃ y, y ∈ c ∧ LH z y = true := by simp [clauseSat, LH]
theorem sat_congr {z : List Bool} {c d : List Int} (h : ∀ y, y ∈ c ↔ y ∈ d) : clauseSat z c = true ↔ clauseSat z d = true := by
  rw [sat_iff, sat_iff]; exact ⟨fun ⟨y, a, b⟩ => ⟨y, (h y).1 a, b⟩, fun ⟨y, a, b⟩ => ⟨y, (h y).2 a, b⟩⟩
/-- all clauses, satisfied -/
def AllS (z : List Bool) (cs : List (List Int)) : Prop := ∀ c, c ∈ cs → clauseSat z c = true
def Rngs (V : Nat) (cs : List (List Int)) : Prop := ∀ c, c ∈ cs → ∀ y, y ∈ c → Rng8 V y
theorem fol_sound {z : List Bool} {cs : List (List Int)} {L : List Int} {x : Int} (hr : Rngs z.length cs) (hs : AllS z cs) (hL : ∀ y, y ∈ L → LH z y = true) (h : Fol cs L x) : LH z x = true := by
  refine h.least (K := fun y => LH z y = true) hL fun c hc x hx hall => ?_
  obtain ⟨y, hy, hyz⟩ := sat_iff.1 (hs c hc)
  by_cases e : y = x
  · subst e; exact hyz
  · have : LH z (-y) = true := hall y hy e
    rw [lh_neg (hr c hc y hy), hyz] at this
    cases this
theorem clash_sound {z : List Bool} {cs : List (List Int)} {L : List Int} (hr : Rngs z.length cs) (hl : ∀ y, y ∈ L → Rng8 z.length y) (hs : AllS z cs) (h : Clash cs L) : ∃ y, y ∈ L ∧ LH z y = false := by
  refine Classical.byContradiction fun hno => ?_
  have hL : ∀ y, y ∈ L → LH z y = true := fun y hy => by
    cases e : LH z y with
    | true => rfl
    | false => exact absurd ⟨y, hy, e⟩ hno
  rcases h with ⟨x, h1, h2⟩ | ⟨c, hc, hall⟩
  · have a1 := fol_sound hr hs hL h1
    have a2 := fol_sound hr hs hL h2
    have hx : Rng8 z.length x := by
      rcases h1.lit with h | ⟨c, hc, h⟩
      · exact hl x h
      · exact hr c hc x h
    rw [lh_neg hx, a1] at a2
    cases a2
  · obtain ⟨y, hy, hyz⟩ := sat_iff.1 (hs c hc)
    have := fol_sound hr hs hL (hall y hy)
    rw [lh_neg (hr c hc y hy), hyz] at this
    cases this
theorem rng_neg {V : Nat} {l : Int} (h : Rng8 V l) : Rng8 V (-l) := by obtain ⟨a, b, c⟩ := h; exact ⟨by omega, by omega, by omega⟩
theorem implied_sound {z : List Bool} {cs : List (List Int)} {L : List Int} (hr : Rngs z.length cs) (hl : ∀ y, y ∈ L → Rng8 z.length y) (hs : AllS z cs) (h : Clash cs (negs L)) : clauseSat z L = true := by
  obtain ⟨y, hy, hyz⟩ := clash_sound hr (fun y hy => by have := rng_neg (hl _ (mem_negs.1 hy)); rwa [Int.neg_neg] at this) hs h
  refine sat_iff.2 ⟨-y, mem_negs.1 hy, ?_⟩
  have := lh_neg (hl _ (mem_negs.1 hy))
  rw [Int.neg_neg, hyz] at this
  cases e : LH z (-y) with
  | true => rfl
  | false => rw [e] at this; cases this
/-- the values, but for one literal that is made true -/
def makeTrue (z : List Bool) (x : Int) : List Bool := z.set (litVar x - 1).toNat (decide (0 < x))
theorem make_len (z : List Bool) (x : Int) : (makeTrue z x).length = z.length := by simp [makeTrue]
theorem make_lh {z : List Bool} {x y : Int} (hx : Rng8 z.length x) (hy : Rng8 z.length y) (h : y ≠ -x) : LH (makeTrue z x) y = if y = x then true else LH z y := by
  obtain ⟨x0, x1, x2⟩ := hx
  obtain ⟨y0, y1, y2⟩ := hy
  unfold LH
  rw [make_len]
  unfold litHolds
  have hv : 1 ≤ litVar y ∧ litVar y ≤ z.length := by unfold litVar; split <;> omega
  have hvx : 1 ≤ litVar x ∧ litVar x ≤ z.length := by unfold litVar; split <;> omega
  rw [if_pos hv, if_pos hv]
  by_cases e : y = x
  · subst e
    rw [if_pos rfl]
    obtain ⟨k, hk⟩ : ∃ k, (litVar y - 1).toNat = k := ⟨_, rfl⟩
    have hkl : k < z.length := by omega
    unfold makeTrue
    rw [hk]
    simp [List.getD, hkl]
  · rw [if_neg e]
    have hne : (litVar x - 1).toNat ≠ (litVar y - 1).toNat := by
      unfold litVar at hv hvx ⊢
      split <;> split <;> omega
    obtain ⟨k, hk⟩ : ∃ k, (litVar y - 1).toNat = k := ⟨_, rfl⟩
    obtain ⟨m, hm⟩ : ∃ m, (litVar x - 1).toNat = m := ⟨_, rfl⟩
    unfold makeTrue
    rw [hk, hm]
    rw [hk, hm] at hne
    simp [List.getD, List.getElem?_set_ne hne]
/-- a step that may be added leaves what can be satisfied so -/
theorem may_sound {z : List Bool} {cs : List (List Int)} {L : List Int} (hr : Rngs z.length cs) (hl : ∀ y, y ∈ L → Rng8 z.length y) (hs : AllS z cs) (h : MayP cs L) : ∃ z', z'.length = z.length ∧ AllS z' cs ∧ clauseSat z' L = true := by
  rcases h with h | ⟨x, xs, rfl, h⟩
  · exact ⟨z, rfl, hs, implied_sound hr hl hs h⟩
  cases hL : clauseSat z (x :: xs) with
  | true => exact ⟨z, rfl, hs, hL⟩
  | false =>
    have hno : ∀ y, y ∈ x :: xs → LH z y = false := fun y hy => by
      cases e : LH z y with
      | false => rfl
      | true => rw [sat_iff.2 ⟨y, hy, e⟩] at hL; cases hL
    have hx : Rng8 z.length x := hl x (by simp)
    refine ⟨makeTrue z x, make_len z x, fun d hd => ?_, sat_iff.2 ⟨x, by simp, ?_⟩⟩
    · by_cases hxd : -x ∈ d
      · have h1 := implied_sound hr (L := combo x d (x :: xs)) (fun y hy => by
          rcases mem_combo.1 hy with ⟨a, _⟩ | a
          · exact hr d hd y a
          · exact hl y a) hs (h d hd hxd)
        obtain ⟨y, hy, hyz⟩ := sat_iff.1 h1
        rcases mem_combo.1 hy with ⟨a, hne⟩ | a
        · refine sat_iff.2 ⟨y, a, ?_⟩
          rw [make_lh hx (hr d hd y a) hne]
          split
          · rfl
          · exact hyz
        · rw [hno y a] at hyz; cases hyz
      · obtain ⟨y, hy, hyz⟩ := sat_iff.1 (hs d hd)
        refine sat_iff.2 ⟨y, hy, ?_⟩
        rw [make_lh hx (hr d hd y hy) (fun e => hxd (e ▸ hy))]
        split
        · rfl
        · exact hyz
    · rw [make_lh hx hx (by obtain ⟨a, _⟩ := hx; omega), if_pos rfl]
/-- a proof that refutes -/
theorem chk_sound {cs : List (List Int)} {i e b : Int} {ps : List Stp} (h : Chk cs i ps e b) {V : Nat} (hi : 0 ≤ i) (hr : Rngs V cs) (hp : ∀ p, p ∈ ps → ∀ y, y ∈ p.2 → Rng8 V y) (he : e ≠ -1) : ∀ z : List Bool, z.length = V → ¬ AllS z cs := by
  induction h with
  | none_ => exact absurd rfl he
  | @del cs i e b L ps _ ih =>
    exact fun z hz hs => ih (by omega) (fun c hc => hr c (List.mem_of_mem_erase hc)) (fun p h => hp p (by simp [h])) he z hz fun c hc => hs c (List.mem_of_mem_erase hc)
  | bad => exact absurd rfl he
  | ref hm =>
    rintro z rfl hs
    obtain ⟨z', _, _, h⟩ := may_sound hr (L := []) (fun y hy => by simp at hy) hs hm
    rw [clauseSat_nil] at h
    cases h
  | @add cs i e b L ps hm hn _ ih =>
    rintro z rfl hs
    have hlr : ∀ y, y ∈ L → Rng8 z.length y := fun y hy => hp (false, L) (by simp) y hy
    obtain ⟨z', hz, h1, h2⟩ := may_sound hr hlr hs hm
    refine ih (by omega) (fun c hc => ?_) (fun p h => hp p (by simp [h])) he z' hz fun c hc => ?_
    · rcases List.mem_append.1 hc with hc | hc
      · exact hr c hc
      · simp at hc; subst hc; exact fun y hy => hlr y (mem_normOf.1 hy)
    · rcases List.mem_append.1 hc with hc | hc
      · exact h1 c hc
      · simp at hc; subst hc; exact (sat_congr fun y => mem_normOf).2 h2
end Go.Proofs.YthcpfaahcncfjaaGreatDoor
