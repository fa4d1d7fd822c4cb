/- Proofs as bytes: plain mathematics. No program is named here. -/
import Derived.Test.YthcpfaahcncfjaaGreatDoorLitMath
namespace Go.Proofs.YthcpfaahcncfjaaGreatDoor
set_option linter.unusedSimpArgs false
set_option linter.unusedVariables false
set_option linter.unnecessarySimpa false

abbrev Stp := Bool × List Int

/-- may it be in a proof -/
def isLit (l : Int) : Bool := litRight l 100000
theorem isLit_iff {l : Int} : isLit l = true ↔ (l ≠ 0 ∧ -100000 ≤ l ∧ l ≤ 100000) := by
  unfold isLit; rw [litRight_iff]; constructor <;> intro h <;> omega
/-- is it a proof -/
def stpRight (s : Stp) : Bool := s.2.all isLit
def stpsRight (ps : List Stp) : Bool := ps.all stpRight
theorem stpRight_mem {s : Stp} (h : stpRight s = true) : ∀ l ∈ s.2, isLit l = true := List.all_eq_true.1 h
theorem stpsRight_mem {ps : List Stp} (h : stpsRight ps = true) : ∀ s ∈ ps, stpRight s = true := List.all_eq_true.1 h
theorem stpsRight_append (ps qs : List Stp) : stpsRight (ps ++ qs) = (stpsRight ps && stpsRight qs) := List.all_append
theorem stpsRight_cons (s : Stp) (qs : List Stp) : stpsRight (s :: qs) = (stpRight s && stpsRight qs) := List.all_cons

/-- the number of a literal -/
def litNum (l : Int) : Int := 2 * litVar l + (if l < 0 then 1 else 0)
/-- the literal of a number -/
def numLit (n : Int) : Int := if n % 2 = 1 then -(n / 2) else n / 2
theorem litNum_pos {l : Int} (h : isLit l = true) : 2 ≤ litNum l ∧ litNum l ≤ 200001 := by
  rw [isLit_iff] at h; unfold litNum litVar; split <;> omega
theorem numLit_num {l : Int} : numLit (litNum l) = l := by
  unfold numLit litNum litVar; split <;> split <;> omega
theorem litNum_lit {n : Int} (h : 0 ≤ n) (h1 : numLit n ≠ 0) : litNum (numLit n) = n := by
  unfold numLit at h1 ⊢; unfold litNum litVar; split at h1 <;> split <;> split <;> omega
theorem litNum_inj {l m : Int} (h : litNum l = litNum m) : l = m := by rw [← numLit_num (l := l), h, numLit_num]

/-- the bytes of a number -/
def nb (n : Nat) : List UInt8 := if h : n < 128 then [UInt8.ofNat n] else UInt8.ofNat (n % 128 + 128) :: nb (n / 128)
termination_by n
decreasing_by omega
theorem nb_low {n : Nat} (h : n < 128) : nb n = [UInt8.ofNat n] := by rw [nb, dif_pos h]
theorem nb_high {n : Nat} (h : ¬ n < 128) : nb n = UInt8.ofNat (n % 128 + 128) :: nb (n / 128) := by rw [nb, dif_neg h]
theorem u8_low {n : Nat} (h : n < 256) : (UInt8.ofNat n).toNat = n := by simp; omega
theorem nb_zero : nb 0 = [0] := nb_low (by decide)
/-- no number's bytes are another's front -/
theorem nb_unique : ∀ (n m : Nat) (r q : List UInt8), nb n ++ r = nb m ++ q → n = m ∧ r = q := by
  intro n
  induction n using Nat.strongRecOn with
  | ind n ih =>
    intro m r q h
    by_cases hn : n < 128
    · by_cases hm : m < 128
      · rw [nb_low hn, nb_low hm] at h
        simp only [List.cons_append, List.nil_append, List.cons.injEq] at h
        have := congrArg UInt8.toNat h.1
        rw [u8_low (by omega), u8_low (by omega)] at this
        exact ⟨this, h.2⟩
      · rw [nb_low hn, nb_high hm] at h
        simp only [List.cons_append, List.nil_append, List.cons.injEq] at h
        have := congrArg UInt8.toNat h.1
        rw [u8_low (by omega), u8_low (by omega)] at this
        omega
    · by_cases hm : m < 128
      · rw [nb_high hn, nb_low hm] at h
        simp only [List.cons_append, List.nil_append, List.cons.injEq] at h
        have := congrArg UInt8.toNat h.1
        rw [u8_low (by omega), u8_low (by omega)] at this
        omega
      · rw [nb_high hn, nb_high hm] at h
        simp only [List.cons_append, List.cons.injEq] at h
        have := congrArg UInt8.toNat h.1
        rw [u8_low (by omega), u8_low (by omega)] at this
        obtain ⟨h1, h2⟩ := ih (n / 128) (by omega) (m / 128) r q h.2
        exact ⟨by omega, h2⟩
theorem nb_len {n : Nat} (h : n < 2097152) : (nb n).length ≤ 3 := by
  by_cases h1 : n < 128
  · rw [nb_low h1]; simp
  · rw [nb_high h1]
    by_cases h2 : n / 128 < 128
    · rw [nb_low h2]; simp
    · rw [nb_high h2, nb_low (by omega)]; simp

/-- a literal's bytes, those of several, of a step, of a proof -/
def lb (l : Int) : List UInt8 := nb (litNum l).toNat
def lbs (ls : List Int) : List UInt8 := ls.flatMap lb
def mark (d : Bool) : UInt8 := if d then 100 else 97
def stpBin (s : Stp) : List UInt8 := mark s.1 :: (lbs s.2 ++ [0])
def binOf (ps : List Stp) : List UInt8 := ps.flatMap stpBin
theorem mark_inj {d e : Bool} (h : mark d = mark e) : d = e := by revert h; cases d <;> cases e <;> decide
theorem lbs_cons (l : Int) (ls : List Int) : lbs (l :: ls) = lb l ++ lbs ls := rfl
theorem lbs_append (ls ms : List Int) : lbs (ls ++ ms) = lbs ls ++ lbs ms := List.flatMap_append
theorem lbs_snoc (ls : List Int) (l : Int) : lbs (ls ++ [l]) = lbs ls ++ lb l := by rw [lbs_append]; simp [lbs]
theorem binOf_cons (s : Stp) (ps : List Stp) : binOf (s :: ps) = stpBin s ++ binOf ps := rfl
theorem binOf_append (ps qs : List Stp) : binOf (ps ++ qs) = binOf ps ++ binOf qs := List.flatMap_append
theorem lb_unique {l m : Int} {r q : List UInt8} (h0 : 0 ≤ litNum l) (h1 : 0 ≤ litNum m) (h : lb l ++ r = lb m ++ q) : l = m ∧ r = q := by
  obtain ⟨h2, h3⟩ := nb_unique _ _ _ _ h
  exact ⟨litNum_inj (by omega), h3⟩
theorem lb_end {l : Int} {r q : List UInt8} (h0 : isLit l = true) (h : lb l ++ r = 0 :: q) : False := by
  have h2 := (nb_unique (litNum l).toNat 0 r q (by rw [nb_zero]; exact h)).1
  have := litNum_pos h0
  omega
/-- of two rows of literals, each with its end, that agree as far as one goes, the one is the other's front -/
theorem lbs_split : ∀ (ls ms : List Int) (r q : List UInt8), (∀ l ∈ ls, isLit l = true) → (∀ l ∈ ms, isLit l = true) → lbs ms ++ 0 :: r = lbs ls ++ q →
    ∃ ns, ms = ls ++ ns ∧ lbs ns ++ 0 :: r = q
  | [], ms, r, q, _, _, h => ⟨ms, rfl, h⟩
  | l :: ls, [], r, q, hl, _, h => by
    rw [lbs_cons, List.append_assoc] at h
    exact (lb_end (hl l (by simp)) h.symm).elim
  | l :: ls, m :: ms, r, q, hl, hm, h => by
    rw [lbs_cons, lbs_cons, List.append_assoc, List.append_assoc] at h
    have h1 := litNum_pos (hl l (by simp))
    have h2 := litNum_pos (hm m (by simp))
    obtain ⟨rfl, h3⟩ := lb_unique (by omega) (by omega) h
    obtain ⟨ns, rfl, h4⟩ := lbs_split ls ms r q (fun x hx => hl x (by simp [hx])) (fun x hx => hm x (by simp [hx])) h3
    exact ⟨ns, rfl, h4⟩
theorem stpBin_unique {s t : Stp} {r q : List UInt8} (hs : stpRight s = true) (ht : stpRight t = true) (h : stpBin s ++ r = stpBin t ++ q) : s = t ∧ r = q := by
  unfold stpBin at h
  simp only [List.cons_append, List.append_assoc, List.nil_append, List.cons.injEq] at h
  obtain ⟨ns, h1, h2⟩ := lbs_split t.2 s.2 r (0 :: q) (stpRight_mem ht) (stpRight_mem hs) h.2
  cases ns with
  | nil =>
    rw [List.append_nil] at h1
    simp only [lbs, List.flatMap_nil, List.nil_append, List.cons.injEq, true_and] at h2
    exact ⟨Prod.ext (mark_inj h.1) h1, h2⟩
  | cons n ns =>
    rw [lbs_cons, List.append_assoc] at h2
    exact (lb_end (stpRight_mem hs n (by rw [h1]; simp)) h2).elim
theorem binOf_split : ∀ (ps qs : List Stp) (q : List UInt8), stpsRight ps = true → stpsRight qs = true → binOf qs = binOf ps ++ q → ∃ ns, qs = ps ++ ns ∧ binOf ns = q
  | [], qs, q, _, _, h => ⟨qs, rfl, h⟩
  | p :: ps, [], q, hp, _, h => by
    rw [binOf_cons] at h
    exact absurd h (by simp [binOf, stpBin])
  | p :: ps, s :: qs, q, hp, hq, h => by
    rw [binOf_cons, binOf_cons, List.append_assoc] at h
    rw [stpsRight_cons, Bool.and_eq_true] at hp hq
    obtain ⟨rfl, h3⟩ := stpBin_unique hq.1 hp.1 h
    obtain ⟨ns, rfl, h4⟩ := binOf_split ps qs q hp.2 hq.2 h3
    exact ⟨ns, rfl, h4⟩
theorem binOf_inj {ps qs : List Stp} (hp : stpsRight ps = true) (hq : stpsRight qs = true) (h : binOf ps = binOf qs) : ps = qs := by
  obtain ⟨ns, rfl, h1⟩ := binOf_split qs ps [] hq hp (by rw [h, List.append_nil])
  cases ns with
  | nil => simp
  | cons n ns => exact absurd h1 (by simp [binOf, stpBin])

/-- what bytes are: those of a proof; a front of some proof's, but of none; or no front at all -/
inductive BinIs (b : List UInt8) : Option (List Stp) × Int → Prop
  | ok (ps : List Stp) : stpsRight ps = true → binOf ps = b → BinIs b (some ps, 0)
  | short : (∀ ps, stpsRight ps = true → binOf ps ≠ b) → (∃ ps e, stpsRight ps = true ∧ (e = [0] ∨ e = [1, 0]) ∧ binOf ps = b ++ e) → BinIs b (none, 10)
  | form : (∀ ps e, stpsRight ps = true → binOf ps ≠ b ++ e) → BinIs b (none, 9)

/-- a step at the front of bytes -/
inductive StpIs (b : List UInt8) : Option (Stp × List UInt8) × Int → Prop
  | ok (s : Stp) (r : List UInt8) : stpRight s = true → b = stpBin s ++ r → StpIs b (some (s, r), 0)
  | short : (∀ s r, stpRight s = true → stpBin s ++ r ≠ b) → (∃ s e, stpRight s = true ∧ (e = [0] ∨ e = [1, 0]) ∧ stpBin s = b ++ e) → StpIs b (none, 10)
  | form : (∀ s r e, stpRight s = true → stpBin s ++ r ≠ b ++ e) → StpIs b (none, 9)

/-- a number at the front of bytes -/
inductive NumIs (b : List UInt8) : Option (Nat × List UInt8) × Int → Prop
  | ok (n : Nat) (r : List UInt8) : n < 2097152 → b = nb n ++ r → NumIs b (some (n, r), 0)
  | short : (b.length ≤ 2) → (∀ x ∈ b, 128 ≤ x.toNat) → NumIs b (none, 10)
  | form : (∀ n r e, n ≤ 200001 → nb n ++ r ≠ b ++ e) → NumIs b (none, 9)

theorem bin_step_short {ps : List Stp} {B b : List UInt8} (hp : stpsRight ps = true) (hB : B = binOf ps ++ b) (hb : b ≠ []) (h : StpIs b (none, 10)) : BinIs B (none, 10) := by
  rcases h with _ | ⟨h1, s, e, hs, he, h2⟩
  refine .short (fun qs hq hh => ?_) ⟨ps ++ [s], e, ?_, he, ?_⟩
  · obtain ⟨ns, rfl, h3⟩ := binOf_split ps qs b hp hq (by rw [hh, hB])
    rw [stpsRight_append, Bool.and_eq_true] at hq
    cases ns with
    | nil => exact hb h3.symm
    | cons n ns =>
      have h4 := hq.2
      rw [stpsRight_cons, Bool.and_eq_true] at h4
      exact h1 n (binOf ns) h4.1 h3
  · rw [stpsRight_append, hp, stpsRight_cons, hs]; rfl
  · rw [binOf_append, hB, List.append_assoc, ← h2]; simp [binOf]
theorem bin_step_form {ps : List Stp} {B b : List UInt8} (hp : stpsRight ps = true) (hB : B = binOf ps ++ b) (hb : b ≠ []) (h : StpIs b (none, 9)) : BinIs B (none, 9) := by
  rcases h with _ | _ | h1
  refine .form (fun qs e hq hh => ?_)
  obtain ⟨ns, rfl, h3⟩ := binOf_split ps qs (b ++ e) hp hq (by rw [hh, hB, List.append_assoc])
  rw [stpsRight_append, Bool.and_eq_true] at hq
  cases ns with
  | nil =>
    have : b = [] := by
      have h5 : b ++ e = [] := h3.symm
      exact (List.append_eq_nil_iff.1 h5).1
    exact hb this
  | cons n ns =>
    have h4 := hq.2
    rw [stpsRight_cons, Bool.and_eq_true] at h4
    exact h1 n (binOf ns) e h4.1 h3
theorem bin_step_ok {ps : List Stp} {B b r : List UInt8} {s : Stp} (hp : stpsRight ps = true) (hB : B = binOf ps ++ b) (h : StpIs b (some (s, r), 0)) : stpsRight (ps ++ [s]) = true ∧ B = binOf (ps ++ [s]) ++ r ∧ stpRight s = true ∧ r.length < b.length := by
  rcases h with ⟨_, _, hs, h1⟩
  refine ⟨by rw [stpsRight_append, hp, stpsRight_cons, hs]; rfl, ?_, hs, ?_⟩
  · rw [binOf_append, hB, h1, List.append_assoc]; simp [binOf]
  · rw [h1]; simp [stpBin]; omega
theorem bin_none : BinIs [] (some [], 0) := .ok [] rfl rfl

/-- no mark -/
theorem stp_mark {m : UInt8} {b : List UInt8} (h1 : m ≠ 97) (h2 : m ≠ 100) : StpIs (m :: b) (none, 9) := by
  refine .form fun s r e hs hh => ?_
  unfold stpBin mark at hh
  simp only [List.cons_append, List.cons.injEq] at hh
  revert hh
  cases s.1 <;> simp <;> intro hh <;> first | exact absurd hh.symm h1 | exact absurd hh.symm h2
theorem mark_of {m : UInt8} (h : m = 97 ∨ m = 100) : m = mark (m == 100) := by rcases h with rfl | rfl <;> rfl
/-- in a step: its literals so far, then these bytes -/
theorem stp_end {d : Bool} {ls : List Int} {B b r : List UInt8} (hl : ∀ l ∈ ls, isLit l = true) (hB : B = mark d :: (lbs ls ++ b)) (h : NumIs b (some (0, r), 0)) : StpIs B (some ((d, ls), r), 0) := by
  rcases h with ⟨_, _, _, h1⟩
  refine .ok (d, ls) r (List.all_eq_true.2 hl) ?_
  rw [hB, h1, nb_zero]; simp [stpBin]
theorem stp_more {d : Bool} {ls : List Int} {B b r : List UInt8} {n : Nat} (hl : ∀ l ∈ ls, isLit l = true) (hB : B = mark d :: (lbs ls ++ b)) (h : NumIs b (some (n, r), 0)) (hn : isLit (numLit n) = true) :
    (∀ l ∈ ls ++ [numLit n], isLit l = true) ∧ B = mark d :: (lbs (ls ++ [numLit n]) ++ r) ∧ r.length < b.length := by
  rcases h with ⟨_, _, _, h1⟩
  have h0 := (isLit_iff.1 hn).1
  refine ⟨fun l hm => ?_, ?_, ?_⟩
  · rcases List.mem_append.1 hm with hm | hm
    · exact hl l hm
    · rw [List.mem_singleton.1 hm]; exact hn
  · have : lb (numLit n) = nb n := by unfold lb; rw [litNum_lit (by omega) h0]; simp
    rw [lbs_snoc, this, hB, h1, List.append_assoc]
  · rw [h1]
    have : 0 < (nb n).length := by
      by_cases hh : n < 128
      · rw [nb_low hh]; simp
      · rw [nb_high hh]; simp
    simp; omega
theorem stp_front {d : Bool} {ls : List Int} {b r e : List UInt8} {s : Stp} (hl : ∀ l ∈ ls, isLit l = true) (hs : stpRight s = true) (h : stpBin s ++ r = mark d :: (lbs ls ++ b) ++ e) :
    ∃ ns, s = (d, ls ++ ns) ∧ (∀ l ∈ ns, isLit l = true) ∧ lbs ns ++ 0 :: r = b ++ e := by
  unfold stpBin at h
  simp only [List.cons_append, List.append_assoc, List.nil_append, List.cons.injEq] at h
  obtain ⟨ns, h1, h2⟩ := lbs_split ls s.2 r (b ++ e) hl (stpRight_mem hs) h.2
  exact ⟨ns, Prod.ext (mark_inj h.1) h1, fun l hm => stpRight_mem hs l (by rw [h1]; simp [hm]), h2⟩
theorem stp_none {d : Bool} {ls : List Int} {B b r : List UInt8} {n : Nat} (hl : ∀ l ∈ ls, isLit l = true) (hB : B = mark d :: (lbs ls ++ b)) (h : NumIs b (some (n, r), 0)) (h0 : n ≠ 0) (hn : isLit (numLit n) = false) : StpIs B (none, 9) := by
  rcases h with ⟨_, _, _, h1⟩
  refine .form fun s r' e hs hh => ?_
  rw [hB] at hh
  obtain ⟨ns, rfl, hr, h2⟩ := stp_front hl hs hh
  rw [h1, List.append_assoc] at h2
  cases ns with
  | nil =>
    have h3 := (nb_unique 0 n r' (r ++ e) (by rw [nb_zero]; exact h2)).1
    exact h0 h3.symm
  | cons m ns =>
    rw [lbs_cons, List.append_assoc] at h2
    have h3 := (nb_unique _ _ _ _ h2).1
    have h4 := litNum_pos (hr m (by simp))
    have h5 : numLit n = m := by rw [← h3, show (((litNum m).toNat : Nat) : Int) = litNum m by omega, numLit_num]
    rw [h5, hr m (by simp)] at hn
    cases hn
theorem stp_form {d : Bool} {ls : List Int} {B b : List UInt8} (hl : ∀ l ∈ ls, isLit l = true) (hB : B = mark d :: (lbs ls ++ b)) (h : NumIs b (none, 9)) : StpIs B (none, 9) := by
  rcases h with _ | _ | h1
  refine .form fun s r' e hs hh => ?_
  rw [hB] at hh
  obtain ⟨ns, rfl, hr, h2⟩ := stp_front hl hs hh
  cases ns with
  | nil => exact h1 0 r' e (by decide) (by rw [nb_zero]; exact h2)
  | cons m ns =>
    rw [lbs_cons, List.append_assoc] at h2
    have h4 := litNum_pos (hr m (by simp))
    exact h1 _ _ e (by omega) h2
theorem nb_high_front : ∀ (n : Nat) (b r : List UInt8), (∀ x ∈ b, 128 ≤ x.toNat) → nb n ++ r = b → False := by
  intro n
  induction n using Nat.strongRecOn with
  | ind n ih =>
    intro b r hb h
    by_cases hn : n < 128
    · rw [nb_low hn] at h
      have := hb (UInt8.ofNat n) (by rw [← h]; simp)
      rw [u8_low (by omega)] at this
      omega
    · rw [nb_high hn] at h
      cases b with
      | nil => simp at h
      | cons c b =>
        simp only [List.cons_append, List.cons.injEq] at h
        exact ih (n / 128) (by omega) b r (fun x hx => hb x (by simp [hx])) h.2
theorem stp_short {d : Bool} {ls : List Int} {B b : List UInt8} (hl : ∀ l ∈ ls, isLit l = true) (hB : B = mark d :: (lbs ls ++ b)) (h : NumIs b (none, 10)) : StpIs B (none, 10) := by
  rcases h with _ | ⟨h1, h2⟩
  refine .short (fun s r hs hh => ?_) ?_
  · rw [hB] at hh
    obtain ⟨ns, rfl, hr, h3⟩ := stp_front (e := []) hl hs (by rw [hh, List.append_nil])
    rw [List.append_nil] at h3
    cases ns with
    | nil => exact nb_high_front 0 b r h2 (by rw [nb_zero]; exact h3)
    | cons m ns =>
      rw [lbs_cons, List.append_assoc] at h3
      exact nb_high_front _ b _ h2 h3
  · have lit : ∀ n : Nat, 2 ≤ n → n ≤ 200001 → lb (numLit n) = nb n ∧ isLit (numLit n) = true := fun n a1 a2 => by
      have a3 : isLit (numLit n) = true := by rw [isLit_iff]; unfold numLit; split <;> omega
      refine ⟨?_, a3⟩
      unfold lb
      rw [litNum_lit (by omega) (isLit_iff.1 a3).1]; simp
    match b, h1, h2 with
    | [], _, _ => exact ⟨(d, ls), [0], List.all_eq_true.2 hl, .inl rfl, by rw [hB]; simp [stpBin]⟩
    | [x], _, h2 =>
      have hx := h2 x (by simp)
      have hx2 := x.toNat_lt
      obtain ⟨a1, a2⟩ := lit (x.toNat % 128 + 128) (by omega) (by omega)
      refine ⟨(d, ls ++ [numLit ((x.toNat % 128 + 128 : Nat) : Int)]), [1, 0], ?_, .inr rfl, ?_⟩
      · refine List.all_eq_true.2 fun l hm => ?_
        rcases List.mem_append.1 hm with hm | hm
        · exact hl l hm
        · rw [List.mem_singleton.1 hm]; exact a2
      · have e1 : nb (x.toNat % 128 + 128) = [x, 1] := by
          rw [nb_high (by omega), nb_low (by omega), show (x.toNat % 128 + 128) % 128 + 128 = x.toNat by omega, show (x.toNat % 128 + 128) / 128 = 1 by omega]
          simp
        rw [hB]; simp only [stpBin, lbs_snoc, a1, e1]; simp
    | [x, y], _, h2 =>
      have hx := h2 x (by simp)
      have hx2 := x.toNat_lt
      have hy := h2 y (by simp)
      have hy2 := y.toNat_lt
      obtain ⟨a1, a2⟩ := lit (x.toNat % 128 + 128 * (y.toNat % 128) + 16384) (by omega) (by omega)
      refine ⟨(d, ls ++ [numLit ((x.toNat % 128 + 128 * (y.toNat % 128) + 16384 : Nat) : Int)]), [1, 0], ?_, .inr rfl, ?_⟩
      · refine List.all_eq_true.2 fun l hm => ?_
        rcases List.mem_append.1 hm with hm | hm
        · exact hl l hm
        · rw [List.mem_singleton.1 hm]; exact a2
      · have e1 : nb (x.toNat % 128 + 128 * (y.toNat % 128) + 16384) = [x, y, 1] := by
          rw [nb_high (by omega), nb_high (by omega), nb_low (by omega), show (x.toNat % 128 + 128 * (y.toNat % 128) + 16384) % 128 + 128 = x.toNat by omega,
            show (x.toNat % 128 + 128 * (y.toNat % 128) + 16384) / 128 % 128 + 128 = y.toNat by omega, show (x.toNat % 128 + 128 * (y.toNat % 128) + 16384) / 128 / 128 = 1 by omega]
          simp
        rw [hB]; simp only [stpBin, lbs_snoc, a1, e1]; simp

/-- the number so far: groups read -/
def grp (b : List UInt8) : Nat := match b with
  | [] => 0
  | c :: r => c.toNat % 128 + 128 * grp r
theorem grp_snoc (b : List UInt8) (c : UInt8) : grp (b ++ [c]) = grp b + 128 ^ b.length * (c.toNat % 128) := by
  induction b with
  | nil => simp [grp]
  | cons x b ih =>
    show x.toNat % 128 + 128 * grp (b ++ [c]) = x.toNat % 128 + 128 * grp b + 128 ^ (b.length + 1) * (c.toNat % 128)
    rw [ih, Nat.mul_add, Nat.pow_succ, Nat.mul_comm (128 ^ b.length) 128, Nat.mul_assoc]
    omega
theorem grp_lt (b : List UInt8) : grp b < 128 ^ b.length := by
  induction b with
  | nil => simp [grp]
  | cons x b ih =>
    show x.toNat % 128 + 128 * grp b < 128 ^ (b.length + 1)
    rw [Nat.pow_succ]
    omega
/-- groups that go on, then one that doesn't -/
theorem nb_grp : ∀ (b : List UInt8) (c : UInt8), (∀ x ∈ b, 128 ≤ x.toNat) → c.toNat < 128 → (c ≠ 0 ∨ b = []) → nb (grp (b ++ [c])) = b ++ [c]
  | [], c, _, hc, _ => by
    show nb (c.toNat % 128 + 128 * 0) = [c]
    rw [nb_low (by omega), show c.toNat % 128 + 128 * 0 = c.toNat by omega]
    simp
  | x :: b, c, hb, hc, h0 => by
    have hx := hb x (by simp)
    have hx2 := x.toNat_lt
    have hc0 : c ≠ 0 := by
      rcases h0 with h0 | h0
      · exact h0
      · cases h0
    have hcn : c.toNat ≠ 0 := fun h => hc0 (by rw [← UInt8.toNat_inj, h]; rfl)
    have hpos : 1 ≤ grp (b ++ [c]) := by
      rw [grp_snoc]
      have : 1 ≤ 128 ^ b.length := Nat.one_le_pow _ _ (by decide)
      have h3 : 1 * 1 ≤ 128 ^ b.length * (c.toNat % 128) := Nat.mul_le_mul this (by omega)
      omega
    show nb (x.toNat % 128 + 128 * grp (b ++ [c])) = x :: (b ++ [c])
    rw [nb_high (by omega), show (x.toNat % 128 + 128 * grp (b ++ [c])) / 128 = grp (b ++ [c]) by omega, nb_grp b c (fun y hy => hb y (by simp [hy])) hc (.inl hc0),
      show (x.toNat % 128 + 128 * grp (b ++ [c])) % 128 + 128 = x.toNat by omega]
    simp
theorem nb_pad : ∀ (b : List UInt8) (n : Nat) (r q : List UInt8), (∀ x ∈ b, 128 ≤ x.toNat) → b ≠ [] → nb n ++ r = b ++ 0 :: q → False
  | [], _, _, _, _, h, _ => h rfl
  | x :: b, n, r, q, hb, _, h => by
    have hx := hb x (by simp)
    by_cases hn : n < 128
    · rw [nb_low hn] at h
      simp only [List.cons_append, List.cons.injEq] at h
      have := congrArg UInt8.toNat h.1
      rw [u8_low (by omega)] at this
      omega
    · rw [nb_high hn] at h
      simp only [List.cons_append, List.cons.injEq] at h
      rcases Decidable.em (b = []) with rfl | hne
      · have := (nb_unique (n / 128) 0 r q (by rw [nb_zero]; exact h.2)).1
        omega
      · exact nb_pad b (n / 128) r q (fun y hy => hb y (by simp [hy])) hne h.2
/-- three groups that all go on: too great -/
theorem nb_three {b : List UInt8} {n : Nat} {r q : List UInt8} (hb : ∀ x ∈ b, 128 ≤ x.toNat) (hl : b.length = 3) (hn : n ≤ 200001) (h : nb n ++ r = b ++ q) : False := by
  match b, hl with
  | [x, y, z], _ =>
    have h3 := congrArg (fun l => l.take 3) h
    have hz := hb z (by simp)
    have hy := hb y (by simp)
    have hx := hb x (by simp)
    by_cases h1 : n < 128
    · rw [nb_low h1] at h
      simp only [List.cons_append, List.cons.injEq] at h
      have := congrArg UInt8.toNat h.1
      rw [u8_low (by omega)] at this
      omega
    · rw [nb_high h1] at h
      by_cases h2 : n / 128 < 128
      · rw [nb_low h2] at h
        simp only [List.cons_append, List.cons.injEq] at h
        have := congrArg UInt8.toNat h.2.1
        rw [u8_low (by omega)] at this
        omega
      · rw [nb_high h2, nb_low (by omega)] at h
        simp only [List.cons_append, List.cons.injEq] at h
        have := congrArg UInt8.toNat h.2.2.1
        rw [u8_low (by omega)] at this
        omega
end Go.Proofs.YthcpfaahcncfjaaGreatDoor
