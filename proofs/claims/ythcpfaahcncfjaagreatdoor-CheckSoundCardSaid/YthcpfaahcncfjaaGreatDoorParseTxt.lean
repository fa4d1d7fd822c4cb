/- Proofs as text: plain mathematics. No program is named here. A builder of strings that a call makes for itself: what its writing methods do. What a statement's world must hold, and what numbers' texts come to there. A proof out of text. A step out of a line, and a proof out of text. A proof out of text, whole. The text of a proof. -/
import Derived.Test.YthcpfaahcncfjaaGreatDoorDratMath
import Derived.Lib.ItoaMem
import Derived.Lib.AtoiTie
import Derived.Lib.AtoiAllCases
import Derived.Lib.IndexMore
import Derived.Lib.IndexLaws
import Derived.Lib.IndexBytes
import Derived.Test.YthcpfaahcncfjaaGreatDoorShelf
import Derived.Test.YthcpfaahcncfjaaGreatDoorOwnRows
import Derived.Shelf.Strings.BuilderX
import Derived.Lib.Builder
import Derived.Lib.AppendStr
import Derived.Lib.UnsafeStr
import Derived.Laws.Externs
import Derived.Lib.AppendIntMem
import Derived.WalkSmall
import Derived.Handy
import Derived.Lib.SmallJoins
import Derived.Test.YthcpfaahcncfjaaGreatDoorDrat15
namespace Go.Proofs.YthcpfaahcncfjaaGreatDoor
set_option linter.unusedSimpArgs false
set_option linter.unusedVariables false
set_option linter.unnecessarySimpa false

/-- the digits of a number -/
theorem dec_digs : ∀ u : Nat, (∀ b ∈ Lib.decDigits u, 48 ≤ b.toNat ∧ b.toNat ≤ 57) ∧ Lib.decDigits u ≠ [] := by
  intro u
  induction u using Nat.strongRecOn with
  | _ u ih =>
    by_cases h : u < 10
    · rw [Lib.decDigits, dif_pos h]
      refine ⟨fun b hb => ?_, by simp⟩
      rw [List.mem_singleton.1 hb, u8_low (by omega)]; omega
    · rw [Lib.decDigits, dif_neg h]
      refine ⟨fun b hb => ?_, by simp⟩
      rcases List.mem_append.1 hb with hb | hb
      · exact (ih (u / 10) (by omega)).1 b hb
      · rw [List.mem_singleton.1 hb, u8_low (by omega)]; omega
theorem decFrom_app : ∀ (l m : List UInt8) (acc n : Nat), Lib.decFrom acc l = some n → Lib.decFrom acc (l ++ m) = Lib.decFrom n m
  | [], m, acc, n, h => by
    obtain rfl := Option.some.inj h
    rfl
  | b :: l, m, acc, n, h => by
    rw [List.cons_append, Lib.decFrom]
    rw [Lib.decFrom] at h
    rcases hd : Lib.digitVal b with _ | d
    · rw [hd] at h; cases h
    · rw [hd] at h
      exact decFrom_app l m _ n h
theorem decFrom_dec : ∀ u : Nat, Lib.decFrom 0 (Lib.decDigits u) = some u := by
  intro u
  induction u using Nat.strongRecOn with
  | _ u ih =>
    by_cases h : u < 10
    · rw [Lib.decDigits, dif_pos h, Lib.decFrom, show Lib.digitVal (UInt8.ofNat (48 + u)) = some u by
        unfold Lib.digitVal
        rw [u8_low (by omega), if_pos (by omega)]
        congr 1; omega]
      show some (0 * 10 + u) = some u
      congr 1; omega
    · rw [Lib.decDigits, dif_neg h, decFrom_app _ _ 0 _ (ih (u / 10) (by omega)), Lib.decFrom, show Lib.digitVal (UInt8.ofNat (48 + u % 10)) = some (u % 10) by
        unfold Lib.digitVal
        rw [u8_low (by omega), if_pos (by omega)]
        congr 1; omega]
      show some (u / 10 * 10 + u % 10) = some u
      congr 1; omega
theorem nDigits_le : ∀ (k v : Nat), v < 10 ^ (k + 1) → Lib.nDigits v ≤ k + 1 := by
  intro k
  induction k with
  | zero => intro v hv; rw [Lib.nDigits, dif_pos (by simpa using hv)]; omega
  | succ k ihk =>
    intro v hv
    rw [Lib.nDigits]
    split
    · omega
    · have := ihk (v / 10) (by rw [Nat.pow_succ] at hv; omega)
      omega
theorem itoa_len6 {l : Int} (h0 : -100000 ≤ l) (h1 : l ≤ 100000) : (Lib.itoa l).length ≤ 7 := by
  unfold Lib.itoa
  split
  · rw [List.length_cons, Lib.decDigits_length]
    have := nDigits_le 5 l.natAbs (by omega)
    omega
  · rw [Lib.decDigits_length]
    have := nDigits_le 5 l.toNat (by omega)
    omega
/-- a numeral's bytes: a minus, digits -/
theorem itoa_bytes (l : Int) : ∀ b ∈ Lib.itoa l, b.toNat = 45 ∨ (48 ≤ b.toNat ∧ b.toNat ≤ 57) := by
  unfold Lib.itoa
  split
  · intro b hb
    rcases List.mem_cons.1 hb with rfl | hb
    · left; rfl
    · exact Or.inr ((dec_digs _).1 b hb)
  · exact fun b hb => Or.inr ((dec_digs _).1 b hb)
theorem itoa_ne (l : Int) : Lib.itoa l ≠ [] := by
  unfold Lib.itoa
  split
  · simp
  · exact (dec_digs _).2
theorem itoa_no {c : UInt8} (hc : c = 32 ∨ c = 10) (l : Int) : c ∉ Lib.itoa l := fun h => by
  have := itoa_bytes l c h
  rcases hc with rfl | rfl <;> revert this <;> decide
/-- a numeral reads back -/
theorem atoi_itoa {l : Int} (h0 : -100000 ≤ l) (h1 : l ≤ 100000) : Lib.atoiAll (Lib.itoa l) = .ok l := by
  have hl := itoa_len6 h0 h1
  rw [Lib.atoiAll_short _ (by omega)]
  have key : Lib.atoi (Lib.itoa l) = some l := by
    unfold Lib.itoa
    split
    · rename_i hn
      show (if (45 : UInt8) == 45 then (Lib.decNat (Lib.decDigits l.natAbs)).map (fun (m : Nat) => -(m : Int)) else if (45 : UInt8) == 43 then (Lib.decNat (Lib.decDigits l.natAbs)).map (fun (m : Nat) => (m : Int)) else (Lib.decNat (45 :: Lib.decDigits l.natAbs)).map (fun (m : Nat) => (m : Int))) = _
      rw [if_pos (show ((45 : UInt8) == 45) = true by decide)]
      unfold Lib.decNat
      rw [show (Lib.decDigits l.natAbs).isEmpty = false by
        rcases hd : Lib.decDigits l.natAbs with _ | ⟨x, r⟩
        · exact absurd hd (dec_digs _).2
        · rfl]
      simp only [Bool.false_eq_true, if_false]
      rw [decFrom_dec]
      show some (-((l.natAbs : Nat) : Int)) = some l
      congr 1; omega
    · rename_i hn
      have hd := dec_digs l.toNat
      have hf := decFrom_dec l.toNat
      rcases hx : Lib.decDigits l.toNat with _ | ⟨x, r⟩
      · exact absurd hx hd.2
      · rw [hx] at hd hf
        have hb := hd.1 x (by simp)
        have e45 : (x == 45) = false := by
          apply beq_false_of_ne
          intro e; subst e; revert hb; decide
        have e43 : (x == 43) = false := by
          apply beq_false_of_ne
          intro e; subst e; revert hb; decide
        show (if x == 45 then (Lib.decNat r).map fun (m : Nat) => -(m : Int) else if x == 43 then (Lib.decNat r).map fun (m : Nat) => (m : Int) else (Lib.decNat (x :: r)).map fun (m : Nat) => (m : Int)) = _
        rw [e45, e43]
        simp only [Bool.false_eq_true, if_false]
        unfold Lib.decNat
        rw [show (x :: r).isEmpty = false from rfl]
        simp only [Bool.false_eq_true, if_false]
        rw [hf]
        show some ((l.toNat : Nat) : Int) = some l
        congr 1; omega
  rw [key]; rfl
theorem itoa_inj {l m : Int} (hl : isLit l = true) (hm : isLit m = true) (h : Lib.itoa l = Lib.itoa m) : l = m := by
  rw [isLit_iff] at hl hm
  have h1 := atoi_itoa hl.2.1 hl.2.2
  have h2 := atoi_itoa hm.2.1 hm.2.2
  rw [h, h2] at h1
  injection h1 with h1
  exact h1.symm

/-- a word, a row of words, a step's line without its end, a step, a proof -/
def wrd (l : Int) : List UInt8 := Lib.itoa l ++ [32]
def wrds (ls : List Int) : List UInt8 := ls.flatMap wrd
def delTxt (d : Bool) : List UInt8 := if d then [100, 32] else []
def stpLine (s : Stp) : List UInt8 := delTxt s.1 ++ (wrds s.2 ++ [48])
def stpTxt (s : Stp) : List UInt8 := stpLine s ++ [10]
def txtOf (ps : List Stp) : List UInt8 := ps.flatMap stpTxt
theorem wrds_cons (l : Int) (ls : List Int) : wrds (l :: ls) = Lib.itoa l ++ 32 :: wrds ls := by show (Lib.itoa l ++ [32]) ++ wrds ls = _; simp
theorem wrds_append (ls ms : List Int) : wrds (ls ++ ms) = wrds ls ++ wrds ms := List.flatMap_append
theorem wrds_snoc (ls : List Int) (l : Int) : wrds (ls ++ [l]) = wrds ls ++ (Lib.itoa l ++ [32]) := by rw [wrds_append]; simp [wrds, wrd]
theorem txtOf_cons (s : Stp) (ps : List Stp) : txtOf (s :: ps) = stpLine s ++ 10 :: txtOf ps := by show (stpLine s ++ [10]) ++ txtOf ps = _; simp
theorem txtOf_append (ps qs : List Stp) : txtOf (ps ++ qs) = txtOf ps ++ txtOf qs := List.flatMap_append
theorem txtOf_snoc (ps : List Stp) (s : Stp) : txtOf (ps ++ [s]) = txtOf ps ++ (stpLine s ++ [10]) := by rw [txtOf_append]; simp [txtOf, stpTxt]
theorem wrds_no (ls : List Int) : (10 : UInt8) ∉ wrds ls := by
  induction ls with
  | nil => simp [wrds]
  | cons l ls ih =>
    rw [wrds_cons]
    simp only [List.mem_append, List.mem_cons, not_or]
    exact ⟨itoa_no (Or.inr rfl) l, by decide, ih⟩
theorem line_no (s : Stp) : (10 : UInt8) ∉ stpLine s := by
  unfold stpLine
  simp only [List.mem_append, List.mem_singleton, not_or]
  exact ⟨by unfold delTxt; cases s.1 <;> decide, wrds_no _, by decide⟩
/-- what stands ahead of the first mark, and behind it -/
theorem at_first {c : UInt8} : ∀ {a b r q : List UInt8}, c ∉ a → c ∉ b → a ++ c :: r = b ++ c :: q → a = b ∧ r = q
  | [], [], r, q, _, _, h => ⟨rfl, by simpa using h⟩
  | [], y :: b, r, q, _, hb, h => by
    simp only [List.nil_append, List.cons_append, List.cons.injEq] at h
    exact absurd (by rw [h.1]; simp) hb
  | x :: a, [], r, q, ha, _, h => by
    simp only [List.nil_append, List.cons_append, List.cons.injEq] at h
    exact absurd (by rw [← h.1]; simp) ha
  | x :: a, y :: b, r, q, ha, hb, h => by
    simp only [List.cons_append, List.cons.injEq] at h
    obtain ⟨h1, h2⟩ := at_first (fun hh => ha (by simp [hh])) (fun hh => hb (by simp [hh])) h.2
    exact ⟨by rw [h.1, h1], h2⟩
theorem wrds_split : ∀ (ls ms : List Int) (q : List UInt8), (∀ l ∈ ls, isLit l = true) → (∀ l ∈ ms, isLit l = true) → wrds ms = wrds ls ++ q → ∃ ns, ms = ls ++ ns ∧ wrds ns = q
  | [], ms, q, _, _, h => ⟨ms, rfl, h⟩
  | l :: ls, [], q, hl, _, h => by
    rw [wrds_cons] at h
    have := congrArg List.length h
    simp [wrds] at this
  | l :: ls, m :: ms, q, hl, hm, h => by
    rw [wrds_cons, wrds_cons, List.append_assoc, List.cons_append] at h
    obtain ⟨h1, h2⟩ := at_first (itoa_no (Or.inl rfl) m) (itoa_no (Or.inl rfl) l) h
    obtain rfl := itoa_inj (hl l (by simp)) (hm m (by simp)) h1.symm
    obtain ⟨ns, rfl, h4⟩ := wrds_split ls ms q (fun x hx => hl x (by simp [hx])) (fun x hx => hm x (by simp [hx])) h2
    exact ⟨ns, rfl, h4⟩
theorem wrds_inj {ls ms : List Int} (hl : ∀ l ∈ ls, isLit l = true) (hm : ∀ l ∈ ms, isLit l = true) (h : wrds ls = wrds ms) : ls = ms := by
  obtain ⟨ns, rfl, h1⟩ := wrds_split ms ls [] hm hl (by rw [h, List.append_nil])
  cases ns with
  | nil => simp
  | cons n ns => rw [wrds_cons] at h1; simp at h1
/-- a row of words, with its end, begins with no 'd' -/
theorem wrds_head {ls : List Int} {b : UInt8} {r : List UInt8} (h : wrds ls ++ [48] = b :: r) : b ≠ 100 := by
  cases ls with
  | nil =>
    simp only [wrds, List.flatMap_nil, List.nil_append, List.cons.injEq] at h
    rw [← h.1]; decide
  | cons l ls =>
    rw [wrds_cons] at h
    rcases hx : Lib.itoa l with _ | ⟨x, t⟩
    · exact absurd hx (itoa_ne l)
    · rw [hx] at h
      simp only [List.cons_append, List.cons.injEq] at h
      have := itoa_bytes l x (by rw [hx]; simp)
      rw [h.1] at this
      rintro rfl
      revert this; decide
theorem line_inj {s t : Stp} (hs : stpRight s = true) (ht : stpRight t = true) (h : stpLine s = stpLine t) : s = t := by
  obtain ⟨d, ls⟩ := s
  obtain ⟨e, ms⟩ := t
  unfold stpLine at h
  have same : ∀ d : Bool, delTxt d ++ (wrds ls ++ [48]) = delTxt d ++ (wrds ms ++ [48]) → ls = ms := fun d h => by
    have h1 := List.append_cancel_right (List.append_cancel_left h)
    exact wrds_inj (stpRight_mem hs) (stpRight_mem ht) h1
  cases d <;> cases e
  · rw [same false h]
  · exact absurd rfl (wrds_head (show wrds ls ++ [48] = 100 :: (32 :: (wrds ms ++ [48])) from h))
  · exact absurd rfl (wrds_head (show wrds ms ++ [48] = 100 :: (32 :: (wrds ls ++ [48])) from h.symm))
  · rw [same true h]
theorem txtOf_split : ∀ (ps qs : List Stp) (q : List UInt8), stpsRight ps = true → stpsRight qs = true → txtOf qs = txtOf ps ++ q → ∃ ns, qs = ps ++ ns ∧ txtOf ns = q
  | [], qs, q, _, _, h => ⟨qs, rfl, h⟩
  | p :: ps, [], q, hp, _, h => by
    rw [txtOf_cons] at h
    have := congrArg List.length h
    simp [txtOf] at this
  | p :: ps, s :: qs, q, hp, hq, h => by
    rw [txtOf_cons, txtOf_cons, List.append_assoc, List.cons_append] at h
    rw [stpsRight_cons, Bool.and_eq_true] at hp hq
    obtain ⟨h1, h2⟩ := at_first (line_no s) (line_no p) h
    obtain rfl := line_inj hq.1 hp.1 h1
    obtain ⟨ns, rfl, h4⟩ := txtOf_split ps qs q hp.2 hq.2 h2
    exact ⟨ns, rfl, h4⟩
theorem txtOf_inj {ps qs : List Stp} (hp : stpsRight ps = true) (hq : stpsRight qs = true) (h : txtOf ps = txtOf qs) : ps = qs := by
  obtain ⟨ns, rfl, h1⟩ := txtOf_split qs ps [] hq hp (by rw [h, List.append_nil])
  cases ns with
  | nil => simp
  | cons n ns => rw [txtOf_cons] at h1; simp at h1

/-- what cutting at a mark gives -/
theorem cut_one (c : UInt8) (s : List UInt8) : (∃ a b, s = a ++ c :: b ∧ c ∉ a ∧ Lib.cut s [c] = (a, b, true)) ∨ (c ∉ s ∧ Lib.cut s [c] = (s, [], false)) := by
  unfold Lib.cut
  rw [Lib.index_one]
  have hge : -1 ≤ Lib.indexByte s c := by rw [← Lib.index_one]; exact Lib.index_ge s [c]
  rcases Int.lt_or_le (Lib.indexByte s c) 0 with hlt | hge0
  · right
    have hno := Lib.indexByte_none (l := s) (c := c) (by omega)
    refine ⟨fun hm => ?_, by rw [if_neg (by omega)]⟩
    obtain ⟨k, hk⟩ := List.getElem?_of_mem hm
    exact hno k hk
  · left
    obtain ⟨o, ho⟩ : ∃ o : Nat, Lib.indexByte s c = o := ⟨_, (Int.toNat_of_nonneg hge0).symm⟩
    obtain ⟨h1, h2⟩ := Lib.indexByte_some ho
    rw [ho, if_pos (by omega)]
    have hol : o < s.length := (List.getElem?_eq_some_iff.1 h1).1
    refine ⟨s.take o, s.drop (o + 1), ?_, fun hm => ?_, by simp⟩
    · have h3 : s[o] = c := (List.getElem?_eq_some_iff.1 h1).2
      conv => lhs; rw [← List.take_append_drop o s, List.drop_eq_getElem_cons hol, h3]
    · obtain ⟨k, hk⟩ := List.getElem?_of_mem hm
      rw [List.getElem?_take] at hk
      split at hk
      · rename_i hko; exact h2 k hko hk
      · cases hk

/-- a line's step, or none -/
inductive LineIs (line : List UInt8) : Option Stp → Prop
  | ok (s : Stp) : stpRight s = true → stpLine s = line → LineIs line (some s)
  | none : (∀ s, stpRight s = true → stpLine s ≠ line) → LineIs line none
/-- within a line: whether it deletes, whether it is ended, the words between -/
structure Between (line : List UInt8) (d ended : Bool) (mid : List UInt8) : Prop where
  only : ∀ s, stpRight s = true → stpLine s = line → s.1 = d ∧ ended = true ∧ wrds s.2 = mid
  back : ended = true → line = delTxt d ++ (mid ++ [48])
theorem between (line : List UInt8) : Between line (Lib.hasPrefix line [100, 32]) (Lib.hasSuffix (Lib.trimPrefix line [100, 32]) [48]) (Lib.trimSuffix (Lib.trimPrefix line [100, 32]) [48]) := by
  have hp : ∀ r, Lib.hasPrefix (100 :: 32 :: r) [100, 32] = true := fun r => by simp [Lib.hasPrefix, List.isPrefixOf]
  have hs : ∀ m : List UInt8, Lib.hasSuffix (m ++ [48]) [48] = true := fun m => by unfold Lib.hasSuffix; simp
  have ht : ∀ m : List UInt8, Lib.trimSuffix (m ++ [48]) [48] = m := fun m => by unfold Lib.trimSuffix; rw [if_pos (hs m)]; simp
  refine ⟨fun s hr he => ?_, fun hen => ?_⟩
  · obtain ⟨d, ls⟩ := s
    unfold stpLine at he
    cases d with
    | true =>
      have e1 : line = 100 :: 32 :: (wrds ls ++ [48]) := he.symm
      have e2 : Lib.trimPrefix line [100, 32] = wrds ls ++ [48] := by unfold Lib.trimPrefix; rw [e1, if_pos (hp _)]; rfl
      rw [e2, ht, hs, e1, hp]
      exact ⟨rfl, rfl, rfl⟩
    | false =>
      have e1 : line = wrds ls ++ [48] := he.symm
      have e3 : Lib.hasPrefix line [100, 32] = false := by
        rcases hx : line with _ | ⟨b, r⟩
        · rfl
        · rw [hx] at e1
          have := wrds_head e1.symm
          unfold Lib.hasPrefix
          rw [List.isPrefixOf, show ((100 : UInt8) == b) = false from beq_false_of_ne (Ne.symm this)]; rfl
      have e2 : Lib.trimPrefix line [100, 32] = wrds ls ++ [48] := by unfold Lib.trimPrefix; rw [e3]; simpa using e1
      rw [e2, ht, hs, e3]
      exact ⟨rfl, rfl, rfl⟩
  · have e1 : line = delTxt (Lib.hasPrefix line [100, 32]) ++ Lib.trimPrefix line [100, 32] := by
      unfold Lib.trimPrefix
      rcases hh : Lib.hasPrefix line [100, 32] with _ | _
      · rfl
      · rw [if_pos rfl]
        unfold Lib.hasPrefix at hh
        obtain ⟨t, rfl⟩ := List.isPrefixOf_iff_prefix.1 hh
        rfl
    have e2 : Lib.trimPrefix line [100, 32] = Lib.trimSuffix (Lib.trimPrefix line [100, 32]) [48] ++ [48] := by
      generalize Lib.trimPrefix line [100, 32] = m at hen
      unfold Lib.trimSuffix
      rw [if_pos hen]
      unfold Lib.hasSuffix at hen
      obtain ⟨t, rfl⟩ := List.isSuffixOf_iff_suffix.1 hen
      simp
    rw [← e2]; exact e1
/-- the words so far, and what is left, of a line's middle -/
theorem line_fail {line mid r : List UInt8} {d ended : Bool} {ls : List Int} (h : Between line d ended mid) (hl : ∀ l ∈ ls, isLit l = true) (hm : mid = wrds ls ++ r) (hr : r ≠ [])
    (hno : ∀ n q, isLit n = true → r ≠ Lib.itoa n ++ 32 :: q) : LineIs line none := by
  refine .none fun s hs he => ?_
  obtain ⟨_, _, h3⟩ := h.only s hs he
  obtain ⟨ns, h4, h5⟩ := wrds_split ls s.2 r hl (stpRight_mem hs) (by rw [h3, hm])
  cases ns with
  | nil => exact hr h5.symm
  | cons n ns =>
    rw [wrds_cons] at h5
    exact hno n _ (stpRight_mem hs n (by rw [h4]; simp)) h5.symm
theorem line_open {line mid : List UInt8} {d : Bool} (h : Between line d false mid) : LineIs line none :=
  .none fun s hs he => by have := (h.only s hs he).2.1; cases this
theorem line_ok {line mid : List UInt8} {d : Bool} {ls : List Int} (h : Between line d true mid) (hl : ∀ l ∈ ls, isLit l = true) (hm : mid = wrds ls) : LineIs line (some (d, ls)) :=
  .ok (d, ls) (List.all_eq_true.2 hl) (by rw [h.back rfl, hm]; rfl)

/-- what a text is: a proof's, or none -/
inductive TxtIs (s : List UInt8) : Option (List Stp) × Int → Prop
  | ok (ps : List Stp) : stpsRight ps = true → txtOf ps = s → TxtIs s (some ps, 0)
  | form : (∀ ps, stpsRight ps = true → txtOf ps ≠ s) → TxtIs s (none, 9)
/-- the steps so far, and what is left -/
theorem txt_fail {ps : List Stp} {s r : List UInt8} (hp : stpsRight ps = true) (hs : s = txtOf ps ++ r) (hr : r ≠ []) (hno : ∀ x q, stpRight x = true → r ≠ stpLine x ++ 10 :: q) : TxtIs s (none, 9) := by
  refine .form fun qs hq he => ?_
  obtain ⟨ns, rfl, h5⟩ := txtOf_split ps qs r hp hq (by rw [he, hs])
  cases ns with
  | nil => exact hr h5.symm
  | cons n ns =>
    rw [txtOf_cons] at h5
    rw [stpsRight_append, Bool.and_eq_true, stpsRight_cons, Bool.and_eq_true] at hq
    exact hno n _ hq.2.1 h5.symm
theorem txt_more {ps : List Stp} {x : Stp} {s a b : List UInt8} (hp : stpsRight ps = true) (hs : s = txtOf ps ++ (a ++ 10 :: b)) (hx : LineIs a (some x)) : stpsRight (ps ++ [x]) = true ∧ s = txtOf (ps ++ [x]) ++ b ∧ stpRight x = true := by
  rcases hx with ⟨_, hr, he⟩
  refine ⟨by rw [stpsRight_append, hp, stpsRight_cons, hr]; rfl, ?_, hr⟩
  rw [txtOf_snoc, he, hs]; simp
theorem txtOf_nil {ps : List Stp} (h : txtOf ps = []) : ps = [] := by
  cases ps with
  | nil => rfl
  | cons p ps => rw [txtOf_cons] at h; simp at h
end Go.Proofs.YthcpfaahcncfjaaGreatDoor

namespace Go.Proofs.YthcpfaahcncfjaaGreatDoor
open Go.RowKit
set_option linter.unusedSimpArgs false
set_option linter.unusedVariables false
set_option linter.unnecessarySimpa false

/-- a builder in block b that holds these bytes -/
def Bld (B b : Nat) (l : List UInt8) (w : World) : Prop := Lib.IsBuilder 80 5 B b (Lib.byteCells l) w

theorem blk_kept' {w w3 : World} {o : Obj} {v : Value} {base e n g t : Nat} {xs : List Value} {cs : Array Value} (hg : (w.alloc o).grownBy w3 v.ownBlock) (hown : w.ownsRow base e 1 v n xs) (hb : Blk w g t cs) (hne : e ≠ t) : Blk w3 g t cs :=
  (hb.alloc o).grown hg (own_blk_ne hown hb hne)
/-- every block but b, and but those of bytes, stands as it stood -/
def Others (b : Nat) (w w' : World) : Prop := ∀ g t cs, 5 ≠ t → g ≠ b → Blk w g t cs → Blk w' g t cs
theorem Others.trans {b : Nat} {w w' w'' : World} (h : Others b w w') (h' : Others b w' w'') : Others b w w'' := fun g t cs ht hg hb => h' g t cs ht hg (h g t cs ht hg hb)

set_option maxHeartbeats 1000000 in
set_option maxRecDepth 100000 in
theorem copyCheck_any (B b : Nat) (bs : List Value) (w : World) (h : Lib.IsBuilder 80 5 B b bs w) :
    Calls Tryz.prog 63 #[.pointer (some ⟨b, 0, none⟩)] w fun e w' => e = .returned (.tuple #[]) ∧ (Lib.BuilderAt 80 5 B b (.pointer (some ⟨b, 0, none⟩)) bs w' ∧ Below B w w' ∧ Others b w w') := by
  have hsz : (Tryz.prog.info? 80).map (·.size) = some 2 := by kernel_rfl
  obtain ⟨j, hj, hjs⟩ := Option.map_eq_some_iff.1 hsz
  rcases h with h | h
  · have h0 := h.cell0
    have hsh := h.shape
    have hfz := h.frozen0
    have HH := Lib.hid h
    clear h
    go_enter Tryz.func63, Tryz.ntmps63
    go_wp2
    rw [Lib.run_to_unsafe w ⟨b, 0, none⟩ Tryz.underlying78 Tryz.underlying139 hj (by rw [hjs]; decide) hsh (Nat.zero_lt_succ 1)]
    simp only [Result.andThen]
    rw [Oper.upon_value]
    go_wp2
    rw [run_callFunc_extern Tryz.func89 (by kernel_rfl) (by kernel_rfl) (by kernel_rfl) (e := Extern.AbiNoEscape.same) (by kernel_rfl)]
    rw [Lib.run_noEscape]
    simp only [Result.andThen]
    rw [Oper.upon_value]
    go_wp2
    rw [Lib.run_from_unsafe w ⟨b, 0, none⟩ Tryz.underlying139 Tryz.underlying78 hj hsh (by kernel_rfl)]
    simp only [Result.andThen]
    rw [Oper.upon_value]
    go_wp2
    go_end0
    exact ⟨rfl, HH.out.used _, (Below.refl B w).setCell (p := ⟨b, 0, none⟩) HH.out.1 _, fun g t cs _ hg hb => hb.far hg _⟩
  · have h0 := h.cell0
    have HH := Lib.hid h
    clear h
    go_enter Tryz.func63, Tryz.ntmps63
    go_wp2
    rw [Lib.run_neq_ptr_same w _ Tryz.underlying78 hj]
    go_wp2
    go_end0
    exact ⟨rfl, HH.out, Below.refl B _, fun _ _ _ _ _ hb => hb⟩

theorem byteCells_len (l : List UInt8) : (Lib.byteCells l).length = l.length := by unfold Lib.byteCells; simp
theorem byteCells_app (l m : List UInt8) : Lib.byteCells (l ++ m) = Lib.byteCells l ++ Lib.byteCells m := by unfold Lib.byteCells; simp

set_option maxHeartbeats 2000000 in
set_option maxRecDepth 100000 in
theorem writeString_any (B b : Nat) (l : List UInt8) (s : ByteArray) (w : World) (h : Bld B b l w) (hlen : l.length + s.size ≤ 140737488355328) (hBw : B ≤ w.heap.size) :
    Calls Tryz.prog 35 #[.pointer (some ⟨b, 0, none⟩), .string s] w fun e w' => e = .returned (.tuple #[.int .i64 s.size, .nilIface]) ∧ Bld B b (l ++ s.data.toList) w' ∧ Below B w w' ∧ Others b w w' := by
  obtain ⟨i0, hi, hz0, hz1, hz2⟩ := info_parts Tryz.infoByte
  have hbl := byteCells_len l
  have hba := byteCells_app l s.data.toList
  unfold Bld at h ⊢
  rw [hba]
  generalize Lib.byteCells l = bs at h hbl
  have HC := Lib.hid (copyCheck_any B b bs w h)
  have HBL := Lib.hid hbl
  clear h hba
  go_enter Tryz.func35, Tryz.ntmps35
  go_wp2_with (go_at_call 63; refine HC.out.mono ?_)
  rintro e w1 ⟨rfl, h1, hb1, ho1⟩
  have HOT := Lib.hid ho1
  clear ho1
  obtain ⟨hB, v, hbk, hown, hne⟩ := h1
  have c0 : w1.cell? ⟨b, 0, none⟩ = some (.pointer (some ⟨b, 0, none⟩)) := (by rw [Lib.cell_of_heap hbk]; rfl)
  have c1 : w1.cell? ⟨b, 1, none⟩ = some v := (by rw [Lib.cell_of_heap hbk]; rfl)
  have HBK := Lib.hid hbk
  have HOW := Lib.hid hown
  have HNE := Lib.hid hne
  have HB1 := Lib.hid hb1
  clear HC hbk hown hne hb1
  go_wp2_with (at_builtin; refine Lib.wpList_append_own_string _ rfl _ _ 47 9 rfl B 5 i0 Tryz.underlying47 Tryz.underlying9 hi hz0 hz1 hz2 _ _ _ rfl HOW.out s rfl ?c3 ?c4 ?c5 ?_)
  case c3 => have := HBL.out; unfold maxLen; omega
  case c4 => have := HBL.out; omega
  case c5 => have := HB1.out.size; omega
  intro v' w2 hown' hgrow _
  have hlt : b < w1.heap.size := by
    rcases Nat.lt_or_ge b w1.heap.size with h' | h'
    · exact h'
    · have := HBK.out; simp [Array.getElem?_eq_none h'] at this
  have hb2 : w2.heap[b]? = some (.cells #[.pointer (some ⟨b, 0, none⟩), v] 80 (0, 0)) := by
    rw [hgrow.block b hlt (fun e => HNE.out e.symm)]
    exact HBK.out
  clear c0 c1
  have d0 : w2.cell? ⟨b, 0, none⟩ = some (.pointer (some ⟨b, 0, none⟩)) := by rw [Lib.cell_of_heap hb2]; rfl
  have d1 : w2.cell? ⟨b, 1, none⟩ = some v := by rw [Lib.cell_of_heap hb2]; rfl
  have f1 : w2.frozen? ⟨b, 1, none⟩ = false := Lib.frozen_of_heap hb2 1
  obtain ⟨ao, n', cap, rfl⟩ : ∃ ao n' cap, v' = .slice ao n' cap := by
    rcases hown'.2 with ⟨hv, _⟩ | ⟨g, cap, cur, hv, _⟩
    · exact ⟨_, _, _, hv⟩
    · exact ⟨_, _, _, hv⟩
  have HB2 := Lib.hid hb2
  have HOW2 := Lib.hid hown'
  have HG2 := Lib.hid hgrow
  clear hb2 hown' hgrow
  go_wp2
  go_ret2
  refine ⟨rfl, Or.inr ?_, ?_, HOT.out.trans (fun g t cs ht hg hb => (hb.grown HG2.out (own_blk_ne HOW.out hb ht)).far hg _)⟩
  · refine Lib.BuilderAt.put (T := 80) (e := 5) hB HB2.out ?_ (by decide)
    have := HOW2.out
    rw [List.length_append, byteCells_len, HBL.out]
    simpa [Lib.strCells_eq] using this
  · exact (HB1.out.grown HG2.out (by have := HB1.out.size; omega) (fun k hk => (HOW.out.lt k hk).1)).setCell (p := ⟨b, 1, none⟩) hB _

set_option maxHeartbeats 2000000 in
set_option maxRecDepth 100000 in
theorem writeByte_any (B b : Nat) (l : List UInt8) (c : UInt8) (w : World) (h : Bld B b l w) (hlen : l.length + 1 ≤ 140737488355328) (hBw : B ≤ w.heap.size) :
    Calls Tryz.prog 37 #[.pointer (some ⟨b, 0, none⟩), .int .u8 c.toNat] w fun e w' => e = .returned .nilIface ∧ Bld B b (l ++ [c]) w' ∧ Below B w w' ∧ Others b w w' := by
  obtain ⟨i0, hi, hz0, hz1, hz2⟩ := info_parts Tryz.infoByte
  have hbl := byteCells_len l
  have hba := byteCells_app l [c]
  unfold Bld at h ⊢
  rw [hba]
  generalize Lib.byteCells l = bs at h hbl
  have HC := Lib.hid (copyCheck_any B b bs w h)
  have HBL := Lib.hid hbl
  have hcb : Lib.byteCells [c] = [.int .u8 c.toNat] := rfl
  rw [hcb]
  generalize (c.toNat : Int) = ci
  clear h hba hcb
  go_enter Tryz.func37, Tryz.ntmps37
  go_wp2_with (go_at_call 63; refine HC.out.mono ?_)
  rintro e w1 ⟨rfl, h1, hb1, ho1⟩
  have HOT := Lib.hid ho1
  clear ho1
  obtain ⟨hB, v, hbk, hown, hne⟩ := h1
  have c0 : w1.cell? ⟨b, 0, none⟩ = some (.pointer (some ⟨b, 0, none⟩)) := (by rw [Lib.cell_of_heap hbk]; rfl)
  have c1 : w1.cell? ⟨b, 1, none⟩ = some v := (by rw [Lib.cell_of_heap hbk]; rfl)
  have HBK := Lib.hid hbk
  have HOW := Lib.hid hown
  have HNE := Lib.hid hne
  have HB1 := Lib.hid hb1
  clear HC hbk hown hne hb1
  go_wp2_with (at_builtin; refine wpList_append1 _ rfl _ _ 47 rfl B 5 i0 (.int .u8 0) 1 Tryz.underlying47 hi hz0 hz1 hz2 rfl _ _ _ rfl (HOW.out.alloc _) (.int .u8 ci) w1.heap.size rfl (by go_cell) rfl ?c3 ?c4 ?c5 ?_)
  case c3 => have := HBL.out; unfold maxLen; omega
  case c4 => have := HBL.out; omega
  case c5 => have := HB1.out.size; simp; omega
  intro v' w2 hown' hgrow _
  have hlt : b < w1.heap.size := by
    rcases Nat.lt_or_ge b w1.heap.size with h' | h'
    · exact h'
    · have := HBK.out; simp [Array.getElem?_eq_none h'] at this
  have hb2 : w2.heap[b]? = some (.cells #[.pointer (some ⟨b, 0, none⟩), v] 80 (0, 0)) := by
    rw [hgrow.block b (by simp; omega) (fun e => HNE.out e.symm), Lib.alloc_old w1 _ b hlt]
    exact HBK.out
  clear c0 c1
  have d0 : w2.cell? ⟨b, 0, none⟩ = some (.pointer (some ⟨b, 0, none⟩)) := by rw [Lib.cell_of_heap hb2]; rfl
  have d1 : w2.cell? ⟨b, 1, none⟩ = some v := by rw [Lib.cell_of_heap hb2]; rfl
  have f1 : w2.frozen? ⟨b, 1, none⟩ = false := Lib.frozen_of_heap hb2 1
  obtain ⟨ao, n', cap, rfl⟩ : ∃ ao n' cap, v' = .slice ao n' cap := by
    rcases hown'.2 with ⟨hv, _⟩ | ⟨g, cap, cur, hv, _⟩
    · exact ⟨_, _, _, hv⟩
    · exact ⟨_, _, _, hv⟩
  have HB2 := Lib.hid hb2
  have HOW2 := Lib.hid hown'
  have HG2 := Lib.hid hgrow
  clear hb2 hown' hgrow
  go_wp2
  go_ret
  refine ⟨rfl, Or.inr ?_, ?_, HOT.out.trans (fun g t cs ht hg hb => (blk_kept' HG2.out HOW.out hb ht).far hg _)⟩
  · refine Lib.BuilderAt.put (T := 80) (e := 5) hB HB2.out ?_ (by decide)
    have := HOW2.out
    rw [List.length_append, HBL.out]
    simpa using this
  · exact ((HB1.out.alloc (by have := HB1.out.size; omega) _).grown HG2.out (by have := HB1.out.size; simp; omega) (fun k hk => (HOW.out.lt k hk).1)).setCell (p := ⟨b, 1, none⟩) hB _

theorem bldString_any (B b : Nat) (l : List UInt8) (w : World) (h : Bld B b l w) (hBw : B ≤ w.heap.size) :
    Calls Tryz.prog 38 #[.pointer (some ⟨b, 0, none⟩)] w fun e w' => e = .returned (.string ⟨l.toArray⟩) ∧ Below B w w' :=
  (Tryz.Builder_String_any_k B b l w (Lib.IsBuilderF.of h) hBw).mono fun e w' ⟨he, h⟩ => ⟨he, h.2.1⟩

theorem Bld.lt {B b : Nat} {l : List UInt8} {w : World} (h : Bld B b l w) : b < w.heap.size := h.elim (fun h => h.lt) (fun h => h.lt)
theorem bldAt_below {B b B' : Nat} {p : Value} {bs : List Value} {w w' : World} (h : Lib.BuilderAt 80 5 B b p bs w) (hb : Below B' w w') (hB : w.heap.size ≤ B') : Lib.BuilderAt 80 5 B b p bs w' := by
  have hlt := h.lt
  obtain ⟨h1, v, h2, h3, h4⟩ := h
  exact ⟨h1, v, (hb.block b (by omega)).trans h2, own_below h3 hb (fun g hg => by have := (h3.lt g hg).2; omega), h4⟩
theorem Bld.below {B b B' : Nat} {l : List UInt8} {w w' : World} (h : Bld B b l w) (hb : Below B' w w') (hB : w.heap.size ≤ B') : Bld B b l w' :=
  h.elim (fun h => Or.inl (bldAt_below h hb hB)) (fun h => Or.inr (bldAt_below h hb hB))

/-- the table that numbers' texts are made with -/
def Tab (w : World) : Prop := Lib.TabIs Tryz.prog w "internal/strconv.uint64pow10" .u64 Lib.pow10Tab
theorem tab_name : Tryz.prog.globalNamed "internal/strconv.uint64pow10" = some 1 := by kernel_rfl
theorem Tab.below {w w' : World} {B : Nat} (h : Tab w) (hb : Below B w w') (hB : 1 < B) : Tab w' := var?_below hb tab_name hB h
theorem itoa_any (n : Int) (w : World) (h0 : -9223372036854775808 ≤ n) (h1 : n ≤ 9223372036854775807) (ht : Tab w) :
    Calls Tryz.prog 36 #[.int .i64 n] w fun e w' => e = .returned (.string ⟨(Lib.itoa n).toArray⟩) ∧ Below w.heap.size w w' :=
  (Tryz.strconv_Itoa n h0 h1 w ht).mono fun e w' ⟨he, k, os, hw⟩ => ⟨he, by rw [hw]; exact Lib.below_grow _ w (Nat.le_refl _) k os⟩
end Go.Proofs.YthcpfaahcncfjaaGreatDoor

namespace Go.Proofs.YthcpfaahcncfjaaGreatDoor
open Go.RowKit
set_option linter.unusedSimpArgs false
set_option linter.unusedVariables false
set_option linter.unnecessarySimpa false

/-- what a statement's world must hold: the library's variables that are read -/
structure Env (m : Int) (w : World) : Prop where
  max : w.cell? ⟨0, 0, none⟩ = some (.int .i64 m)
  tab : Tab w
  tabLt : 1 < w.heap.size
theorem Env.maxLt {m : Int} {w : World} (h : Env m w) : 0 < w.heap.size := by
  have := World.block_lt_of_cell? w _ h.max
  simpa using this
theorem Env.below {m : Int} {w w' : World} {B : Nat} (h : Env m w) (hb : Below B w w') (h1 : 0 < B) (h2 : 1 < B) : Env m w' :=
  ⟨(hb.cell (p := ⟨0, 0, none⟩) h1).trans h.max, h.tab.below hb h2, Nat.lt_of_lt_of_le h.tabLt hb.size⟩
theorem Env.same {m : Int} {w w' : World} (h : Env m w) (hb : Below w.heap.size w w') : Env m w' := h.below hb h.maxLt h.tabLt

theorem syn_name : Tryz.prog.globalNamed "strconv.ErrSyntax" = some 2 := by kernel_rfl

theorem rng_name : Tryz.prog.globalNamed "strconv.ErrRange" = some 3 := by kernel_rfl

/-- the library's two errors are there -/
structure NumErrs (w : World) : Prop where
  syn : ∃ t p, w.var? Tryz.prog "strconv.ErrSyntax" = some #[.iface t p]
  rng : ∃ t p, w.var? Tryz.prog "strconv.ErrRange" = some #[.iface t p]
  synLt : 2 < w.heap.size
  rngLt : 3 < w.heap.size
theorem NumErrs.same {w w' : World} (h : NumErrs w) (hb : Below w.heap.size w w') : NumErrs w' := by
  obtain ⟨⟨t, p, h1⟩, ⟨t2, p2, h2⟩, h3, h4⟩ := h
  exact ⟨⟨t, p, var?_below hb syn_name h3 h1⟩, ⟨t2, p2, var?_below hb rng_name h4 h2⟩, Nat.lt_of_lt_of_le h3 hb.size, Nat.lt_of_lt_of_le h4 hb.size⟩

theorem atoi_good (s : List UInt8) (v : Int) (w : World) (hs : s.length ≤ 100000) (h : Lib.atoiAll s = .ok v) :
    Calls Tryz.prog 102 #[.string ⟨s.toArray⟩] w fun e w' => e = .returned (.tuple #[.int .i64 v, .nilIface]) ∧ Below w.heap.size w w' :=
  (Tryz.strconv_Atoi_ok ⟨s.toArray⟩ (by show s.toArray.size ≤ _; simp; omega) v h w).mono fun e w' ⟨he, hw⟩ => ⟨he, by
    rcases hw with rfl | ⟨t, rfl⟩
    · exact Below.refl _ _
    · exact Joins.below_bytesWorld _ _ _ _ (Nat.le_refl _)⟩
theorem atoi_bad (s : List UInt8) (w : World) (hs : s.length ≤ 100000) (hX : NumErrs w) (h : ∀ v, Lib.atoiAll s ≠ .ok v) :
    Calls Tryz.prog 102 #[.string ⟨s.toArray⟩] w fun e w' => ∃ (n : Int) (N : Nat), e = .returned (.tuple #[.int .i64 n, .iface 177 (.pointer (some ⟨N, 0, none⟩))]) ∧ Below w.heap.size w w' := by
  have hz : (⟨s.toArray⟩ : ByteArray).size ≤ 281474976710656 := by show s.toArray.size ≤ _; simp; omega
  rcases ha : Lib.atoiAll s with v | _ | _
  · exact absurd ha (h v)
  · obtain ⟨t, p, hv⟩ := hX.syn
    exact (Tryz.strconv_Atoi_syntax_var ⟨s.toArray⟩ hz ⟨h, fun h' => by have h2 : Lib.atoiAll s = .range := h'; rw [ha] at h2; cases h2⟩ t p w hv).mono fun e w' ⟨N, he, _, _, hb⟩ => ⟨0, N, he, hb⟩
  · obtain ⟨t, p, hv⟩ := hX.rng
    exact (Tryz.strconv_Atoi_range_var ⟨s.toArray⟩ hz ha t p w hv).mono fun e w' ⟨N, he, _, _, hb⟩ => ⟨_, N, he, hb⟩

/-- both -/
structure EnvN (m : Int) (w : World) : Prop where
  env : Env m w
  err : NumErrs w
theorem EnvN.same {m : Int} {w w' : World} (h : EnvN m w) (hb : Below w.heap.size w w') : EnvN m w' := ⟨h.env.same hb, h.err.same hb⟩
theorem EnvN.later {m : Int} {w w' : World} {B : Nat} (h : EnvN m w) (hb : Below B w w') (hB : w.heap.size ≤ B) : EnvN m w' := h.same (hb.mono hB)
end Go.Proofs.YthcpfaahcncfjaaGreatDoor

namespace Go.Proofs.YthcpfaahcncfjaaGreatDoor
open Go.RowKit
set_option linter.unusedSimpArgs false
set_option linter.unusedVariables false
set_option linter.unnecessarySimpa false

/-- what a word states -/
structure WordIs (word : List UInt8) (n : Int) (ok : Bool) : Prop where
  yes : ok = true → isLit n = true ∧ Lib.itoa n = word
  no : ok = false → ∀ l, isLit l = true → Lib.itoa l ≠ word
theorem word_bad {word : List UInt8} {n : Int} (h : ∀ v, Lib.atoiAll word ≠ .ok v) : WordIs word n false := by
  refine ⟨fun h => (by cases h), fun _ l hl he => ?_⟩
  rw [isLit_iff] at hl
  exact h l (by rw [← he]; exact atoi_itoa hl.2.1 hl.2.2)
theorem word_good {word : List UInt8} {v : Int} (h : Lib.atoiAll word = .ok v) : WordIs word v (isLit v && (Lib.itoa v == word)) := by
  refine ⟨fun h1 => ?_, fun h1 l hl he => ?_⟩
  · rw [Bool.and_eq_true] at h1
    exact ⟨h1.1, by simpa using h1.2⟩
  · have hl2 := hl
    rw [isLit_iff] at hl2
    have h2 := atoi_itoa hl2.2.1 hl2.2.2
    rw [he, h] at h2
    injection h2 with h2
    subst h2
    rw [hl, he] at h1
    simp at h1

set_option maxRecDepth 100000 in
set_option maxHeartbeats 4000000 in
theorem parseLiteral_any (s : List UInt8) (m : Int) (w : World) (hs : s.length ≤ 100000) (hE : EnvN m w) :
    Calls Tryz.prog 75 #[.string ⟨s.toArray⟩] w fun e w' => ∃ n ok, e = .returned (.tuple #[.int .i64 n, .bool ok]) ∧ WordIs s n ok ∧ Below w.heap.size w w' := by
  have HE := Lib.hid hE
  by_cases hok : ∃ v, Lib.atoiAll s = .ok v
  · obtain ⟨v, hv⟩ := hok
    have hn := word_good hv
    have hbd := Lib.atoiAll_bounds hv
    have AG := Lib.hid (atoi_good s v w hs hv)
    clear hE hv
    have LA := Lib.hid (fun w' => isLiteral_any v w' hbd.1 hbd.2)
    rcases hl : isLit v with _ | _
    · rw [hl] at hn LA
      have HN := Lib.hid hn
      clear hn hl
      go_enter Tryz.func75, Tryz.ntmps75
      go_wp2_with fail
      refine AG.out.mono ?_
      rintro e w2 ⟨rfl, hb2⟩
      have HB2 := Lib.hid hb2
      clear hb2
      go_wp2_with fail
      refine (LA.out w2).mono ?_
      rintro e w3 ⟨rfl, rfl⟩
      go_wp2
      go_ret2
      exact ⟨v, false, rfl, by simpa using HN.out, HB2.out⟩
    · rw [hl] at hn LA
      have IT := Lib.hid (fun w' (hb : Below w.heap.size w w') => itoa_any v w' hbd.1 hbd.2 (HE.out.same hb).env.tab)
      simp only [Bool.true_and] at hn
      generalize Lib.itoa v = iv at IT hn
      rcases hq : (iv == s) with _ | _
      all_goals
        rw [hq] at hn
        have HN := Lib.hid hn
        clear hn hl
        go_enter Tryz.func75, Tryz.ntmps75
        go_wp2_with fail
        refine AG.out.mono ?_
        rintro e w2 ⟨rfl, hb2⟩
        have HB2 := Lib.hid hb2
        clear hb2
        go_wp2_with fail
        refine (LA.out w2).mono ?_
        rintro e w3 ⟨rfl, rfl⟩
        go_wp2_with fail
        refine (IT.out w2 HB2.out).mono ?_
        rintro e w3 ⟨rfl, hb3⟩
        have HB3 := Lib.hid (HB2.out.trans (hb3.mono HB2.out.size))
        clear hb3
        go_wp2
        go_ret2
        exact ⟨v, _, rfl, HN.out, HB3.out⟩
  · have hbad : ∀ v, Lib.atoiAll s ≠ .ok v := fun v hv => hok ⟨v, hv⟩
    have AB := Lib.hid (atoi_bad s w hs hE.err hbad)
    have HN := Lib.hid (fun n => word_bad (n := n) hbad)
    clear hE hbad hok
    go_enter Tryz.func75, Tryz.ntmps75
    go_wp2_with fail
    refine AB.out.mono ?_
    rintro e w2 ⟨n, N, rfl, hb2⟩
    have HB2 := Lib.hid hb2
    clear hb2
    go_wp2
    go_ret2
    exact ⟨n, false, rfl, HN.out n, HB2.out⟩
end Go.Proofs.YthcpfaahcncfjaaGreatDoor

namespace Go.Proofs.YthcpfaahcncfjaaGreatDoor
open Go.RowKit
set_option linter.unusedSimpArgs false
set_option linter.unusedVariables false
set_option linter.unnecessarySimpa false

theorem trims_len (line : List UInt8) : (Lib.trimPrefix line [100, 32]).length ≤ line.length ∧ (Lib.trimSuffix (Lib.trimPrefix line [100, 32]) [48]).length ≤ line.length := by
  have h1 : (Lib.trimPrefix line [100, 32]).length ≤ line.length := by unfold Lib.trimPrefix; split <;> simp
  refine ⟨h1, ?_⟩
  generalize Lib.trimPrefix line [100, 32] = r at h1
  unfold Lib.trimSuffix
  split
  · rw [List.length_take]; omega
  · exact h1
theorem wrds_len (ls : List Int) : ls.length ≤ (wrds ls).length := by
  induction ls with
  | nil => simp
  | cons l ls ih => rw [wrds_cons]; simp; omega
theorem cut_empty {a b : List UInt8} {c : UInt8} : a ++ c :: b ≠ [] := by simp

/-- what a line's reader answers -/
def PLine (line : List UInt8) (w : World) (e : Ending) (w' : World) : Prop :=
  Below w.heap.size w w' ∧ ((∃ (s : Stp) (A : Option Addr) (c : Nat), e = .returned (.tuple #[.agg #[.bool s.1, .slice A s.2.length c], .bool true]) ∧ LineIs line (some s) ∧
      w'.ownsRow w.heap.size 3 1 (.slice A s.2.length c) s.2.length (s.2.map (Value.int .i64))) ∨
    (∃ (d : Bool) (A : Option Addr) (n c : Nat), e = .returned (.tuple #[.agg #[.bool d, .slice A n c], .bool false]) ∧ LineIs line none))

set_option maxRecDepth 100000 in
set_option maxHeartbeats 4000000 in
theorem parseLine_any (line : List UInt8) (m : Int) (w : World) (hs : line.length ≤ 100000) (hE : EnvN m w) :
    Calls Tryz.prog 50 #[.string ⟨line.toArray⟩] w (PLine line w) := by
  obtain ⟨j0, hj, hy0, hy1, hy2⟩ := info_parts Tryz.infoInt3
  have HE := Lib.hid hE
  have hbt := between line
  have htl := trims_len line
  have CP := fun w' => Tryz.strings_CutPrefix ⟨line.toArray⟩ ⟨#[100, 32]⟩ w'
  rw [show (⟨line.toArray⟩ : ByteArray).data.toList = line from rfl, show (⟨#[100, 32]⟩ : ByteArray).data.toList = [100, 32] from rfl] at CP
  generalize Lib.hasPrefix line [100, 32] = d at hbt CP
  generalize Lib.trimPrefix line [100, 32] = r1 at hbt htl CP
  have CS := fun w' => Tryz.strings_CutSuffix ⟨r1.toArray⟩ ⟨#[48]⟩ w' (by show r1.length ≤ _; omega)
  rw [show (⟨r1.toArray⟩ : ByteArray).data.toList = r1 from rfl, show (⟨#[48]⟩ : ByteArray).data.toList = [48] from rfl] at CS
  generalize Lib.hasSuffix r1 [48] = ended at hbt CS
  generalize Lib.trimSuffix r1 [48] = mid at hbt htl CS
  have hml := htl.2
  have HBT := Lib.hid hbt
  have HCP := Lib.hid CP
  have HCS := Lib.hid CS
  clear hE hbt htl CP CS
  go_enter Tryz.func50, Tryz.ntmps50
  go_wp2_with fail
  refine (HCP.out _).mono ?_
  rintro e w' ⟨rfl, rfl⟩
  go_wp2_with fail
  refine (HCS.out _).mono ?_
  rintro e w' ⟨rfl, rfl⟩
  go_wp2
  obtain ⟨w1, hw1⟩ : ∃ w1, w1 = (w.alloc (.cells #[.bool false, .slice none 0 0] 60)).alloc (.cells #[.bool d, .slice none 0 0] 60) := ⟨_, rfl⟩
  have hres : Blk w1 w.heap.size 60 #[.bool false, .slice none 0 0] := by rw [hw1]; exact (Blk.new w _ _).alloc _
  have hstp : Blk w1 (w.heap.size + 1) 60 #[.bool d, .slice none 0 0] := by
    have := Blk.new (w.alloc (.cells #[.bool false, .slice none 0 0] 60)) 60 #[.bool d, .slice none 0 0]
    rw [hw1]; simpa using this
  have hbel : Below w.heap.size w w1 := by rw [hw1]; exact ((Below.refl _ w).alloc (Nat.le_refl _) _).alloc (by simp) _
  try rw [← hw1]
  clear hw1
  have HRES := Lib.hid hres
  have HSTP := Lib.hid hstp
  have HBEL := Lib.hid hbel
  clear hres hstp hbel
  go_loopg [0] (line.length + 1) (fun gk s wr => ∃ (ls : List Int) (r : List UInt8) (Al : Option Addr) (cl : Nat), s = .string ⟨r.toArray⟩ ∧ r.length < gk ∧ r.length ≤ line.length ∧ mid = wrds ls ++ r ∧ (∀ l ∈ ls, isLit l = true) ∧
    Blk wr w.heap.size 60 #[.bool false, .slice none 0 0] ∧ Blk wr (w.heap.size + 1) 60 #[.bool d, .slice Al ls.length cl] ∧ wr.ownsRow w.heap.size 3 1 (.slice Al ls.length cl) ls.length (ls.map (Value.int .i64)) ∧ Below w.heap.size w wr)
  case atStart => exact ⟨[], mid, none, 0, rfl, by omega, hml, rfl, by simp, HRES.out, HSTP.out, World.ownsRow_nil _ _ _ _, HBEL.out⟩
  case round =>
    obtain ⟨ls, r, Al, cl, rfl, hgk, hrl, hmid, hls, hres, hstp, hown, hb⟩ := hrel
    obtain ⟨wo, rfl⟩ : ∃ wo : World, wo = wr := ⟨_, rfl⟩
    have hls9 : ls.length ≤ 100000 := by
      have := congrArg List.length hmid
      have h9 := wrds_len ls
      simp at this
      omega
    have HMID := Lib.hid hmid
    have HLS := Lib.hid hls
    have HRES1 := Lib.hid hres
    have HSTP1 := Lib.hid hstp
    have HOWN := Lib.hid hown
    have HB0 := Lib.hid hb
    have hE1 := HE.out.same hb
    have HC := Lib.hid (Tryz.strings_Cut ⟨r.toArray⟩ ⟨#[32]⟩ m wo (by show r.length < _; omega) hE1.env.max)
    rw [show (⟨r.toArray⟩ : ByteArray).data.toList = r from rfl, show (⟨#[32]⟩ : ByteArray).data.toList = [32] from rfl] at HC
    have hcut := cut_one 32 r
    generalize Lib.cut r [32] = q at HC hcut
    clear hmid hls hres hstp hown hb hE1
    by_cases hr0 : r = []
    · subst hr0
      have F0 := HRES1.out.frozen
      have C0 := HSTP1.out.cell 0
      have C1 := HSTP1.out.cell 1
      have R0 := HRES1.out.cell 0
      have R1 := HRES1.out.cell 1
      simp at C0 C1 R0 R1
      have hs2 := HB0.out.size
      have hs3 : w.heap.size + 1 < wo.heap.size := HSTP1.out.lt
      clear hcut HC
      go_wp2
      have hb3 := (HRES1.out.set_ 0 (.bool d)).set_ 1 (.slice Al ls.length cl)
      have d0 := hb3.cell 0
      have d1 := hb3.cell 1
      simp at d0 d1
      (try simp only [Exit.inBlock, Exit.then])
      refine bodyPost_ret (results_cell1 rfl rfl rfl (load_step d0 d1)) rfl ?_
      refine ⟨(HB0.out.setCell (by simp) _).setCell (by simp) _, ?_⟩
      have hm2 := HMID.out
      rw [List.append_nil] at hm2
      have hbt := HBT.out
      cases ended with
      | true =>
        left
        refine ⟨(d, ls), Al, cl, rfl, line_ok hbt HLS.out hm2, ?_⟩
        have hne := own_blk_ne HOWN.out HRES1.out (by decide)
        exact own_setCell (own_setCell HOWN.out _ hne) _ hne
      | false => exact Or.inr ⟨d, Al, ls.length, cl, rfl, line_open hbt⟩
    · obtain ⟨word, rest, blank⟩ := q
      simp only at HC hcut
      obtain ⟨x, t, rfl⟩ : ∃ x t, r = x :: t := by cases r with | nil => exact absurd rfl hr0 | cons x t => exact ⟨x, t, rfl⟩
      have hwl : word.length ≤ 100000 ∧ rest.length < (x :: t).length := by
        rcases hcut with ⟨a, b, h1, h2, h3⟩ | ⟨h1, h2⟩
        · injection h3 with h3 h4
          injection h4 with h4 h5
          have := congrArg List.length h1
          simp at this hrl ⊢
          rw [h3, h4]; omega
        · injection h2 with h3 h4
          injection h4 with h4 h5
          rw [h3, h4]
          simp at hrl ⊢; omega
      have HCUT := Lib.hid hcut
      have HR0 := Lib.hid hr0
      clear hcut hr0
      go_wp2_with fail
      refine HC.out.mono ?_
      rintro e w2 ⟨rfl, nq, hw2⟩
      have hres2 : Blk w2 w.heap.size 60 #[.bool false, .slice none 0 0] := by rw [hw2]; exact HRES1.out.drewN nq
      have hstp2 : Blk w2 (w.heap.size + 1) 60 #[.bool d, .slice Al ls.length cl] := by rw [hw2]; exact HSTP1.out.drewN nq
      have hown2 : w2.ownsRow w.heap.size 3 1 (.slice Al ls.length cl) ls.length (ls.map (Value.int .i64)) := by rw [hw2]; exact HOWN.out
      have hb2 : Below w.heap.size w w2 := by rw [hw2]; exact below_drewN HB0.out nq
      have HPL := Lib.hid (parseLiteral_any word m w2 hwl.1 (HE.out.same hb2))
      have HRES2 := Lib.hid hres2
      have HSTP2 := Lib.hid hstp2
      have HOWN2 := Lib.hid hown2
      have HB2 := Lib.hid hb2
      clear hw2 hres2 hstp2 hown2 hb2 HRES1 HSTP1 HOWN HB0 HC
      go_wp2_with fail
      refine HPL.out.mono ?_
      rintro e w3 ⟨n, ok, rfl, hwd, hb3⟩
      have HRES3 := Lib.hid (HRES2.out.below hb3 HRES2.out.lt)
      have HSTP3 := Lib.hid (HSTP2.out.below hb3 HSTP2.out.lt)
      have HOWN3 := Lib.hid (own_belowK HOWN2.out hb3 (Nat.le_refl _))
      have HB3 := Lib.hid (HB2.out.trans (hb3.mono HB2.out.size))
      have HWD := Lib.hid hwd
      clear hwd hb3 HPL HRES2 HSTP2 HOWN2 HB2
      have F0 := HRES3.out.frozen
      have F1 := HSTP3.out.frozen
      have C0 := HSTP3.out.cell 0
      have C1 := HSTP3.out.cell 1
      have R0 := HRES3.out.cell 0
      have R1 := HRES3.out.cell 1
      simp at C0 C1 R0 R1
      have hs2 := HB3.out.size
      have hs3 : w.heap.size + 1 < w3.heap.size := HSTP3.out.lt
      by_cases hgood : blank = true ∧ ok = true
      · obtain ⟨rfl, rfl⟩ := hgood
        go_wp2_with (at_builtin; refine wpList_append1 _ rfl _ _ 55 rfl w.heap.size 3 j0 (.int .i64 0) 8 Tryz.underlying55 hj hy0 hy1 hy2 rfl _ _ _ rfl (HOWN3.out.alloc _) (.int .i64 n) w3.heap.size rfl (by go_cell) rfl (by unfold maxLen; omega) (by omega) (by simp; omega) ?_)
        intro v' w4 hown4 hg4 hob4
        obtain ⟨A4, c4, hv4, _⟩ := own_slice hown4
        subst hv4
        have hr4 := blk_kept hg4 HOWN3.out HRES3.out (by decide)
        have hs4 := blk_kept hg4 HOWN3.out HSTP3.out (by decide)
        have HB4 := Lib.hid ((HB3.out.alloc (by omega) _).grown hg4 (by simp; omega) (fun g hg => (HOWN3.out.lt g hg).1))
        have HR4 := Lib.hid hr4
        have HS4 := Lib.hid hs4
        have HO4 := Lib.hid hown4
        have F4 := hs4.frozen
        have C4 := hs4.cell 1
        simp at C4
        clear hown4 hg4 hob4 hr4 hs4 C0 C1 F0 F1 R0 R1
        go_wp2
        clear C4 F4
        go_roundg ((x :: t).length)
        case measure => omega
        case rel =>
          obtain ⟨h5, h6⟩ := HWD.out.yes rfl
          rcases HCUT.out with ⟨a, b, h1, h2, h3⟩ | ⟨h1, h2⟩
          · injection h3 with h3 h4
            injection h4 with h4 _
            refine ⟨ls ++ [n], rest, A4, c4, rfl, hwl.2, by omega, ?_, ?_, ?_, ?_, ?_, HB4.out.setCell (by simp) _⟩
            · rw [wrds_snoc, HMID.out, h1, h6, h3, h4]; simp
            · intro l hl
              rcases List.mem_append.1 hl with hl | hl
              · exact HLS.out l hl
              · rw [List.mem_singleton.1 hl]; exact h5
            · exact HR4.out.far (by simp) _
            · have h9 := HS4.out.set_ 1 (.slice A4 (ls ++ [n]).length c4)
              simpa using h9
            · have h9 := own_setCell HO4.out (p := ⟨w.heap.size + 1, 1, none⟩) (.slice A4 (ls.length + 1) c4) (own_blk_ne HO4.out HS4.out (by decide))
              simpa using h9
          · injection h2 with _ h4
            injection h4 with _ h5
            cases h5
      · have HF : Hid (LineIs line none) := by
          refine line_fail HBT.out HLS.out HMID.out HR0.out (fun l q hl he => ?_)
          rcases HCUT.out with ⟨a, b, h1, h2, h3⟩ | ⟨h1, h2⟩
          · injection h3 with h3 h4
            injection h4 with h4 h5
            subst h5
            have hok : ok = false := by cases ok with | true => exact absurd ⟨rfl, rfl⟩ hgood | false => rfl
            rw [h1] at he
            have h6 := (at_first h2 (itoa_no (Or.inl rfl) l) he).1
            exact HWD.out.no hok l hl (by rw [← h6, h3])
          · exact h1 (by rw [he]; simp)
        have hcl : blank = false ∨ (blank = true ∧ ok = false) := by
          cases blank with
          | false => exact Or.inl rfl
          | true => cases ok with
            | false => exact Or.inr ⟨rfl, rfl⟩
            | true => exact absurd ⟨rfl, rfl⟩ hgood
        have ends : ∀ (w5 : World), w5 = (w3.setCell ⟨w.heap.size, 0, none⟩ (.bool false)).setCell ⟨w.heap.size, 1, none⟩ (.slice none 0 0) → Below w.heap.size w w5 ∧ (loadVar 60 ⟨w.heap.size, 0, none⟩).run Tryz.prog w5 = .ok (.agg #[.bool false, .slice none 0 0]) w5 := fun w5 e5 => by
          have hb5 := (HRES3.out.set_ 0 (.bool false)).set_ 1 (.slice none 0 0)
          have d0 := hb5.cell 0
          have d1 := hb5.cell 1
          simp at d0 d1
          subst e5
          exact ⟨(HB3.out.setCell (by simp) _).setCell (by simp) _, load_step d0 d1⟩
        have HENDS := Lib.hid ends
        clear hgood ends
        rcases hcl with rfl | ⟨rfl, rfl⟩
        all_goals
          go_wp2
          (try simp only [Exit.inBlock, Exit.then])
          obtain ⟨q1, q2⟩ := HENDS.out _ rfl
          refine bodyPost_ret (results_cell1 rfl rfl rfl q2) rfl ?_
          exact ⟨q1, Or.inr ⟨false, none, 0, 0, rfl, HF.out⟩⟩

/-- what the reader of a text answers -/
def ParseTxt (s : List UInt8) (w : World) (e : Ending) (w' : World) : Prop :=
  Below w.heap.size w w' ∧ ((∃ (ps : List Stp) (A : Option Addr) (c : Nat), e = .returned (.tuple #[.slice A ps.length c, .int .i64 0]) ∧ TxtIs s (some ps, 0) ∧ OwnSteps w' w.heap.size A c ps) ∨
    (e = .returned (.tuple #[.slice none 0 0, .int .i64 9]) ∧ TxtIs s (none, 9)))
end Go.Proofs.YthcpfaahcncfjaaGreatDoor

namespace Go.Proofs.YthcpfaahcncfjaaGreatDoor
open Go.RowKit
set_option linter.unusedSimpArgs false
set_option linter.unusedVariables false
set_option linter.unnecessarySimpa false

set_option maxRecDepth 100000 in
set_option maxHeartbeats 4000000 in
theorem parseText_any (s : List UInt8) (m : Int) (w : World) (hs : s.length ≤ 100000) (hE : EnvN m w) :
    Calls Tryz.prog 28 #[.string ⟨s.toArray⟩] w (ParseTxt s w) := by
  obtain ⟨i0, hi, hz0, hz1, hz2⟩ := info_parts Tryz.infoStep
  have HE := Lib.hid hE
  clear hE
  go_enter Tryz.func28, Tryz.ntmps28
  go_wp2
  go_loopg [0, 4] (s.length + 1) (fun gk q t wr => ∃ (ps : List Stp) (r : List UInt8) (As : Option Addr) (cs : Nat), q = .string ⟨r.toArray⟩ ∧ t = .slice As ps.length cs ∧ r.length < gk ∧ r.length ≤ s.length ∧
    stpsRight ps = true ∧ s = txtOf ps ++ r ∧ OwnSteps wr w.heap.size As cs ps ∧ Below w.heap.size w wr)
  case atStart => exact ⟨[], s, none, 0, rfl, rfl, by omega, by omega, rfl, rfl, OwnSteps.nil_ _ _, Below.refl _ _⟩
  case round =>
    obtain ⟨ps, r, As, cs, rfl, rfl, hgk, hrl, hps, hbs, hown, hb⟩ := hrel
    obtain ⟨wo, rfl⟩ : ∃ wo : World, wo = wr := ⟨_, rfl⟩
    have hpl : ps.length ≤ 100000 := by
      have h1 := congrArg List.length hbs
      rw [List.length_append] at h1
      have h2 : ps.length ≤ (txtOf ps).length := by
        clear h1 hown hbs hps
        induction ps with
        | nil => simp
        | cons p ps ih => rw [txtOf_cons, List.length_append]; simp; omega
      omega
    have hs0 := hb.size
    have HPS := Lib.hid hps
    have HBS := Lib.hid hbs
    have HO := Lib.hid hown
    have HB0 := Lib.hid hb
    have hE1 := HE.out.same hb
    have HC := Lib.hid (Tryz.strings_Cut ⟨r.toArray⟩ ⟨#[10]⟩ m wo (by show r.length < _; omega) hE1.env.max)
    rw [show (⟨r.toArray⟩ : ByteArray).data.toList = r from rfl, show (⟨#[10]⟩ : ByteArray).data.toList = [10] from rfl] at HC
    have hcut := cut_one 10 r
    generalize Lib.cut r [10] = q at HC hcut
    clear hps hbs hown hb hE1
    by_cases hr0 : r = []
    · subst hr0
      have hbs2 := HBS.out
      rw [List.append_nil] at hbs2
      have HBS2 := Lib.hid hbs2
      clear hcut HC hbs2 HBS
      go_wp2
      go_ret2
      exact ⟨HB0.out, Or.inl ⟨ps, As, cs, rfl, .ok ps HPS.out HBS2.out.symm, HO.out⟩⟩
    · obtain ⟨line, rest, ended⟩ := q
      simp only at HC hcut
      have HNE := Lib.hid hr0
      obtain ⟨x, t, rfl⟩ : ∃ x t, r = x :: t := by cases r with | nil => exact absurd rfl hr0 | cons x t => exact ⟨x, t, rfl⟩
      have hwl : line.length ≤ 100000 ∧ rest.length < (x :: t).length := by
        rcases hcut with ⟨a, b, h1, h2, h3⟩ | ⟨h1, h2⟩
        · injection h3 with h3 h4
          injection h4 with h4 h5
          have := congrArg List.length h1
          simp at this hrl ⊢
          rw [h3, h4]; omega
        · injection h2 with h3 h4
          injection h4 with h4 h5
          rw [h3, h4]
          simp at hrl ⊢; omega
      have HCUT := Lib.hid hcut
      clear hcut hr0
      go_wp2_with fail
      refine HC.out.mono ?_
      rintro e w2 ⟨rfl, nq, hw2⟩
      have hb2 : Below w.heap.size w w2 := by rw [hw2]; exact below_drewN HB0.out nq
      have hown2 : OwnSteps w2 w.heap.size As cs ps := by rw [hw2]; exact HO.out.below (below_drewN (Below.refl wo.heap.size wo) nq) (Nat.le_refl _)
      have HPL := Lib.hid (parseLine_any line m w2 hwl.1 (HE.out.same hb2))
      have HB2 := Lib.hid hb2
      have HO2 := Lib.hid hown2
      clear hw2 hb2 hown2 HO HB0 HC
      go_wp2_with fail
      refine HPL.out.mono ?_
      rintro e w3 ⟨hb3, hcase⟩
      have HB3 := Lib.hid hb3
      have hs2 := HB2.out.size
      have hs3 := hb3.size
      clear hb3 HPL
      rcases hcase with ⟨st, A1, c1, rfl, hst, hown1⟩ | ⟨d, A1, n1, c1, rfl, hst⟩
      · cases ended with
        | true =>
          have hcc : (x :: t) = line ++ 10 :: rest := by
            rcases HCUT.out with ⟨a, b, h1, h2, h3⟩ | ⟨h1, h2⟩
            · injection h3 with h3 h4
              injection h4 with h4 _
              rw [h3, h4]; exact h1
            · injection h2 with _ h4
              injection h4 with _ h5
              cases h5
          obtain ⟨hp2, hbs2, hsr⟩ := txt_more HPS.out (show s = txtOf ps ++ (line ++ 10 :: rest) from by rw [← hcc]; exact HBS.out) hst
          obtain ⟨d, ls⟩ := st
          obtain ⟨vs, ho1, hrows⟩ := HO2.out
          have ho2 := own_belowK ho1 HB3.out (Nat.le_refl _)
          have hb02 := HB2.out.trans (HB3.out.mono hs2)
          have hr2 := (hrows.below HB3.out (Nat.le_refl _)).snoc (d := d) ho1.1 (own_more hown1 hs2)
          have HR2 := Lib.hid hr2
          have HO3 := Lib.hid ho2
          have HB02 := Lib.hid hb02
          have HPS2 := Lib.hid hp2
          have HBS2 := Lib.hid hbs2
          have hs02 := hb02.size
          clear hp2 hbs2 hsr hst hown1 ho1 hrows ho2 hb02 hr2 hcc
          have hOA : ∀ o o2, ((w3.alloc o).alloc o2).ownsRow w.heap.size 60 2 (.slice As ps.length cs) ps.length vs := fun o o2 => (HO3.out.alloc o).alloc o2
          go_wp2_with (at_builtin; refine wpList_append_el _ rfl _ _ 33 rfl w.heap.size 60 i0 (.agg #[.bool false, .slice none 0 0]) 2 32 Tryz.underlying33 hi hz0 hz1 hz2 rfl (by decide) _ _ _ rfl (hOA _ _) [.bool d, .slice A1 ls.length c1] rfl (w3.heap.size + 1) rfl (two_cells (by have := Blk.new (w3.alloc (.cells #[.bool d, .slice A1 ls.length c1] 60)) 60 #[.bool d, .slice A1 ls.length c1]; simpa using this)) (by simp [Value.oneCell']) (by unfold maxLen; omega) (by omega) (by simp; omega) ?_)
          intro v' w4 hown4 hg4 hob4
          have hsl : ∃ A3 c3, v' = .slice A3 (ps.length + 1) c3 := by
            rcases hown4.2 with ⟨_, h⟩ | ⟨g, cap, cur, h, _⟩
            · omega
            · exact ⟨_, _, h⟩
          obtain ⟨A3, c3, rfl⟩ := hsl
          have hrA := HR2.out.below ((Below.refl w3.heap.size w3).alloc (Nat.le_refl _) (.cells #[.bool d, .slice A1 ls.length c1] 60) |>.alloc (by simp) (.cells #[.bool d, .slice A1 ls.length c1] 60)) (Nat.le_refl _)
          have hr4 := hrA.outer (hOA _ _) (by decide) hg4
          have HB4 := Lib.hid (((HB02.out.alloc (by omega) _).alloc (by simp; omega) _).grown hg4 (by simp; omega) (fun g hg => (HO3.out.lt g hg).1))
          have HO4 := Lib.hid hown4
          have HR4 := Lib.hid hr4
          clear hown4 hg4 hob4 hrA hr4 hOA
          go_wp2
          go_roundg ((x :: t).length)
          case measure => omega
          case rel => exact ⟨ps ++ [(d, ls)], rest, A3, c3, rfl, by simp, hwl.2, by omega, HPS2.out, HBS2.out, ⟨_, by simpa using HO4.out, HR4.out⟩, HB4.out⟩
        | false =>
          have HF : Hid (TxtIs s (none, 9)) := by
            refine txt_fail HPS.out HBS.out HNE.out (fun y q hy he => ?_)
            rcases HCUT.out with ⟨a, b, h1, h2, h3⟩ | ⟨h1, h2⟩
            · injection h3 with _ h4
              injection h4 with _ h5
              cases h5
            · exact h1 (by rw [he]; simp)
          clear hst hown1
          go_wp2
          go_ret2
          exact ⟨(HB2.out.trans (HB3.out.mono hs2)).alloc (by omega) _, Or.inr ⟨rfl, HF.out⟩⟩
      · have HF : Hid (TxtIs s (none, 9)) := by
          refine txt_fail HPS.out HBS.out HNE.out (fun y q hy he => ?_)
          rcases HCUT.out with ⟨a, b, h1, h2, h3⟩ | ⟨h1, h2⟩
          · injection h3 with h3 _
            rw [h1] at he
            have h6 := (at_first h2 (line_no y) he).1
            rcases hst with _ | h7
            exact h7 y hy (by rw [← h6, h3])
          · exact h1 (by rw [he]; simp)
        clear hst
        cases ended with
        | true =>
          go_wp2
          go_ret2
          exact ⟨(HB2.out.trans (HB3.out.mono hs2)).alloc (by omega) _, Or.inr ⟨rfl, HF.out⟩⟩
        | false =>
          go_wp2
          go_ret2
          exact ⟨(HB2.out.trans (HB3.out.mono hs2)).alloc (by omega) _, Or.inr ⟨rfl, HF.out⟩⟩
end Go.Proofs.YthcpfaahcncfjaaGreatDoor

namespace Go.Proofs.YthcpfaahcncfjaaGreatDoor
open Go.RowKit
set_option linter.unusedSimpArgs false
set_option linter.unusedVariables false
set_option linter.unnecessarySimpa false

theorem txtOf_take {ps : List Stp} {k : Nat} (hk : k < ps.length) : txtOf (ps.take (k + 1)) = txtOf (ps.take k) ++ stpTxt (ps.getD k stp0) := by
  rw [List.take_succ_eq_append_getElem hk, txtOf_append]; simp [txtOf, List.getD, hk]

theorem wrds_take {c : List Int} {k : Nat} (hk : k < c.length) : wrds (c.take (k + 1)) = wrds (c.take k) ++ wrd (c.getD k 0) := by
  rw [List.take_succ_eq_append_getElem hk, wrds_append]; simp [wrds, List.getD, hk]

theorem txt_take_le (ps : List Stp) (k : Nat) : (txtOf (ps.take k)).length ≤ (txtOf ps).length := by
  conv => rhs; rw [← List.take_append_drop k ps, txtOf_append]
  simp

theorem wrds_take_le (c : List Int) (k : Nat) : (wrds (c.take k)).length ≤ (wrds c).length := by
  conv => rhs; rw [← List.take_append_drop k c, wrds_append]
  simp

theorem wrds_le {ps : List Stp} {k : Nat} (hk : k < ps.length) : (wrds (ps.getD k stp0).2).length ≤ (txtOf ps).length := by
  have h1 := txt_take_le ps (k + 1)
  rw [txtOf_take hk] at h1
  unfold stpTxt stpLine at h1
  simp at h1 ⊢
  omega

theorem txt_lens {ps : List Stp} : ps.length ≤ (txtOf ps).length ∧ ∀ j, (ps.getD j stp0).2.length ≤ (txtOf ps).length := by
  refine ⟨?_, fun j => ?_⟩
  · induction ps with
    | nil => simp
    | cons p ps ih => rw [txtOf_cons, List.length_append]; simp; omega
  · by_cases hj : j < ps.length
    · have := wrds_le hj
      have h2 := wrds_len (ps.getD j stp0).2
      omega
    · simp only [List.getD, List.getElem?_eq_none (Nat.le_of_not_lt hj), Option.getD_none]; exact Nat.zero_le _

set_option maxRecDepth 100000 in
set_option maxHeartbeats 4000000 in
theorem text_any (ps : List Stp) (m : Int) (B c : Nat) (A : Option Addr) (w : World) (h : Steps w B A ps) (hB : B ≤ w.heap.size) (hr : stpsRight ps = true) (hE : EnvN m w) (hlen : (txtOf ps).length ≤ 100000) :
    Calls Tryz.prog 18 #[.slice A ps.length c] w fun e w' => e = .returned (.string ⟨(txtOf ps).toArray⟩) ∧ Below w.heap.size w w' := by
  have H := Lib.hid h
  have HE := Lib.hid hE
  have HR := Lib.hid hr
  have hpl : ps.length ≤ 100000 := by have := (txt_lens (ps := ps)).1; omega
  have HL := Lib.hid (show ∀ j, (ps.getD j stp0).2.length ≤ 100000 from fun j => by have := (txt_lens (ps := ps)).2 j; omega)
  have HT := Lib.hid (show ∀ k, (txtOf (ps.take k)).length ≤ 100000 from fun k => by have := txt_take_le ps k; omega)
  have HW := Lib.hid (show ∀ k j, k < ps.length → (wrds ((ps.getD k stp0).2.take j)).length ≤ 100000 from fun k j hk => by
    have h1 := wrds_take_le (ps.getD k stp0).2 j
    have h2 := wrds_le hk
    omega)
  clear h hE hr hlen
  go_enter Tryz.func18, Tryz.ntmps18
  go_wp2
  obtain ⟨w1, hw1⟩ : ∃ w1, w1 = w.alloc (.cells #[.pointer none, .slice none 0 0] 80) := ⟨_, rfl⟩
  have hbel : Below w.heap.size w w1 := by rw [hw1]; exact (Below.refl _ _).alloc (Nat.le_refl _) _
  have hsz : w1.heap.size = w.heap.size + 1 := by rw [hw1]; simp
  have hbld : Bld w.heap.size w.heap.size [] w1 := by
    have := Lib.fresh_isBuilder 80 5 w
    rw [hw1]; unfold Bld Lib.byteCells; simpa using this
  try rw [← hw1]
  clear hw1
  have HBEL := Lib.hid hbel
  have HSZ := Lib.hid hsz
  have HBLD := Lib.hid hbld
  clear hbel hsz hbld
  go_loopg [10] (ps.length + 1) (fun gk i wr => ∃ k : Nat, k ≤ ps.length ∧ gk = ps.length - k + 1 ∧ i = .int .i64 k ∧ Bld w.heap.size w.heap.size (txtOf (ps.take k)) wr ∧ Below w.heap.size w wr ∧ w.heap.size < wr.heap.size)
  case atStart => exact ⟨0, by omega, by omega, rfl, by simpa [txtOf] using HBLD.out, HBEL.out, by have := HSZ.out; omega⟩
  case round =>
    obtain ⟨k, hk, rfl, rfl, hbl, hb, hlt9⟩ := hrel
    obtain ⟨wo, rfl⟩ : ∃ wo : World, wo = wr := ⟨_, rfl⟩
    have HBLk := Lib.hid hbl
    have HBk := Lib.hid hb
    clear hbl hb HBLD HBEL HSZ
    by_cases hlt : k < ps.length
    · obtain ⟨b, off, Ak, ck, rfl, hbB, hd, hcell, hint⟩ := (H.out.below (HBk.out.mono hB)).at_ hlt
      have hxl := HL.out k
      have htk := txtOf_take hlt
      have hlk := HT.out k
      have hwk := fun j => HW.out k j hlt
      have hrk := fun j hj => right_getD HR.out k j hlt hj
      obtain ⟨⟨d, ls⟩, hs⟩ : ∃ s, s = ps.getD k stp0 := ⟨_, rfl⟩
      rw [← hs] at hd hcell hint hxl htk hwk hrk
      clear hs
      simp only at hd hcell hint hxl hwk hrk
      have htk2 : txtOf (ps.take (k + 1)) = txtOf (ps.take k) ++ delTxt d ++ wrds ls ++ [48, 10] := by rw [htk]; simp [stpTxt, stpLine]
      generalize txtOf (ps.take k) = ta at HBLk htk2 hlk
      have HTK := Lib.hid htk2
      have HWK := Lib.hid hwk
      have HRK := Lib.hid hrk
      clear htk htk2 hwk hrk
      obtain ⟨w2, hw2⟩ : ∃ w2, w2 = wo.alloc (.cells #[.bool d, .slice Ak ls.length ck] 60) := ⟨_, rfl⟩
      have hbk2 : Blk w2 wo.heap.size 60 #[.bool d, .slice Ak ls.length ck] := by rw [hw2]; exact Blk.new wo _ _
      have hb2 : Below wo.heap.size wo w2 := by rw [hw2]; exact (Below.refl _ _).alloc (Nat.le_refl _) _
      have HB2 := Lib.hid hb2
      have HBL2 := Lib.hid (HBLk.out.below hb2 (Nat.le_refl _))
      have HBK2 := Lib.hid hbk2
      have HIN := Lib.hid (Cells.below hint (hb2.mono (by omega)))
      have HSW2 := Lib.hid hb2.size
      have HBQ := Lib.hid (hb2.mono (Nat.le_of_lt hlt9))
      clear hint hbk2 hb2 HBLk
      have hc0 := HBK2.out.cell 0
      have hc1 := HBK2.out.cell 1
      simp at hc0 hc1
      try rw [hw2] at hc0 hc1
      have hwo : w.heap.size < wo.heap.size := hlt9
      cases d with
      | true =>
        have WS := Lib.hid (writeString_any w.heap.size w.heap.size ta ⟨#[100, 32]⟩ w2 HBL2.out (by show ta.length + 2 ≤ _; omega) (by have := HSW2.out; omega))
        rw [hw2] at WS
        go_wp2_with fail
        refine WS.out.mono ?_
        rintro e w5 ⟨rfl, hbl5, hb5, ho5⟩
        rw [← hw2] at hb5 ho5
        have hbk5 := ho5 _ _ _ (by decide) (Nat.ne_of_gt hwo) HBK2.out
        have hd1 := hbk5.cell 1
        simp at hd1
        have HBL5 := Lib.hid (show Bld w.heap.size w.heap.size (ta ++ delTxt true) w5 from hbl5)
        have HB5 := Lib.hid ((HBk.out.trans (HB2.out.mono (by omega))).trans hb5)
        have hs5 : w.heap.size < w5.heap.size := by have := hb5.size; have := HSW2.out; omega
        clear hbl5 hb5 ho5 hbk5 hc0 hc1 WS HBL2 HB2 HBK2
        clear hw2
        go_wp2
        clear hd1
        go_loopg [20] (ls.length + 1) (fun gk i wr => ∃ j : Nat, j ≤ ls.length ∧ gk = ls.length - j + 1 ∧ i = .int .i64 j ∧ Bld w.heap.size w.heap.size ((ta ++ delTxt true) ++ wrds (ls.take j)) wr ∧ Below w.heap.size w wr ∧ w.heap.size < wr.heap.size)
        case atStart => exact ⟨0, by omega, by omega, rfl, by simpa [wrds] using HBL5.out, HB5.out, hs5⟩
        case round =>
          obtain ⟨j, hj, rfl, rfl, hbl, hbb, hsi⟩ := hrel
          obtain ⟨wi, rfl⟩ : ∃ wi : World, wi = wr := ⟨_, rfl⟩
          have HBLj := Lib.hid hbl
          have HBBj := Lib.hid hbb
          have hrj := HWK.out j
          have hdl : (delTxt true).length ≤ 2 := by decide
          clear hbl hbb
          by_cases hlj : j < ls.length
          · obtain ⟨b2, off2, rfl, hb2, hcj1⟩ := HIN.out.at_ hlj
            have hcj := (HBBj.out.cell (p := ⟨b2, off2 + j, none⟩) (by simp; omega)).trans ((HBk.out.cell (p := ⟨b2, off2 + j, none⟩) (by simp; omega)).symm.trans ((HBQ.out.cell (p := ⟨b2, off2 + j, none⟩) (by simp; omega)).symm.trans hcj1))
            have hlit := HRK.out j hlj
            have hlt1 := wrds_take hlj
            obtain ⟨l, hl⟩ : ∃ l, l = ls.getD j 0 := ⟨_, rfl⟩
            rw [← hl] at hcj hlt1 hlit
            rw [isLit_iff] at hlit
            have hi7 := itoa_len6 hlit.2.1 hlit.2.2
            have IT := Lib.hid (itoa_any l wi (by omega) (by omega) (HE.out.same HBBj.out).env.tab)
            unfold wrd at hlt1
            generalize Lib.itoa l = il at hlt1 hi7 IT
            have HLT1 := Lib.hid hlt1
            clear hl hlt1 hcj1 hlit
            go_wp2_with fail
            refine IT.out.mono ?_
            rintro e w6 ⟨rfl, hb6⟩
            have HB6 := Lib.hid (HBBj.out.trans (hb6.mono (by omega)))
            have HBL6 := Lib.hid (HBLj.out.below hb6 (Nat.le_refl _))
            have hs6 := hb6.size
            clear hb6 hcj
            have WS := Lib.hid (writeString_any w.heap.size w.heap.size _ ⟨il.toArray⟩ w6 HBL6.out (by
              have h10 : (⟨il.toArray⟩ : ByteArray).size = il.length := by show il.toArray.size = _; simp
              rw [h10]
              simp only [List.length_append]
              omega) (by omega))
            go_wp2_with fail
            refine WS.out.mono ?_
            rintro e w7 ⟨rfl, hbl7, hb7, _⟩
            have HB7 := Lib.hid (HB6.out.trans hb7)
            have HBL7 := Lib.hid hbl7
            have hs7 := hb7.size
            clear hbl7 hb7 WS
            have WB := Lib.hid (writeByte_any w.heap.size w.heap.size _ 32 w7 HBL7.out (by
              have h10 : (⟨il.toArray⟩ : ByteArray).data.toList.length = il.length := rfl
              simp only [List.length_append]
              rw [h10]
              omega) (by omega))
            rw [show ((32 : UInt8).toNat : Int) = 32 from rfl] at WB
            go_wp2_with fail
            refine WB.out.mono ?_
            rintro e w8 ⟨rfl, hbl8, hb8, _⟩
            have HB8 := Lib.hid (HB7.out.trans hb8)
            have HBL8 := Lib.hid hbl8
            have hs8 := hb8.size
            clear hbl8 hb8 WB
            go_wp2
            go_roundg (ls.length - j)
            case measure => omega
            case rel =>
              refine ⟨j + 1, by omega, by omega, by go_num, ?_, HB8.out, by omega⟩
              have h9 := HBL8.out
              rw [HLT1.out]
              simpa using h9
          · have htkj : ls.take j = ls := List.take_of_length_le (by omega)
            rw [htkj] at HBLj hrj
            have WS := Lib.hid (writeString_any w.heap.size w.heap.size _ ⟨#[48, 10]⟩ wi HBLj.out (by
              have h10 : (⟨#[48, 10]⟩ : ByteArray).size = 2 := rfl
              rw [h10]
              simp only [List.length_append]
              omega) (by omega))
            clear htkj hrj
            go_wp2_with fail
            refine WS.out.mono ?_
            rintro e w7 ⟨rfl, hbl7, hb7, _⟩
            have HB7 := Lib.hid (HBBj.out.trans hb7)
            have HBL7 := Lib.hid hbl7
            have hs7 := hb7.size
            clear hbl7 hb7 WS
            go_wp2
            go_roundg (ps.length - k)
            case measure => omega
            case rel =>
              refine ⟨k + 1, by omega, by omega, by go_num, ?_, HB7.out, by omega⟩
              have h9 := HBL7.out
              rw [HTK.out]
              simpa using h9
      | false =>
        have HBL5 := Lib.hid (show Bld w.heap.size w.heap.size (ta ++ delTxt false) w2 from by simpa [delTxt] using HBL2.out)
        have HB5 := Lib.hid (HBk.out.trans (HB2.out.mono (by omega)))
        have hs5 : w.heap.size < w2.heap.size := by have := HSW2.out; omega
        obtain ⟨w5, hw5⟩ : ∃ w5, w5 = w2 := ⟨_, rfl⟩
        rw [← hw5] at HBL5 HB5 hs5
        go_wp2
        rw [← hw2, ← hw5]
        clear hc0 hc1 hw2 hw5 HBL2 HB2 HBK2
        go_loopg [20] (ls.length + 1) (fun gk i wr => ∃ j : Nat, j ≤ ls.length ∧ gk = ls.length - j + 1 ∧ i = .int .i64 j ∧ Bld w.heap.size w.heap.size ((ta ++ delTxt false) ++ wrds (ls.take j)) wr ∧ Below w.heap.size w wr ∧ w.heap.size < wr.heap.size)
        case atStart => exact ⟨0, by omega, by omega, rfl, by simpa [wrds] using HBL5.out, HB5.out, hs5⟩
        case round =>
          obtain ⟨j, hj, rfl, rfl, hbl, hbb, hsi⟩ := hrel
          obtain ⟨wi, rfl⟩ : ∃ wi : World, wi = wr := ⟨_, rfl⟩
          have HBLj := Lib.hid hbl
          have HBBj := Lib.hid hbb
          have hrj := HWK.out j
          have hdl : (delTxt false).length ≤ 2 := by decide
          clear hbl hbb
          by_cases hlj : j < ls.length
          · obtain ⟨b2, off2, rfl, hb2, hcj1⟩ := HIN.out.at_ hlj
            have hcj := (HBBj.out.cell (p := ⟨b2, off2 + j, none⟩) (by simp; omega)).trans ((HBk.out.cell (p := ⟨b2, off2 + j, none⟩) (by simp; omega)).symm.trans ((HBQ.out.cell (p := ⟨b2, off2 + j, none⟩) (by simp; omega)).symm.trans hcj1))
            have hlit := HRK.out j hlj
            have hlt1 := wrds_take hlj
            obtain ⟨l, hl⟩ : ∃ l, l = ls.getD j 0 := ⟨_, rfl⟩
            rw [← hl] at hcj hlt1 hlit
            rw [isLit_iff] at hlit
            have hi7 := itoa_len6 hlit.2.1 hlit.2.2
            have IT := Lib.hid (itoa_any l wi (by omega) (by omega) (HE.out.same HBBj.out).env.tab)
            unfold wrd at hlt1
            generalize Lib.itoa l = il at hlt1 hi7 IT
            have HLT1 := Lib.hid hlt1
            clear hl hlt1 hcj1 hlit
            go_wp2_with fail
            refine IT.out.mono ?_
            rintro e w6 ⟨rfl, hb6⟩
            have HB6 := Lib.hid (HBBj.out.trans (hb6.mono (by omega)))
            have HBL6 := Lib.hid (HBLj.out.below hb6 (Nat.le_refl _))
            have hs6 := hb6.size
            clear hb6 hcj
            have WS := Lib.hid (writeString_any w.heap.size w.heap.size _ ⟨il.toArray⟩ w6 HBL6.out (by
              have h10 : (⟨il.toArray⟩ : ByteArray).size = il.length := by show il.toArray.size = _; simp
              rw [h10]
              simp only [List.length_append]
              omega) (by omega))
            go_wp2_with fail
            refine WS.out.mono ?_
            rintro e w7 ⟨rfl, hbl7, hb7, _⟩
            have HB7 := Lib.hid (HB6.out.trans hb7)
            have HBL7 := Lib.hid hbl7
            have hs7 := hb7.size
            clear hbl7 hb7 WS
            have WB := Lib.hid (writeByte_any w.heap.size w.heap.size _ 32 w7 HBL7.out (by
              have h10 : (⟨il.toArray⟩ : ByteArray).data.toList.length = il.length := rfl
              simp only [List.length_append]
              rw [h10]
              omega) (by omega))
            rw [show ((32 : UInt8).toNat : Int) = 32 from rfl] at WB
            go_wp2_with fail
            refine WB.out.mono ?_
            rintro e w8 ⟨rfl, hbl8, hb8, _⟩
            have HB8 := Lib.hid (HB7.out.trans hb8)
            have HBL8 := Lib.hid hbl8
            have hs8 := hb8.size
            clear hbl8 hb8 WB
            go_wp2
            go_roundg (ls.length - j)
            case measure => omega
            case rel =>
              refine ⟨j + 1, by omega, by omega, by go_num, ?_, HB8.out, by omega⟩
              have h9 := HBL8.out
              rw [HLT1.out]
              simpa using h9
          · have htkj : ls.take j = ls := List.take_of_length_le (by omega)
            rw [htkj] at HBLj hrj
            have WS := Lib.hid (writeString_any w.heap.size w.heap.size _ ⟨#[48, 10]⟩ wi HBLj.out (by
              have h10 : (⟨#[48, 10]⟩ : ByteArray).size = 2 := rfl
              rw [h10]
              simp only [List.length_append]
              omega) (by omega))
            clear htkj hrj
            go_wp2_with fail
            refine WS.out.mono ?_
            rintro e w7 ⟨rfl, hbl7, hb7, _⟩
            have HB7 := Lib.hid (HBBj.out.trans hb7)
            have HBL7 := Lib.hid hbl7
            have hs7 := hb7.size
            clear hbl7 hb7 WS
            go_wp2
            go_roundg (ps.length - k)
            case measure => omega
            case rel =>
              refine ⟨k + 1, by omega, by omega, by go_num, ?_, HB7.out, by omega⟩
              have h9 := HBL7.out
              rw [HTK.out]
              simpa using h9
    · have htk : ps.take k = ps := List.take_of_length_le (by omega)
      have HBL9 := HBLk.out
      rw [htk] at HBL9
      have BS := Lib.hid (bldString_any w.heap.size w.heap.size _ wo HBL9 (by omega))
      clear htk HBL9
      go_wp2_with fail
      refine BS.out.mono ?_
      rintro e w3 ⟨rfl, hb3⟩
      have HB3 := Lib.hid (HBk.out.trans hb3)
      clear hb3 BS
      go_wp2
      go_ret
      exact ⟨rfl, HB3.out⟩

end Go.Proofs.YthcpfaahcncfjaaGreatDoor
