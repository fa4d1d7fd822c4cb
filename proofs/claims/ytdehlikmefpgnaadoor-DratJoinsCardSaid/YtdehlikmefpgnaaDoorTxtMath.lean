/- Proofs as text: plain mathematics. No program is named here. -/
import Derived.Test.YtdehlikmefpgnaaDoorDratMath
import Derived.Lib.ItoaMem
import Derived.Lib.AtoiTie
import Derived.Lib.AtoiAllCases
import Derived.Lib.IndexMore
import Derived.Lib.IndexLaws
import Derived.Lib.IndexBytes
namespace Go.Proofs.YtdehlikmefpgnaaDoor
set_option linter.unusedSimpArgs false
set_option linter.unusedVariables false
set_option linter.unnecessarySimpa false

/-- the digits of a number -/
theorem dec_digs : ∀ u : Nat, (∀ b ∈ Lib.decDigits u, 48 ≤ b.toNat ∧ b.toNat ≤ 57) ∧ Lib.decDigits u ≠ [] := by
  intro u
  induction u using Nat.strongRecOn with
  | _ u ih =>
    by_cases h : u < 10
    · rw [Lib.decDigits, dif_pos h]
      refine ⟨fun b hb => ?_, by simp⟩
      rw [List.mem_singleton.1 hb, u8_low (by omega)]; omega
    · rw [Lib.decDigits, dif_neg h]
      refine ⟨fun b hb => ?_, by simp⟩
      rcases List.mem_append.1 hb with hb | hb
      · exact (ih (u / 10) (by omega)).1 b hb
      · rw [List.mem_singleton.1 hb, u8_low (by omega)]; omega
theorem decFrom_app : ∀ (l m : List UInt8) (acc n : Nat), Lib.decFrom acc l = some n → Lib.decFrom acc (l ++ m) = Lib.decFrom n m
  | [], m, acc, n, h => by
    obtain rfl := Option.some.inj h
    rfl
  | b :: l, m, acc, n, h => by
    rw [List.cons_append, Lib.decFrom]
    rw [Lib.decFrom] at h
    rcases hd : Lib.digitVal b with _ | d
    · rw [hd] at h; cases h
    · rw [hd] at h
      exact decFrom_app l m _ n h
theorem decFrom_dec : ∀ u : Nat, Lib.decFrom 0 (Lib.decDigits u) = some u := by
  intro u
  induction u using Nat.strongRecOn with
  | _ u ih =>
    by_cases h : u < 10
    · rw [Lib.decDigits, dif_pos h, Lib.decFrom, show Lib.digitVal (UInt8.ofNat (48 + u)) = some u by
        unfold Lib.digitVal
        rw [u8_low (by omega), if_pos (by omega)]
        congr 1; omega]
      show some (0 * 10 + u) = some u
      congr 1; omega
    · rw [Lib.decDigits, dif_neg h, decFrom_app _ _ 0 _ (ih (u / 10) (by omega)), Lib.decFrom, show Lib.digitVal (UInt8.ofNat (48 + u % 10)) = some (u % 10) by
        unfold Lib.digitVal
        rw [u8_low (by omega), if_pos (by omega)]
        congr 1; omega]
      show some (u / 10 * 10 + u % 10) = some u
      congr 1; omega
theorem nDigits_le : ∀ (k v : Nat), v < 10 ^ (k + 1) → Lib.nDigits v ≤ k + 1 := by
  intro k
  induction k with
  | zero => intro v hv; rw [Lib.nDigits, dif_pos (by simpa using hv)]; omega
  | succ k ihk =>
    intro v hv
    rw [Lib.nDigits]
    split
    · omega
    · have := ihk (v / 10) (by rw [Nat.pow_succ] at hv; omega)
      omega
theorem itoa_len6 {l : Int} (h0 : -100000 ≤ l) (h1 : l ≤ 100000) : (Lib.itoa l).length ≤ 7 := by
  unfold Lib.itoa
  split
  · rw [List.length_cons, Lib.decDigits_length]
    have := nDigits_le 5 l.natAbs (by omega)
    omega
  · rw [Lib.decDigits_length]
    have := nDigits_le 5 l.toNat (by omega)
    omega
/-- a numeral's bytes: a minus, digits -/
theorem itoa_bytes (l : Int) : ∀ b ∈ Lib.itoa l, b.toNat = 45 ∨ (48 ≤ b.toNat ∧ b.toNat ≤ 57) := by
  unfold Lib.itoa
  split
  · intro b hb
    rcases List.mem_cons.1 hb with rfl | hb
    · left; rfl
    · exact Or.inr ((dec_digs _).1 b hb)
  · exact fun b hb => Or.inr ((dec_digs _).1 b hb)
theorem itoa_ne (l : Int) : Lib.itoa l ≠ [] := by
  unfold Lib.itoa
  split
  · simp
  · exact (dec_digs _).2
theorem itoa_no {c : UInt8} (hc : c = 32 ∨ c = 10) (l : Int) : c ∉ Lib.itoa l := fun h => by
  have := itoa_bytes l c h
  rcases hc with rfl | rfl <;> revert this <;> decide
/-- a numeral reads back -/
theorem atoi_itoa {l : Int} (h0 : -100000 ≤ l) (h1 : l ≤ 100000) : Lib.atoiAll (Lib.itoa l) = .ok l := by
  have hl := itoa_len6 h0 h1
  rw [Lib.atoiAll_short _ (by omega)]
  have key : Lib.atoi (Lib.itoa l) = some l := by
    unfold Lib.itoa
    split
    · rename_i hn
      show (if (45 : UInt8) == 45 then (Lib.decNat (Lib.decDigits l.natAbs)).map (fun (m : Nat) => -(m : Int)) else if (45 : UInt8) == 43 then (Lib.decNat (Lib.decDigits l.natAbs)).map (fun (m : Nat) => (m : Int)) else (Lib.decNat (45 :: Lib.decDigits l.natAbs)).map (fun (m : Nat) => (m : Int))) = _
      rw [if_pos (show ((45 : UInt8) == 45) = true by decide)]
      unfold Lib.decNat
      rw [show (Lib.decDigits l.natAbs).isEmpty = false by
        rcases hd : Lib.decDigits l.natAbs with _ | ⟨x, r⟩
        · exact absurd hd (dec_digs _).2
        · rfl]
      simp only [Bool.false_eq_true, if_false]
      rw [decFrom_dec]
      show some (-((l.natAbs : Nat) : Int)) = some l
      congr 1; omega
    · rename_i hn
      have hd := dec_digs l.toNat
      have hf := decFrom_dec l.toNat
      rcases hx : Lib.decDigits l.toNat with _ | ⟨x, r⟩
      · exact absurd hx hd.2
      · rw [hx] at hd hf
        have hb := hd.1 x (by simp)
        have e45 : (x == 45) = false := by
          apply beq_false_of_ne
          intro e; subst e; revert hb; decide
        have e43 : (x == 43) = false := by
          apply beq_false_of_ne
          intro e; subst e; revert hb; decide
        show (if x == 45 then (Lib.decNat r).map fun (m : Nat) => -(m : Int) else if x == 43 then (Lib.decNat r).map fun (m : Nat) => (m : Int) else (Lib.decNat (x :: r)).map fun (m : Nat) => (m : Int)) = _
        rw [e45, e43]
        simp only [Bool.false_eq_true, if_false]
        unfold Lib.decNat
        rw [show (x :: r).isEmpty = false from rfl]
        simp only [Bool.false_eq_true, if_false]
        rw [hf]
        show some ((l.toNat : Nat) : Int) = some l
        congr 1; omega
  rw [key]; rfl
theorem itoa_inj {l m : Int} (hl : isLit l = true) (hm : isLit m = true) (h : Lib.itoa l = Lib.itoa m) : l = m := by
  rw [isLit_iff] at hl hm
  have h1 := atoi_itoa hl.2.1 hl.2.2
  have h2 := atoi_itoa hm.2.1 hm.2.2
  rw [h, h2] at h1
  injection h1 with h1
  exact h1.symm

/-- a word, a row of words, a step's line without its end, a step, a proof -/
def wrd (l : Int) : List UInt8 := Lib.itoa l ++ [32]
def wrds (ls : List Int) : List UInt8 := ls.flatMap wrd
def delTxt (d : Bool) : List UInt8 := if d then [100, 32] else []
def stpLine (s : Stp) : List UInt8 := delTxt s.1 ++ (wrds s.2 ++ [48])
def stpTxt (s : Stp) : List UInt8 := stpLine s ++ [10]
def txtOf (ps : List Stp) : List UInt8 := ps.flatMap stpTxt
theorem wrds_cons (l : Int) (ls : List Int) : wrds (l :: ls) = Lib.itoa l ++ 32 :: wrds ls := by show (Lib.itoa l ++ [32]) ++ wrds ls = _; simp
theorem wrds_append (ls ms : List Int) : wrds (ls ++ ms) = wrds ls ++ wrds ms := List.flatMap_append
theorem wrds_snoc (ls : List Int) (l : Int) : wrds (ls ++ [l]) = wrds ls ++ (Lib.itoa l ++ [32]) := by rw [wrds_append]; simp [wrds, wrd]
theorem txtOf_cons (s : Stp) (ps : List Stp) : txtOf (s :: ps) = stpLine s ++ 10 :: txtOf ps := by show (stpLine s ++ [10]) ++ txtOf ps = _; simp
theorem txtOf_append (ps qs : List Stp) : txtOf (ps ++ qs) = txtOf ps ++ txtOf qs := List.flatMap_append
theorem txtOf_snoc (ps : List Stp) (s : Stp) : txtOf (ps ++ [s]) = txtOf ps ++ (stpLine s ++ [10]) := by rw [txtOf_append]; simp [txtOf, stpTxt]
theorem wrds_no (ls : List Int) : (10 : UInt8) ∉ wrds ls := by
  induction ls with
  | nil => simp [wrds]
  | cons l ls ih =>
    rw [wrds_cons]
    simp only [List.mem_append, List.mem_cons, not_or]
    exact ⟨itoa_no (Or.inr rfl) l, by decide, ih⟩
theorem line_no (s : Stp) : (10 : UInt8) ∉ stpLine s := by
  unfold stpLine
  simp only [List.mem_append, List.mem_singleton, not_or]
  exact ⟨by unfold delTxt; cases s.1 <;> decide, wrds_no _, by decide⟩
/-- what stands ahead of the first mark, and behind it -/
theorem at_first {c : UInt8} : ∀ {a b r q : List UInt8}, c ∉ a → c ∉ b → a ++ c :: r = b ++ c :: q → a = b ∧ r = q
  | [], [], r, q, _, _, h => ⟨rfl, by simpa using h⟩
  | [], y :: b, r, q, _, hb, h => by
    simp only [List.nil_append, List.cons_append, List.cons.injEq] at h
    exact absurd (by rw [h.1]; simp) hb
  | x :: a, [], r, q, ha, _, h => by
    simp only [List.nil_append, List.cons_append, List.cons.injEq] at h
    exact absurd (by rw [← h.1]; simp) ha
  | x :: a, y :: b, r, q, ha, hb, h => by
    simp only [List.cons_append, List.cons.injEq] at h
    obtain ⟨h1, h2⟩ := at_first (fun hh => ha (by simp [hh])) (fun hh => hb (by simp [hh])) h.2
    exact ⟨by rw [h.1, h1], h2⟩
theorem wrds_split : ∀ (ls ms : List Int) (q : List UInt8), (∀ l ∈ ls, isLit l = true) → (∀ l ∈ ms, isLit l = true) → wrds ms = wrds ls ++ q → ∃ ns, ms = ls ++ ns ∧ wrds ns = q
  | [], ms, q, _, _, h => ⟨ms, rfl, h⟩
  | l :: ls, [], q, hl, _, h => by
    rw [wrds_cons] at h
    have := congrArg List.length h
    simp [wrds] at this
  | l :: ls, m :: ms, q, hl, hm, h => by
    rw [wrds_cons, wrds_cons, List.append_assoc, List.cons_append] at h
    obtain ⟨h1, h2⟩ := at_first (itoa_no (Or.inl rfl) m) (itoa_no (Or.inl rfl) l) h
    obtain rfl := itoa_inj (hl l (by simp)) (hm m (by simp)) h1.symm
    obtain ⟨ns, rfl, h4⟩ := wrds_split ls ms q (fun x hx => hl x (by simp [hx])) (fun x hx => hm x (by simp [hx])) h2
    exact ⟨ns, rfl, h4⟩
theorem wrds_inj {ls ms : List Int} (hl : ∀ l ∈ ls, isLit l = true) (hm : ∀ l ∈ ms, isLit l = true) (h : wrds ls = wrds ms) : ls = ms := by
  obtain ⟨ns, rfl, h1⟩ := wrds_split ms ls [] hm hl (by rw [h, List.append_nil])
  cases ns with
  | nil => simp
  | cons n ns => rw [wrds_cons] at h1; simp at h1
/-- a row of words, with its end, begins with no 'd' -/
theorem wrds_head {ls : List Int} {b : UInt8} {r : List UInt8} (h : wrds ls ++ [48] = b :: r) : b ≠ 100 := by
  cases ls with
  | nil =>
    simp only [wrds, List.flatMap_nil, List.nil_append, List.cons.injEq] at h
    rw [← h.1]; decide
  | cons l ls =>
    rw [wrds_cons] at h
    rcases hx : Lib.itoa l with _ | ⟨x, t⟩
    · exact absurd hx (itoa_ne l)
    · rw [hx] at h
      simp only [List.cons_append, List.cons.injEq] at h
      have := itoa_bytes l x (by rw [hx]; simp)
      rw [h.1] at this
      rintro rfl
      revert this; decide
theorem line_inj {s t : Stp} (hs : stpRight s = true) (ht : stpRight t = true) (h : stpLine s = stpLine t) : s = t := by
  obtain ⟨d, ls⟩ := s
  obtain ⟨e, ms⟩ := t
  unfold stpLine at h
  have same : ∀ d : Bool, delTxt d ++ (wrds ls ++ [48]) = delTxt d ++ (wrds ms ++ [48]) → ls = ms := fun d h => by
    have h1 := List.append_cancel_right (List.append_cancel_left h)
    exact wrds_inj (stpRight_mem hs) (stpRight_mem ht) h1
  cases d <;> cases e
  · rw [same false h]
  · exact absurd rfl (wrds_head (show wrds ls ++ [48] = 100 :: (32 :: (wrds ms ++ [48])) from h))
  · exact absurd rfl (wrds_head (show wrds ms ++ [48] = 100 :: (32 :: (wrds ls ++ [48])) from h.symm))
  · rw [same true h]
theorem txtOf_split : ∀ (ps qs : List Stp) (q : List UInt8), stpsRight ps = true → stpsRight qs = true → txtOf qs = txtOf ps ++ q → ∃ ns, qs = ps ++ ns ∧ txtOf ns = q
  | [], qs, q, _, _, h => ⟨qs, rfl, h⟩
  | p :: ps, [], q, hp, _, h => by
    rw [txtOf_cons] at h
    have := congrArg List.length h
    simp [txtOf] at this
  | p :: ps, s :: qs, q, hp, hq, h => by
    rw [txtOf_cons, txtOf_cons, List.append_assoc, List.cons_append] at h
    rw [stpsRight_cons, Bool.and_eq_true] at hp hq
    obtain ⟨h1, h2⟩ := at_first (line_no s) (line_no p) h
    obtain rfl := line_inj hq.1 hp.1 h1
    obtain ⟨ns, rfl, h4⟩ := txtOf_split ps qs q hp.2 hq.2 h2
    exact ⟨ns, rfl, h4⟩
theorem txtOf_inj {ps qs : List Stp} (hp : stpsRight ps = true) (hq : stpsRight qs = true) (h : txtOf ps = txtOf qs) : ps = qs := by
  obtain ⟨ns, rfl, h1⟩ := txtOf_split qs ps [] hq hp (by rw [h, List.append_nil])
  cases ns with
  | nil => simp
  | cons n ns => rw [txtOf_cons] at h1; simp at h1

/-- what cutting at a mark gives -/
theorem cut_one (c : UInt8) (s : List UInt8) : (∃ a b, s = a ++ c :: b ∧ c ∉ a ∧ Lib.cut s [c] = (a, b, true)) ∨ (c ∉ s ∧ Lib.cut s [c] = (s, [], false)) := by
  unfold Lib.cut
  rw [Lib.index_one]
  have hge : -1 ≤ Lib.indexByte s c := by rw [← Lib.index_one]; exact Lib.index_ge s [c]
  rcases Int.lt_or_le (Lib.indexByte s c) 0 with hlt | hge0
  · right
    have hno := Lib.indexByte_none (l := s) (c := c) (by omega)
    refine ⟨fun hm => ?_, by rw [if_neg (by omega)]⟩
    obtain ⟨k, hk⟩ := List.getElem?_of_mem hm
    exact hno k hk
  · left
    obtain ⟨o, ho⟩ : ∃ o : Nat, Lib.indexByte s c = o := ⟨_, (Int.toNat_of_nonneg hge0).symm⟩
    obtain ⟨h1, h2⟩ := Lib.indexByte_some ho
    rw [ho, if_pos (by omega)]
    have hol : o < s.length := (List.getElem?_eq_some_iff.1 h1).1
    refine ⟨s.take o, s.drop (o + 1), ?_, fun hm => ?_, by simp⟩
    · have h3 : s[o] = c := (List.getElem?_eq_some_iff.1 h1).2
      conv => lhs; rw [← List.take_append_drop o s, List.drop_eq_getElem_cons hol, h3]
    · obtain ⟨k, hk⟩ := List.getElem?_of_mem hm
      rw [List.getElem?_take] at hk
      split at hk
      · rename_i hko; exact h2 k hko hk
      · cases hk

/-- a line's step, or none -/
inductive LineIs (line : List UInt8) : Option Stp → Prop
  | ok (s : Stp) : stpRight s = true → stpLine s = line → LineIs line (some s)
  | none : (∀ s, stpRight s = true → stpLine s ≠ line) → LineIs line none
/-- within a line: whether it deletes, whether it is ended, the words between -/
structure Between (line : List UInt8) (d ended : Bool) (mid : List UInt8) : Prop where
  only : ∀ s, stpRight s = true → stpLine s = line → s.1 = d ∧ ended = true ∧ wrds s.2 = mid
  back : ended = true → line = delTxt d ++ (mid ++ [48])
theorem between (line : List UInt8) : Between line (Lib.hasPrefix line [100, 32]) (Lib.hasSuffix (Lib.trimPrefix line [100, 32]) [48]) (Lib.trimSuffix (Lib.trimPrefix line [100, 32]) [48]) := by
  have hp : ∀ r, Lib.hasPrefix (100 :: 32 :: r) [100, 32] = true := fun r => by simp [Lib.hasPrefix, List.isPrefixOf]
  have hs : ∀ m : List UInt8, Lib.hasSuffix (m ++ [48]) [48] = true := fun m => by unfold Lib.hasSuffix; simp
  have ht : ∀ m : List UInt8, Lib.trimSuffix (m ++ [48]) [48] = m := fun m => by unfold Lib.trimSuffix; rw [if_pos (hs m)]; simp
  refine ⟨fun s hr he => ?_, fun hen => ?_⟩
  · obtain ⟨d, ls⟩ := s
    unfold stpLine at he
    cases d with
    | true =>
      have e1 : line = 100 :: 32 :: (wrds ls ++ [48]) := he.symm
      have e2 : Lib.trimPrefix line [100, 32] = wrds ls ++ [48] := by unfold Lib.trimPrefix; rw [e1, if_pos (hp _)]; rfl
      rw [e2, ht, hs, e1, hp]
      exact ⟨rfl, rfl, rfl⟩
    | false =>
      have e1 : line = wrds ls ++ [48] := he.symm
      have e3 : Lib.hasPrefix line [100, 32] = false := by
        rcases hx : line with _ | ⟨b, r⟩
        · rfl
        · rw [hx] at e1
          have := wrds_head e1.symm
          unfold Lib.hasPrefix
          rw [List.isPrefixOf, show ((100 : UInt8) == b) = false from beq_false_of_ne (Ne.symm this)]; rfl
      have e2 : Lib.trimPrefix line [100, 32] = wrds ls ++ [48] := by unfold Lib.trimPrefix; rw [e3]; simpa using e1
      rw [e2, ht, hs, e3]
      exact ⟨rfl, rfl, rfl⟩
  · have e1 : line = delTxt (Lib.hasPrefix line [100, 32]) ++ Lib.trimPrefix line [100, 32] := by
      unfold Lib.trimPrefix
      rcases hh : Lib.hasPrefix line [100, 32] with _ | _
      · rfl
      · rw [if_pos rfl]
        unfold Lib.hasPrefix at hh
        obtain ⟨t, rfl⟩ := List.isPrefixOf_iff_prefix.1 hh
        rfl
    have e2 : Lib.trimPrefix line [100, 32] = Lib.trimSuffix (Lib.trimPrefix line [100, 32]) [48] ++ [48] := by
      generalize Lib.trimPrefix line [100, 32] = m at hen
      unfold Lib.trimSuffix
      rw [if_pos hen]
      unfold Lib.hasSuffix at hen
      obtain ⟨t, rfl⟩ := List.isSuffixOf_iff_suffix.1 hen
      simp
    rw [← e2]; exact e1
/-- the words so far, and what is left, of a line's middle -/
theorem line_fail {line mid r : List UInt8} {d ended : Bool} {ls : List Int} (h : Between line d ended mid) (hl : ∀ l ∈ ls, isLit l = true) (hm : mid = wrds ls ++ r) (hr : r ≠ [])
    (hno : ∀ n q, isLit n = true → r ≠ Lib.itoa n ++ 32 :: q) : LineIs line none := by
  refine .none fun s hs he => ?_
  obtain ⟨_, _, h3⟩ := h.only s hs he
  obtain ⟨ns, h4, h5⟩ := wrds_split ls s.2 r hl (stpRight_mem hs) (by rw [h3, hm])
  cases ns with
  | nil => exact hr h5.symm
  | cons n ns =>
    rw [wrds_cons] at h5
    exact hno n _ (stpRight_mem hs n (by rw [h4]; simp)) h5.symm
theorem line_open {line mid : List UInt8} {d : Bool} (h : Between line d false mid) : LineIs line none :=
  .none fun s hs he => by have := (h.only s hs he).2.1; cases this
theorem line_ok {line mid : List UInt8} {d : Bool} {ls : List Int} (h : Between line d true mid) (hl : ∀ l ∈ ls, isLit l = true) (hm : mid = wrds ls) : LineIs line (some (d, ls)) :=
  .ok (d, ls) (List.all_eq_true.2 hl) (by rw [h.back rfl, hm]; rfl)

/-- what a text is: a proof's, or none -/
inductive TxtIs (s : List UInt8) : Option (List Stp) × Int → Prop
  | ok (ps : List Stp) : stpsRight ps = true → txtOf ps = s → TxtIs s (some ps, 0)
  | form : (∀ ps, stpsRight ps = true → txtOf ps ≠ s) → TxtIs s (none, 9)
/-- the steps so far, and what is left -/
theorem txt_fail {ps : List Stp} {s r : List UInt8} (hp : stpsRight ps = true) (hs : s = txtOf ps ++ r) (hr : r ≠ []) (hno : ∀ x q, stpRight x = true → r ≠ stpLine x ++ 10 :: q) : TxtIs s (none, 9) := by
  refine .form fun qs hq he => ?_
  obtain ⟨ns, rfl, h5⟩ := txtOf_split ps qs r hp hq (by rw [he, hs])
  cases ns with
  | nil => exact hr h5.symm
  | cons n ns =>
    rw [txtOf_cons] at h5
    rw [stpsRight_append, Bool.and_eq_true, stpsRight_cons, Bool.and_eq_true] at hq
    exact hno n _ hq.2.1 h5.symm
theorem txt_more {ps : List Stp} {x : Stp} {s a b : List UInt8} (hp : stpsRight ps = true) (hs : s = txtOf ps ++ (a ++ 10 :: b)) (hx : LineIs a (some x)) : stpsRight (ps ++ [x]) = true ∧ s = txtOf (ps ++ [x]) ++ b ∧ stpRight x = true := by
  rcases hx with ⟨_, hr, he⟩
  refine ⟨by rw [stpsRight_append, hp, stpsRight_cons, hr]; rfl, ?_, hr⟩
  rw [txtOf_snoc, he, hs]; simp
theorem txtOf_nil {ps : List Stp} (h : txtOf ps = []) : ps = [] := by
  cases ps with
  | nil => rfl
  | cons p ps => rw [txtOf_cons] at h; simp at h
end Go.Proofs.YtdehlikmefpgnaaDoor
