/- A formula's text has that formula: plain mathematics. -/
import Derived.Test.YtnjcegjcaaplgaaGreatDoorPrintMath
import Derived.Lib.ItoaMem
namespace Go.Proofs.YtnjcegjcaaplgaaGreatDoor
set_option linter.unusedSimpArgs false
set_option linter.unusedVariables false
set_option linter.unnecessarySimpa false

theorem parseFrom_cons' (r : Rd) (n : Nat) (l : List UInt8) (ls : List (List UInt8)) : parseFrom r n (l :: ls) = if skipLine (wordsOf l) then parseFrom r (n + 1) ls
    else if (takeLine r (wordsOf l)).2 = 0 then parseFrom (takeLine r (wordsOf l)).1 (n + 1) ls else .bad (n + 1) (takeLine r (wordsOf l)).2 := rfl
theorem u8_digit {k : Nat} (h : k ≤ 9) : (UInt8.ofNat (48 + k)).toNat = 48 + k := by simp; omega
/-- the digits of a number -/
theorem dec_facts : ∀ u : Nat, (∀ b ∈ Lib.decDigits u, digit b = true) ∧ 1 ≤ (Lib.decDigits u).length ∧ ((Lib.decDigits u).length = 1 ∨ (Lib.decDigits u).getD 0 0 ≠ 48) ∧ numVal (Lib.decDigits u) = u ∧ (u ≤ 999999999 → (Lib.decDigits u).length ≤ 9) ∧ (Lib.decDigits u).length ≤ u + 1 := by
  intro u
  induction u using Nat.strongRecOn with
  | _ u ih =>
    by_cases h : u < 10
    · rw [Lib.decDigits, dif_pos h]
      have e := u8_digit (k := u) (by omega)
      refine ⟨?_, by simp, by simp, ?_, by simp, by simp⟩
      · intro b hb
        simp only [List.mem_singleton] at hb
        subst hb
        unfold digit
        rw [e]; simp; omega
      · unfold numVal
        simp only [List.foldl_cons, List.foldl_nil]
        rw [e]; push_cast; omega
    · obtain ⟨h1, h2, h3, h4, h5, h6⟩ := ih (u / 10) (by omega)
      rw [Lib.decDigits, dif_neg h]
      have e := u8_digit (k := u % 10) (by omega)
      have hpos : 0 < u / 10 := by omega
      refine ⟨?_, by simp, ?_, ?_, ?_, ?_⟩
      · intro b hb
        rw [List.mem_append] at hb
        rcases hb with hb | hb
        · exact h1 b hb
        · simp only [List.mem_singleton] at hb
          subst hb
          unfold digit
          rw [e]; simp; omega
      · right
        rcases hd : Lib.decDigits (u / 10) with _ | ⟨x, l⟩
        · rw [hd] at h2; simp at h2
        · rw [hd] at h3
          show x ≠ 48
          rcases h3 with h3 | h3
          · have hl : l = [] := List.eq_nil_of_length_eq_zero (by simpa using h3)
            subst hl
            rw [hd] at h4
            unfold numVal at h4
            simp only [List.foldl_cons, List.foldl_nil] at h4
            intro hx
            rw [hx] at h4
            have : ((48 : UInt8).toNat : Int) = 48 := rfl
            rw [this] at h4
            omega
          · exact h3
      · unfold numVal at h4 ⊢
        rw [List.foldl_append, h4]
        simp only [List.foldl_cons, List.foldl_nil]
        rw [e]; push_cast; omega
      · intro hu
        have : (Lib.decDigits (u / 10)).length ≤ 8 := by
          rcases Nat.lt_or_ge u 100 with h' | h'
          · have := h6
            rcases hq : u / 10 with _ | q
            · omega
            · rw [Lib.decDigits, dif_pos (by omega)]; simp
          · rw [Lib.decDigits_length]
            have aux : ∀ (k v : Nat), v < 10 ^ (k + 1) → Lib.nDigits v ≤ k + 1 := by
              intro k
              induction k with
              | zero => intro v hv; rw [Lib.nDigits, dif_pos (by simpa using hv)]; omega
              | succ k ihk =>
                intro v hv
                rw [Lib.nDigits]
                split
                · omega
                · have := ihk (v / 10) (by rw [Nat.pow_succ] at hv; omega)
                  omega
            exact aux 7 (u / 10) (by omega)
        simp; omega
      · simp; omega
theorem numOf_dec {u : Nat} (h : u ≤ 999999999) : numOf (Lib.decDigits u) = some (u : Int) := by
  obtain ⟨h1, h2, h3, h4, h5, _⟩ := dec_facts u
  unfold numOf isNum
  rw [decide_eq_true ⟨h2, h5 h, h3⟩, List.all_eq_true.2 h1]
  simp [h4]
theorem numOf_itoa {n : Int} (h0 : 0 ≤ n) (h : n ≤ 999999999) : numOf (Lib.itoa n) = some n := by
  obtain ⟨u, rfl⟩ : ∃ u : Nat, n = u := ⟨n.toNat, by omega⟩
  rw [Lib.itoa_nonneg]
  exact numOf_dec (by omega)
theorem dec_first (u : Nat) : (Lib.decDigits u).getD 0 0 ≠ 45 ∧ (Lib.decDigits u).getD 0 0 ≠ 99 := by
  obtain ⟨h1, h2, _⟩ := dec_facts u
  rcases hd : Lib.decDigits u with _ | ⟨x, l⟩
  · rw [hd] at h2; simp at h2
  · have := h1 x (by rw [hd]; simp)
    unfold digit at this
    simp at this
    constructor
    · intro e; have h9 : x = 45 := e; subst h9; revert this; decide
    · intro e; have h9 : x = 99 := e; subst h9; revert this; decide
theorem itemOf_itoa {n : Int} (h0 : n ≠ 0) (h1 : -999999999 ≤ n) (h2 : n ≤ 999999999) : itemOf (Lib.itoa n) = some n := by
  by_cases hn : n < 0
  · obtain ⟨u, rfl⟩ : ∃ u : Nat, n = -(u : Int) := ⟨n.natAbs, by omega⟩
    rw [Lib.itoa_neg u (by omega)]
    unfold itemOf
    rw [if_pos (by rfl), show (45 :: Lib.decDigits u).drop 1 = Lib.decDigits u from rfl, numOf_dec (by omega)]
    simp; omega
  · obtain ⟨u, rfl⟩ : ∃ u : Nat, n = u := ⟨n.toNat, by omega⟩
    rw [Lib.itoa_nonneg]
    unfold itemOf
    rw [if_neg (dec_first u).1, numOf_dec (by omega)]
/-- no gap, no end of a line, and no c at the front -/
theorem itoa_plain (n : Int) : Lib.itoa n ≠ [] ∧ (∀ b ∈ Lib.itoa n, isGap b = false ∧ b ≠ 10) ∧ (Lib.itoa n).getD 0 0 ≠ 99 := by
  have hd : ∀ b : UInt8, digit b = true → isGap b = false ∧ b ≠ 10 := by
    intro b hb
    unfold digit at hb
    simp at hb
    unfold isGap
    constructor
    · simp [← UInt8.toNat_inj]; omega
    · intro e; subst e; revert hb; decide
  unfold Lib.itoa
  split
  · refine ⟨by simp, ?_, by simp⟩
    intro b hb
    rcases List.mem_cons.1 hb with rfl | hb
    · decide
    · exact hd b ((dec_facts _).1 b hb)
  · refine ⟨?_, fun b hb => hd b ((dec_facts _).1 b hb), (dec_first _).2⟩
    intro e
    have := (dec_facts n.toNat).2.1
    rw [e] at this
    simp at this

/-- words, one by one -/
theorem words_one : ∀ (x r cur : List UInt8) (g : UInt8), isGap g = true → (∀ b ∈ x, isGap b = false) → cur ++ x ≠ [] → wordsFrom cur (x ++ g :: r) = (cur ++ x) :: wordsFrom [] r
  | [], r, cur, g, hg, _, hne => by
    rw [List.nil_append, wordsFrom_cons, if_pos hg, if_neg (by cases cur <;> simp_all)]
    simp
  | b :: x, r, cur, g, hg, h, _ => by
    rw [List.cons_append, wordsFrom_cons, if_neg (by simp [h b (by simp)]), words_one x r (cur ++ [b]) g hg (fun y hy => h y (by simp [hy])) (by simp)]
    simp
theorem words_last : ∀ (x cur : List UInt8), (∀ b ∈ x, isGap b = false) → cur ++ x ≠ [] → wordsFrom cur x = [cur ++ x]
  | [], cur, _, hne => by cases cur <;> simp_all [wordsFrom]
  | b :: x, cur, h, _ => by
    rw [wordsFrom_cons, if_neg (by simp [h b (by simp)]), words_last x (cur ++ [b]) (fun y hy => h y (by simp [hy])) (by simp)]
    simp
/-- a clause's line, and its words -/
def clauseLine (c : List Int) : List UInt8 := litsText c ++ [48]
theorem words_clause : ∀ c : List Int, wordsOf (clauseLine c) = c.map Lib.itoa ++ [[48]]
  | [] => by rfl
  | l :: c => by
    have hp := itoa_plain l
    have e : clauseLine (l :: c) = Lib.itoa l ++ 32 :: clauseLine c := by unfold clauseLine litsText; simp
    unfold wordsOf
    rw [e, words_one _ _ [] 32 (by decide) (fun b hb => (hp.2.1 b hb).1) (by simpa using hp.1)]
    have ih := words_clause c
    unfold wordsOf at ih
    rw [ih]; simp
theorem clauseLine_plain (c : List Int) : ∀ b ∈ clauseLine c, b ≠ 10 := by
  intro b hb
  unfold clauseLine litsText at hb
  rw [List.mem_append] at hb
  rcases hb with hb | hb
  · obtain ⟨l, _, hb⟩ := List.mem_flatMap.1 hb
    rw [List.mem_append] at hb
    rcases hb with hb | hb
    · exact ((itoa_plain l).2.1 b hb).2
    · simp at hb; subst hb; decide
  · simp at hb; subst hb; decide
def headLine (V n : Int) : List UInt8 := [112, 32, 99, 110, 102, 32] ++ Lib.itoa V ++ [32] ++ Lib.itoa n
theorem headLine_plain (V n : Int) : ∀ b ∈ headLine V n, b ≠ 10 := by
  intro b hb
  unfold headLine at hb
  simp only [List.mem_append] at hb
  rcases hb with ((hb | hb) | hb) | hb
  · intro e; subst e; revert hb; decide
  · exact ((itoa_plain V).2.1 b hb).2
  · simp at hb; subst hb; decide
  · exact ((itoa_plain n).2.1 b hb).2
theorem words_head (V n : Int) : wordsOf (headLine V n) = [[112], [99, 110, 102], Lib.itoa V, Lib.itoa n] := by
  have h1 := itoa_plain V
  have h2 := itoa_plain n
  have e : headLine V n = [112] ++ 32 :: ([99, 110, 102] ++ 32 :: (Lib.itoa V ++ 32 :: Lib.itoa n)) := by unfold headLine; simp
  unfold wordsOf
  rw [e, words_one [112] _ [] 32 (by decide) (by decide) (by decide), words_one [99, 110, 102] _ [] 32 (by decide) (by decide) (by decide),
    words_one (Lib.itoa V) _ [] 32 (by decide) (fun b hb => (h1.2.1 b hb).1) (by simpa using h1.1), words_last (Lib.itoa n) [] (fun b hb => (h2.2.1 b hb).1) (by simpa using h2.1)]
  simp
theorem header_head {V n : Int} (hV0 : 0 ≤ V) (hV : V ≤ 999999999) (hn0 : 0 ≤ n) (hn : n ≤ 999999999) : headerOf (wordsOf (headLine V n)) = some (V, n) := by
  rw [words_head]
  unfold headerOf
  simp [numOf_itoa hV0 hV, numOf_itoa hn0 hn]
theorem lines_form (V : Int) (cls : List (List Int)) (rest : List UInt8) : linesFrom [] (formText V cls ++ rest) = headLine V cls.length :: (cls.map clauseLine ++ linesFrom [] rest) := by
  have e : formText V cls ++ rest = headLine V cls.length ++ 10 :: (clausesText cls ++ rest) := by unfold formText headText headLine; simp
  rw [e, lines_cut_hit _ [] _ (headLine_plain V cls.length)]
  have aux : ∀ cls : List (List Int), linesFrom [] (clausesText cls ++ rest) = cls.map clauseLine ++ linesFrom [] rest := by
    intro cls
    induction cls with
    | nil => rfl
    | cons c cls ih =>
      have e2 : clausesText (c :: cls) ++ rest = clauseLine c ++ 10 :: (clausesText cls ++ rest) := by unfold clausesText clauseText clauseLine; simp
      rw [e2, lines_cut_hit _ [] _ (clauseLine_plain c), ih]
      simp
  rw [aux]; simp

/-- literals that may be -/
def ClauseOk (V : Int) (c : List Int) : Prop := ∀ l ∈ c, l ≠ 0 ∧ (l.natAbs : Int) ≤ V
theorem takeBody_lits : ∀ (c : List Int) (r : Rd) (ws : List (List UInt8)), ClauseOk r.vars c → r.vars ≤ 999999999 → (r.cls.length : Int) ≠ r.stated → r.lits + c.length ≤ 1000000 →
    takeBody r (c.map Lib.itoa ++ ws) = takeBody { r with opn := r.opn ++ c } ws
  | [], r, ws, _, _, _, _ => by simp
  | l :: c, r, ws, hc, hv, hs, hl => by
    obtain ⟨h0, h1⟩ := hc l (by simp)
    have hit := itemOf_itoa h0 (by omega) (by omega)
    have ht : takeItem r l = ({ r with opn := r.opn ++ [l] }, 0) := by
      unfold takeItem
      rw [if_neg hs, if_neg h0, if_neg (by omega), if_neg (by simp at hl; omega)]
    have ih := takeBody_lits c { r with opn := r.opn ++ [l] } ws (fun x hx => hc x (by simp [hx])) hv hs (by unfold Rd.lits at hl ⊢; simp at hl ⊢; omega)
    rw [List.map_cons, List.cons_append, takeBody, hit]
    simp only [ht, if_true]
    rw [ih]
    simp
theorem takeBody_clause {c : List Int} {r : Rd} (ws : List (List UInt8)) (hc : ClauseOk r.vars c) (hv : r.vars ≤ 999999999) (hs : (r.cls.length : Int) ≠ r.stated) (hl : r.lits + c.length ≤ 1000000) :
    takeBody r ((c.map Lib.itoa ++ [[48]]) ++ ws) = takeBody { r with cls := r.cls ++ [r.opn ++ c], opn := [] } ws := by
  rw [List.append_assoc, takeBody_lits c r ([[48]] ++ ws) hc hv hs hl]
  have h48 : itemOf [48] = some 0 := by decide
  have ht : takeItem { r with opn := r.opn ++ c } 0 = ({ r with cls := r.cls ++ [r.opn ++ c], opn := [] }, 0) := by
    unfold takeItem
    rw [if_neg hs]; simp
  rw [List.singleton_append, takeBody, h48]
  simp only [ht, if_true]
theorem skip_clause (c : List Int) : skipLine (wordsOf (clauseLine c)) = false := by
  rw [words_clause]
  rcases c with _ | ⟨l, c⟩
  · rfl
  · have := (itoa_plain l).2.2
    show ((Lib.itoa l).getD 0 0 == 99) = false
    exact beq_false_of_ne this
theorem litCount_snoc (cls : List (List Int)) (c : List Int) : litCount (cls ++ [c]) = litCount cls + c.length := by unfold litCount; simp
/-- clauses' lines, one by one -/
theorem parse_clauses : ∀ (cls : List (List Int)) (r : Rd) (n : Nat) (rest : List (List UInt8)), r.begun = true → r.opn = [] → (∀ c ∈ cls, ClauseOk r.vars c) → r.vars ≤ 999999999 → (r.cls.length : Int) + cls.length ≤ r.stated →
    litCount r.cls + litCount cls ≤ 1000000 → parseFrom r n (cls.map clauseLine ++ rest) = parseFrom { r with cls := r.cls ++ cls } (n + cls.length) rest
  | [], r, n, rest, _, _, _, _, _, _ => by simp
  | c :: cls, r, n, rest, hb, ho, hc, hv, hs, hl => by
    have hl2 : litCount (c :: cls) = c.length + litCount cls := by unfold litCount; simp
    have hlits : r.lits = litCount r.cls := by unfold Rd.lits; rw [ho]; simp
    have hT : takeLine r (wordsOf (clauseLine c)) = ({ r with cls := r.cls ++ [c], opn := [] }, 0) := by
      unfold takeLine
      rw [if_pos hb, words_clause]
      have := takeBody_clause (c := c) (r := r) [] (hc c (by simp)) hv (by simp at hs; omega) (by omega)
      rw [List.append_nil] at this
      rw [this, ho]; rfl
    have ih := parse_clauses cls { r with cls := r.cls ++ [c], opn := [] } (n + 1) rest hb rfl (fun x hx => hc x (by simp [hx])) hv (by simp at hs ⊢; omega) (by rw [litCount_snoc]; omega)
    rw [List.map_cons, List.cons_append, parseFrom_cons', skip_clause]
    simp only [Bool.false_eq_true, if_false, hT, if_true]
    rw [ih]
    have e : ({ r with cls := r.cls ++ [c] ++ cls, opn := [] } : Rd) = { r with cls := r.cls ++ (c :: cls) } := by rw [← ho]; simp
    simp only [List.length_cons]
    rw [show n + 1 + cls.length = n + (cls.length + 1) by omega]
    exact congrArg (fun x => parseFrom x (n + (cls.length + 1)) rest) e
/-- a whole formula's text, with lines behind it -/
theorem parse_form {V : Int} {cls : List (List Int)} (n : Nat) (rest : List UInt8) (hV0 : 0 ≤ V) (hV : V ≤ 100000) (hn : cls.length ≤ 200000) (hc : ∀ c ∈ cls, ClauseOk V c) (hl : litCount cls ≤ 1000000) :
    parseFrom Rd.start n (linesFrom [] (formText V cls ++ rest)) = parseFrom { begun := true, stated := cls.length, vars := V, cls := cls, opn := [] } (n + 1 + cls.length) (linesFrom [] rest) := by
  rw [lines_form, parseFrom_cons']
  have hs : skipLine (wordsOf (headLine V cls.length)) = false := by rw [words_head]; rfl
  have hT : takeLine Rd.start (wordsOf (headLine V cls.length)) = ({ begun := true, stated := cls.length, vars := V, cls := [], opn := [] }, 0) := by
    unfold takeLine takeHeader
    rw [header_head hV0 (by omega) (by omega) (by omega)]
    simp [Rd.start]
    omega
  rw [hs, hT]
  simp only [Bool.false_eq_true, if_false, if_true]
  rw [parse_clauses cls { begun := true, stated := cls.length, vars := V, cls := [], opn := [] } (n + 1) (linesFrom [] rest) rfl rfl hc (by simp; omega) (by simp) (by simpa [litCount] using hl)]
  simp
/-- P3.2: a formula's text has that formula -/
theorem parse_back {V : Int} {cls : List (List Int)} (hV0 : 0 ≤ V) (hV : V ≤ 100000) (hn : cls.length ≤ 200000) (hc : ∀ c ∈ cls, ClauseOk V c) (hl : litCount cls ≤ 1000000) : parseOf (formText V cls) = .ok V cls := by
  have := parse_form 0 [] hV0 hV hn hc hl
  rw [List.append_nil] at this
  unfold parseOf linesOf
  rw [this]
  show parseFrom _ _ [[]] = _
  rw [parseFrom_cons']
  simp [skipLine, wordsOf, wordsFrom, parseFrom, endErr]
end Go.Proofs.YtnjcegjcaaplgaaGreatDoor
