/- Blanks, remarks and where lines are broken play no part: plain mathematics. -/
import Derived.Test.YteolgfakhkeedaaDoorBackMath
namespace Go.Proofs.YteolgfakhkeedaaDoor
set_option linter.unusedSimpArgs false
set_option linter.unusedVariables false
set_option linter.unnecessarySimpa false

/-- what stands between two words -/
def gapText : Nat → List UInt8
  | 0 => [32]
  | 1 => [10]
  | 2 => [9]
  | 3 => [32, 32, 9, 32]
  | 4 => [10, 99, 99, 32, 49, 32, 50, 32, 48, 10]
  | _ => [10, 10]
theorem gapText_length (q : Nat) : (gapText q).length ≤ 10 := by rcases q with _ | _ | _ | _ | _ | q <;> simp [gapText]

theorem lines_more : ∀ (a cur b : List UInt8), (∀ x ∈ a, x ≠ 10) → linesFrom cur (a ++ b) = linesFrom (cur ++ a) b
  | [], cur, b, _ => by simp
  | x :: a, cur, b, h => by
    have hx : (x == 10) = false := by simpa using h x (by simp)
    rw [List.cons_append, linesFrom, hx]
    simp only [Bool.false_eq_true, if_false]
    rw [lines_more a (cur ++ [x]) b (fun y hy => h y (by simp [hy]))]
    simp
theorem takeItem_begun (r : Rd) (n : Int) : (takeItem r n).1.begun = r.begun := by
  unfold takeItem
  repeat' split
  all_goals rfl
theorem takeBody_append : ∀ (ws vs : List (List UInt8)) (r r' : Rd), takeBody r ws = (r', 0) → takeBody r (ws ++ vs) = takeBody r' vs
  | [], vs, r, r', h => by
    unfold takeBody at h
    obtain rfl := congrArg Prod.fst h
    rfl
  | w :: ws, vs, r, r', h => by
    have hu : ∀ us, takeBody r (w :: us) = (match itemOf w with | none => (r, 3) | some n => if (takeItem r n).2 = 0 then takeBody (takeItem r n).1 us else takeItem r n) := fun us => rfl
    rw [hu] at h
    rw [List.cons_append, hu]
    rcases hi : itemOf w with _ | m
    · rw [hi] at h
      exact absurd (congrArg Prod.snd h) (by show ¬ (3 : Int) = 0; decide)
    · rw [hi] at h
      simp only at h ⊢
      by_cases h0 : (takeItem r m).2 = 0
      · rw [if_pos h0] at h ⊢
        exact takeBody_append ws vs _ _ h
      · rw [if_neg h0] at h
        exact absurd (congrArg Prod.snd h) h0

/-- what is read of a line that is not ended, and what that comes to -/
structure Good (r : Rd) (cur : List UInt8) (r' : Rd) : Prop where
  begun : r.begun = true
  words : ∃ ws, (∀ x, wordsFrom [] (cur ++ x) = ws ++ wordsFrom [] x) ∧ takeBody r ws = (r', 0) ∧ (ws = [] ∨ skipLine ws = false)
theorem Good.empty {r : Rd} (h : r.begun = true) : Good r [] r := ⟨h, [], fun x => rfl, rfl, Or.inl rfl⟩
theorem skip_append {ws vs : List (List UInt8)} (h : ws = [] ∨ skipLine ws = false) (hv : skipLine vs = false) : skipLine (ws ++ vs) = false := by
  rcases h with rfl | h
  · exact hv
  · cases ws with
    | nil => exact absurd h (by decide)
    | cons x y => exact h
theorem takeBody_begun : ∀ (ws : List (List UInt8)) (r : Rd), (takeBody r ws).1.begun = r.begun
  | [], r => rfl
  | w :: ws, r => by
    unfold takeBody
    split
    · rfl
    · split
      · rw [takeBody_begun ws _, takeItem_begun]
      · exact takeItem_begun r _

/-- a word and what is behind it -/
theorem step_tok {r : Rd} {cur : List UInt8} {r' r'' : Rd} {tok : List UInt8} {m : Int} (q n : Nat) (rest : List UInt8) (h : Good r cur r') (h0 : tok ≠ []) (ht : ∀ b ∈ tok, isGap b = false ∧ b ≠ 10) (hc : tok.getD 0 0 ≠ 99)
    (hi : itemOf tok = some m) (hm : takeItem r' m = (r'', 0)) : ∃ r2 n2 cur2, Good r2 cur2 r'' ∧ parseFrom r n (linesFrom cur (tok ++ (gapText q ++ rest))) = parseFrom r2 n2 (linesFrom cur2 rest) := by
  obtain ⟨hb, ws, hw, hT, hs⟩ := h
  have hb' : r''.begun = true := by
    have h1 := takeItem_begun r' m
    have h2 := takeBody_begun ws r
    rw [hm] at h1
    rw [hT] at h2
    exact h1.trans (h2.trans hb)
  have hT2 : takeBody r (ws ++ [tok]) = (r'', 0) := by
    rw [takeBody_append ws [tok] r r' hT, takeBody, hi]
    simp only [hm, if_true]
    rfl
  have hsk : skipLine (ws ++ [tok]) = false := skip_append hs (by show (tok.getD 0 0 == 99) = false; exact beq_false_of_ne hc)
  have hgap : ∀ b ∈ tok, isGap b = false := fun b hb => (ht b hb).1
  have hgo : ∀ g : UInt8, ∀ gs : List UInt8, isGap g = true → (∀ x, wordsFrom [] (gs ++ x) = wordsFrom [] x) → Good r (cur ++ (tok ++ g :: gs)) r'' := fun g gs hg hgs => by
    refine ⟨hb, ws ++ [tok], fun x => ?_, hT2, Or.inr hsk⟩
    rw [List.append_assoc, hw, List.append_assoc, List.cons_append, words_one tok (gs ++ x) [] g hg hgap (by simpa using h0), hgs]
    simp
  have hline : ∀ t : List UInt8, parseFrom r n (linesFrom cur (tok ++ 10 :: t)) = parseFrom r'' (n + 1) (linesFrom [] t) := fun t => by
    have e : wordsOf (cur ++ tok) = ws ++ [tok] := by
      unfold wordsOf
      rw [hw tok, words_last tok [] hgap (by simpa using h0)]
      simp
    rw [lines_cut_hit tok cur t (fun b hb => (ht b hb).2), parseFrom_cons', e, hsk]
    have hL : takeLine r (ws ++ [tok]) = (r'', 0) := by unfold takeLine; rw [if_pos hb]; exact hT2
    rw [hL]
    simp
  have hstay : ∀ g : UInt8, ∀ gs : List UInt8, g ≠ 10 → (∀ x ∈ gs, x ≠ 10) → linesFrom cur (tok ++ (g :: gs ++ rest)) = linesFrom (cur ++ (tok ++ g :: gs)) rest := fun g gs h1 h2 => by
    rw [← List.append_assoc, lines_more (tok ++ g :: gs) cur rest]
    intro x hx
    rcases List.mem_append.1 hx with hx | hx
    · exact (ht x hx).2
    · rcases List.mem_cons.1 hx with rfl | hx
      · exact h1
      · exact h2 x hx
  rcases q with _ | _ | _ | _ | _ | q
  · exact ⟨r, n, _, hgo 32 [] (by decide) (fun x => rfl), by rw [show gapText 0 = 32 :: [] from rfl, hstay 32 [] (by decide) (by simp)]⟩
  · exact ⟨r'', n + 1, [], Good.empty hb', hline rest⟩
  · exact ⟨r, n, _, hgo 9 [] (by decide) (fun x => rfl), by rw [show gapText (0 + 1 + 1) = 9 :: [] from rfl, hstay 9 [] (by decide) (by simp)]⟩
  · exact ⟨r, n, _, hgo 32 [32, 9, 32] (by decide) (fun x => rfl), by rw [show gapText (0 + 1 + 1 + 1) = 32 :: [32, 9, 32] from rfl, hstay 32 [32, 9, 32] (by decide) (by simp)]⟩
  · refine ⟨r'', n + 1 + 1, [], Good.empty hb', ?_⟩
    rw [show gapText (0 + 1 + 1 + 1 + 1) ++ rest = 10 :: ([99, 99, 32, 49, 32, 50, 32, 48] ++ 10 :: rest) from rfl, hline, lines_cut_hit [99, 99, 32, 49, 32, 50, 32, 48] [] rest (by decide), parseFrom_cons', if_pos (by rfl)]
  · refine ⟨r'', n + 1 + 1, [], Good.empty hb', ?_⟩
    rw [show gapText (q + 1 + 1 + 1 + 1 + 1) ++ rest = 10 :: ([] ++ 10 :: rest) from rfl, hline, lines_cut_hit [] [] rest (by simp), parseFrom_cons', if_pos (by rfl)]

/-- the text -/
def blankLits (gp : Nat → Nat) : Nat → List Int → List UInt8
  | _, [] => []
  | k, l :: c => Lib.itoa l ++ (gapText (gp k) ++ blankLits gp (k + 1) c)
def blankClause (gp : Nat → Nat) (k : Nat) (c : List Int) : List UInt8 := blankLits gp k c ++ ([48] ++ gapText (gp (k + c.length)))
def blankClauses (gp : Nat → Nat) : Nat → List (List Int) → List UInt8
  | _, [] => []
  | k, c :: cls => blankClause gp k c ++ blankClauses gp (k + c.length + 1) cls
def blankHead (V n : Int) : List UInt8 := [99, 32, 102, 105, 114, 115, 116, 10, 10, 32, 32, 112, 32, 99, 110, 102, 32] ++ Lib.itoa V ++ [9] ++ Lib.itoa n ++ [32, 10]

theorem step_lits (gp : Nat → Nat) : ∀ (c : List Int) (k n : Nat) (r : Rd) (cur : List UInt8) (r' : Rd) (rest : List UInt8), Good r cur r' → ClauseOk r'.vars c → r'.vars ≤ 999999999 → (r'.cls.length : Int) ≠ r'.stated → r'.lits + c.length ≤ 1000000 →
    ∃ r2 n2 cur2, Good r2 cur2 { r' with opn := r'.opn ++ c } ∧ parseFrom r n (linesFrom cur (blankLits gp k c ++ rest)) = parseFrom r2 n2 (linesFrom cur2 rest)
  | [], k, n, r, cur, r', rest, h, _, _, _, _ => ⟨r, n, cur, by simpa using h, rfl⟩
  | l :: c, k, n, r, cur, r', rest, h, hc, hv, hs, hl => by
    obtain ⟨h0, h1⟩ := hc l (by simp)
    have hit := itemOf_itoa h0 (by omega) (by omega)
    have ht : takeItem r' l = ({ r' with opn := r'.opn ++ [l] }, 0) := by
      unfold takeItem
      rw [if_neg hs, if_neg h0, if_neg (by omega), if_neg (by simp at hl; omega)]
    have hp := itoa_plain l
    obtain ⟨r2, n2, cur2, hg, he⟩ := step_tok (gp k) n (blankLits gp (k + 1) c ++ rest) h hp.1 hp.2.1 hp.2.2 hit ht
    obtain ⟨r3, n3, cur3, hg3, he3⟩ := step_lits gp c (k + 1) n2 r2 cur2 { r' with opn := r'.opn ++ [l] } rest hg (fun x hx => hc x (by simp [hx])) hv hs (by unfold Rd.lits at hl ⊢; simp at hl ⊢; omega)
    refine ⟨r3, n3, cur3, by simpa using hg3, ?_⟩
    rw [show blankLits gp k (l :: c) ++ rest = Lib.itoa l ++ (gapText (gp k) ++ (blankLits gp (k + 1) c ++ rest)) by rw [blankLits]; simp, he, he3]

theorem step_clause (gp : Nat → Nat) {c : List Int} {r : Rd} {cur : List UInt8} {r' : Rd} (k n : Nat) (rest : List UInt8) (h : Good r cur r') (hc : ClauseOk r'.vars c) (hv : r'.vars ≤ 999999999) (hs : (r'.cls.length : Int) ≠ r'.stated) (hl : r'.lits + c.length ≤ 1000000) :
    ∃ r2 n2 cur2, Good r2 cur2 { r' with cls := r'.cls ++ [r'.opn ++ c], opn := [] } ∧ parseFrom r n (linesFrom cur (blankClause gp k c ++ rest)) = parseFrom r2 n2 (linesFrom cur2 rest) := by
  obtain ⟨r2, n2, cur2, hg, he⟩ := step_lits gp c k n r cur r' ([48] ++ gapText (gp (k + c.length)) ++ rest) h hc hv hs hl
  have ht : takeItem { r' with opn := r'.opn ++ c } 0 = ({ r' with cls := r'.cls ++ [r'.opn ++ c], opn := [] }, 0) := by
    unfold takeItem
    rw [if_neg hs]; simp
  obtain ⟨r3, n3, cur3, hg3, he3⟩ := step_tok (tok := [48]) (gp (k + c.length)) n2 rest hg (by decide) (by decide) (by decide) (show itemOf [48] = some 0 by decide) ht
  refine ⟨r3, n3, cur3, hg3, ?_⟩
  rw [show blankClause gp k c ++ rest = blankLits gp k c ++ ([48] ++ gapText (gp (k + c.length)) ++ rest) by unfold blankClause; simp, he, ← he3]
  simp

theorem step_clauses (gp : Nat → Nat) : ∀ (cls : List (List Int)) (k n : Nat) (r : Rd) (cur : List UInt8) (r' : Rd) (rest : List UInt8), Good r cur r' → r'.opn = [] → (∀ c ∈ cls, ClauseOk r'.vars c) → r'.vars ≤ 999999999 → (r'.cls.length : Int) + cls.length ≤ r'.stated →
    litCount r'.cls + litCount cls ≤ 1000000 → ∃ r2 n2 cur2, Good r2 cur2 { r' with cls := r'.cls ++ cls } ∧ parseFrom r n (linesFrom cur (blankClauses gp k cls ++ rest)) = parseFrom r2 n2 (linesFrom cur2 rest)
  | [], k, n, r, cur, r', rest, h, _, _, _, _, _ => ⟨r, n, cur, by simpa using h, rfl⟩
  | c :: cls, k, n, r, cur, r', rest, h, ho, hc, hv, hs, hl => by
    have hl2 : litCount (c :: cls) = c.length + litCount cls := by unfold litCount; simp
    have hlits : r'.lits = litCount r'.cls := by unfold Rd.lits; rw [ho]; simp
    obtain ⟨r2, n2, cur2, hg, he⟩ := step_clause gp k n (blankClauses gp (k + c.length + 1) cls ++ rest) h (hc c (by simp)) hv (by simp at hs; omega) (by omega)
    have hg' : Good r2 cur2 { r' with cls := r'.cls ++ [c], opn := [] } := by rw [ho] at hg; simpa using hg
    obtain ⟨r3, n3, cur3, hg3, he3⟩ := step_clauses gp cls (k + c.length + 1) n2 r2 cur2 { r' with cls := r'.cls ++ [c], opn := [] } rest hg' rfl (fun x hx => hc x (by simp [hx])) hv (by simp at hs ⊢; omega) (by rw [litCount_snoc]; omega)
    refine ⟨r3, n3, cur3, ?_, ?_⟩
    · have e : ({ r' with cls := r'.cls ++ [c] ++ cls, opn := [] } : Rd) = { r' with cls := r'.cls ++ (c :: cls) } := by rw [← ho]; simp
      rw [← e]; exact hg3
    · rw [show blankClauses gp k (c :: cls) ++ rest = blankClause gp k c ++ (blankClauses gp (k + c.length + 1) cls ++ rest) by rw [blankClauses]; simp, he, he3]

/-- where nothing is behind -/
theorem good_end {r : Rd} {cur : List UInt8} {r' : Rd} (n : Nat) (h : Good r cur r') : parseFrom r n (linesFrom cur []) = parseFrom r' (n + 1) [] := by
  obtain ⟨hb, ws, hw, hT, hs⟩ := h
  have e : wordsOf cur = ws := by
    have := hw []
    rw [List.append_nil] at this
    unfold wordsOf
    rw [this]; simp [wordsFrom]
  rw [show linesFrom cur [] = [cur] from rfl, parseFrom_cons', e]
  rcases hs with rfl | hs
  · obtain rfl : r = r' := congrArg Prod.fst hT
    rw [if_pos (by rfl)]
  · have hL : takeLine r ws = (r', 0) := by unfold takeLine; rw [if_pos hb]; exact hT
    rw [hs, hL]; simp

theorem words_blankHead (V n : Int) : wordsOf ([32, 32, 112, 32, 99, 110, 102, 32] ++ Lib.itoa V ++ [9] ++ Lib.itoa n ++ [32]) = [[112], [99, 110, 102], Lib.itoa V, Lib.itoa n] := by
  have h1 := itoa_plain V
  have h2 := itoa_plain n
  have e : [32, 32, 112, 32, 99, 110, 102, 32] ++ Lib.itoa V ++ [9] ++ Lib.itoa n ++ [32] = 32 :: 32 :: ([112] ++ 32 :: ([99, 110, 102] ++ 32 :: (Lib.itoa V ++ 9 :: (Lib.itoa n ++ 32 :: [])))) := by simp
  unfold wordsOf
  rw [e, wordsFrom_cons, if_pos (by decide), if_pos (by rfl), wordsFrom_cons, if_pos (by decide), if_pos (by rfl), words_one [112] _ [] 32 (by decide) (by decide) (by decide), words_one [99, 110, 102] _ [] 32 (by decide) (by decide) (by decide),
    words_one (Lib.itoa V) _ [] 9 (by decide) (fun b hb => (h1.2.1 b hb).1) (by simpa using h1.1), words_one (Lib.itoa n) _ [] 32 (by decide) (fun b hb => (h2.2.1 b hb).1) (by simpa using h2.1)]
  simp [wordsFrom]

/-- P3.3: blanks, remarks and where lines are broken play no part -/
theorem parse_blanks (gp : Nat → Nat) {V : Int} {cls : List (List Int)} (hV0 : 0 ≤ V) (hV : V ≤ 100000) (hn : cls.length ≤ 200000) (hc : ∀ c ∈ cls, ClauseOk V c) (hl : litCount cls ≤ 1000000) :
    parseOf (blankHead V cls.length ++ blankClauses gp 0 cls) = .ok V cls := by
  have hp1 := itoa_plain V
  have hp2 := itoa_plain cls.length
  have e : blankHead V cls.length ++ blankClauses gp 0 cls = [99, 32, 102, 105, 114, 115, 116] ++ 10 :: ([] ++ 10 :: (([32, 32, 112, 32, 99, 110, 102, 32] ++ Lib.itoa V ++ [9] ++ Lib.itoa cls.length ++ [32]) ++ 10 :: (blankClauses gp 0 cls ++ []))) := by unfold blankHead; simp
  have hpl : ∀ b ∈ ([32, 32, 112, 32, 99, 110, 102, 32] ++ Lib.itoa V ++ [9] ++ Lib.itoa cls.length ++ [32] : List UInt8), b ≠ 10 := by
    intro b hb
    simp only [List.mem_append] at hb
    rcases hb with (((hb | hb) | hb) | hb) | hb
    · intro e; subst e; revert hb; decide
    · exact (hp1.2.1 b hb).2
    · simp at hb; subst hb; decide
    · exact (hp2.2.1 b hb).2
    · simp at hb; subst hb; decide
  unfold parseOf linesOf
  rw [e, lines_cut_hit [99, 32, 102, 105, 114, 115, 116] [] _ (by decide), parseFrom_cons', if_pos (by rfl), lines_cut_hit [] [] _ (by simp), parseFrom_cons', if_pos (by rfl), lines_cut_hit _ [] _ hpl, List.nil_append, parseFrom_cons', words_blankHead]
  have hs : skipLine [[112], [99, 110, 102], Lib.itoa V, Lib.itoa cls.length] = false := rfl
  have hT : takeLine Rd.start [[112], [99, 110, 102], Lib.itoa V, Lib.itoa cls.length] = ({ begun := true, stated := cls.length, vars := V, cls := [], opn := [] }, 0) := by
    unfold takeLine takeHeader
    have hh := header_head hV0 (show V ≤ 999999999 by omega) (show (0 : Int) ≤ cls.length by omega) (show (cls.length : Int) ≤ 999999999 by omega)
    rw [words_head] at hh
    rw [hh]
    simp [Rd.start]
    omega
  rw [hs, hT]
  simp only [Bool.false_eq_true, if_false, if_true]
  obtain ⟨r2, n2, cur2, hg, he⟩ := step_clauses gp cls 0 (0 + 1 + 1 + 1) { begun := true, stated := cls.length, vars := V, cls := [], opn := [] } [] { begun := true, stated := cls.length, vars := V, cls := [], opn := [] } [] (Good.empty rfl) rfl hc (by simp; omega) (by simp) (by simpa [litCount] using hl)
  rw [he, good_end n2 hg]
  simp [parseFrom, endErr]

/-- the text grows word by word -/
theorem blankLits_take (gp : Nat → Nat) : ∀ (c : List Int) (k j : Nat), j < c.length → blankLits gp k (c.take (j + 1)) = blankLits gp k (c.take j) ++ (Lib.itoa (c.getD j 0) ++ gapText (gp (k + j)))
  | [], k, j, h => by simp at h
  | l :: c, k, 0, h => by simp [blankLits]
  | l :: c, k, j + 1, h => by
    have ih := blankLits_take gp c (k + 1) j (by simpa using h)
    rw [List.take_succ_cons, List.take_succ_cons, blankLits, blankLits, ih]
    simp only [List.append_assoc, List.getD_cons_succ]
    rw [show k + 1 + j = k + (j + 1) by omega]
theorem blankClauses_take (gp : Nat → Nat) : ∀ (cls : List (List Int)) (k j : Nat), j < cls.length → blankClauses gp k (cls.take (j + 1)) = blankClauses gp k (cls.take j) ++ blankClause gp (k + litCount (cls.take j) + j) (cls.getD j [])
  | [], k, j, h => by simp at h
  | c :: cls, k, 0, h => by simp [blankClauses, litCount]
  | c :: cls, k, j + 1, h => by
    have ih := blankClauses_take gp cls (k + c.length + 1) j (by simpa using h)
    have e : litCount (c :: cls.take j) = c.length + litCount (cls.take j) := by unfold litCount; simp
    rw [List.take_succ_cons, List.take_succ_cons, blankClauses, blankClauses, ih, e]
    simp only [List.append_assoc, List.getD_cons_succ]
    rw [show k + c.length + 1 + litCount (cls.take j) + j = k + (c.length + litCount (cls.take j)) + (j + 1) by omega]
theorem blankLits_len (gp : Nat → Nat) : ∀ (c : List Int) (k : Nat), (∀ l ∈ c, -9223372036854775808 ≤ l ∧ l ≤ 9223372036854775807) → (blankLits gp k c).length ≤ 32 * c.length
  | [], k, _ => by simp [blankLits]
  | l :: c, k, h => by
    have h1 := Lib.itoa_length_le l (h l (by simp)).1 (h l (by simp)).2
    have h2 := blankLits_len gp c (k + 1) (fun x hx => h x (by simp [hx]))
    have h3 := gapText_length (gp k)
    rw [blankLits]; simp; omega
theorem blankClauses_len (gp : Nat → Nat) : ∀ (cls : List (List Int)) (k : Nat), (∀ c ∈ cls, ∀ l ∈ c, -9223372036854775808 ≤ l ∧ l ≤ 9223372036854775807) → (blankClauses gp k cls).length ≤ 32 * litCount cls + 11 * cls.length
  | [], k, _ => by simp [blankClauses]
  | c :: cls, k, h => by
    have h1 := blankLits_len gp c k (h c (by simp))
    have h2 := blankClauses_len gp cls (k + c.length + 1) (fun x hx => h x (by simp [hx]))
    have h3 := gapText_length (gp (k + c.length))
    have e : litCount (c :: cls) = c.length + litCount cls := by unfold litCount; simp
    rw [blankClauses, blankClause, e]; simp; omega
end Go.Proofs.YteolgfakhkeedaaDoor
