/- A store of clauses as plain mathematics: its words, which clause begins at a number, what a change of one leaves. No program is named here. -/
namespace Go.Proofs.Ytbejjddkndcldaa

structure Cl where
  lits : List Int
  learned : Bool
  glue : Int
  uses : Int
  alive : Bool

def Cl.head (c : Cl) : Int := 2 * (c.lits.length : Int) + if c.learned then 1 else 0
def Cl.words (c : Cl) : List Int := c.head :: c.glue :: c.uses :: c.lits
def Cl.size (c : Cl) : Nat := c.lits.length + 3
def wordsOf (cs : List Cl) : List Int := cs.flatMap Cl.words
def total (cs : List Cl) : Nat := (wordsOf cs).length
def countOf (cs : List Cl) : Nat := (cs.filter (·.alive)).length

/-- the clause that begins at x and is there -/
def at? : List Cl → Int → Option Cl
  | [], _ => none
  | c :: r, x => if x = 0 then (if c.alive then some c else none) else at? r (x - c.size)

/-- the clauses with the one that begins at x changed -/
def modAt (f : Cl → Cl) : List Cl → Int → List Cl
  | [], _ => []
  | c :: r, x => if x = 0 then f c :: r else c :: modAt f r (x - c.size)

theorem Cl.words_length (c : Cl) : c.words.length = c.size := by simp [Cl.words, Cl.size]
theorem Cl.size_pos (c : Cl) : 3 ≤ c.size := by simp [Cl.size]
theorem wordsOf_nil : wordsOf [] = [] := rfl
theorem wordsOf_cons (c : Cl) (r : List Cl) : wordsOf (c :: r) = c.words ++ wordsOf r := by simp [wordsOf]
theorem wordsOf_append (a b : List Cl) : wordsOf (a ++ b) = wordsOf a ++ wordsOf b := by simp [wordsOf]
theorem wordsOf_snoc (a : List Cl) (c : Cl) : wordsOf (a ++ [c]) = wordsOf a ++ c.words := by simp [wordsOf]
theorem total_nil : total [] = 0 := rfl
theorem total_cons (c : Cl) (r : List Cl) : total (c :: r) = c.size + total r := by simp [total, wordsOf_cons, Cl.words_length]
theorem total_append (a b : List Cl) : total (a ++ b) = total a + total b := by simp [total, wordsOf_append]
theorem total_snoc (a : List Cl) (c : Cl) : total (a ++ [c]) = total a + c.size := by simp [total, wordsOf_snoc, Cl.words_length]
theorem length_le_total (cs : List Cl) : 3 * cs.length ≤ total cs := by
  induction cs with
  | nil => simp
  | cons c r ih => rw [total_cons]; have := c.size_pos; simp; omega

theorem at?_neg (cs : List Cl) : ∀ (x : Int), x < 0 → at? cs x = none := by
  induction cs with
  | nil => intro x _; rfl
  | cons c r ih => intro x h; unfold at?; rw [if_neg (by omega)]; exact ih _ (by omega)
/-- the one that begins behind pre -/
theorem at?_mid (pre : List Cl) (c : Cl) (post : List Cl) : at? (pre ++ c :: post) (total pre) = if c.alive then some c else none := by
  induction pre with
  | nil => simp [at?, total_nil]
  | cons d r ih =>
    rw [List.cons_append, at?, total_cons, if_neg (by have := d.size_pos; omega)]
    rw [show ((d.size + total r : Nat) : Int) - d.size = total r by omega]
    exact ih
theorem at?_some {cs : List Cl} : ∀ {x : Int} {c : Cl}, at? cs x = some c → ∃ pre post, cs = pre ++ c :: post ∧ x = total pre ∧ c.alive = true := by
  induction cs with
  | nil => intro x c h; cases h
  | cons d r ih =>
    intro x c h
    unfold at? at h
    by_cases hx : x = 0
    · rw [if_pos hx] at h
      cases ha : d.alive
      · simp [ha] at h
      · simp [ha] at h
        subst h hx
        exact ⟨[], r, rfl, rfl, ha⟩
    · rw [if_neg hx] at h
      obtain ⟨pre, post, rfl, h2, h3⟩ := ih h
      exact ⟨d :: pre, post, rfl, by rw [total_cons]; omega, h3⟩
theorem at?_far (cs : List Cl) : ∀ (x : Int), (total cs : Int) ≤ x → at? cs x = none := by
  induction cs with
  | nil => intro x _; rfl
  | cons c r ih =>
    intro x h
    rw [total_cons] at h
    have := c.size_pos
    unfold at?
    rw [if_neg (by omega)]
    exact ih _ (by omega)
theorem at?_append (a b : List Cl) : ∀ (x : Int), at? (a ++ b) x = if x < total a then at? a x else at? b (x - total a) := by
  induction a with
  | nil =>
    intro x
    have h0 : total [] = 0 := rfl
    by_cases h : x < 0
    · rw [if_pos (by omega)]; exact at?_neg b x h
    · rw [if_neg (by omega), h0]; simp
  | cons c r ih =>
    intro x
    have := c.size_pos
    rw [List.cons_append, at?, at?, total_cons]
    by_cases hx : x = 0
    · rw [if_pos hx, if_pos hx, if_pos (show x < ((c.size + total r : Nat) : Int) by omega)]
    · rw [if_neg hx, if_neg hx, ih]
      by_cases h : x - (c.size : Int) < total r
      · rw [if_pos h, if_pos (by omega)]
      · rw [if_neg h, if_neg (by omega)]
        congr 1
        omega
theorem at?_snoc (a : List Cl) (c : Cl) (hc : c.alive = true) (x : Int) : at? (a ++ [c]) x = if x = total a then some c else at? a x := by
  rw [at?_append]
  by_cases h : x < total a
  · rw [if_pos h, if_neg (by omega)]
  · rw [if_neg h, at?]
    by_cases hx : x = total a
    · rw [if_pos (by omega), if_pos hx, if_pos hc]
    · rw [if_neg (by omega), if_neg hx, at?, at?_far a x (by omega)]

theorem modAt_mid (f : Cl → Cl) (pre : List Cl) (c : Cl) (post : List Cl) : modAt f (pre ++ c :: post) (total pre) = pre ++ f c :: post := by
  induction pre with
  | nil => simp [modAt, total_nil]
  | cons d r ih =>
    rw [List.cons_append, modAt, total_cons, if_neg (by have := d.size_pos; omega)]
    rw [show ((d.size + total r : Nat) : Int) - d.size = total r by omega, ih]
    rfl
/-- elsewhere nothing turns -/
theorem at?_other (pre post : List Cl) (c d : Cl) (hs : c.size = d.size) {x : Int} (hx : x ≠ total pre) : at? (pre ++ c :: post) x = at? (pre ++ d :: post) x := by
  rw [at?_append, at?_append]
  by_cases h : x < total pre
  · rw [if_pos h, if_pos h]
  · rw [if_neg h, if_neg h, at?, at?, if_neg (by omega), if_neg (by omega), hs]
theorem total_mid (pre post : List Cl) (c d : Cl) (hs : c.size = d.size) : total (pre ++ c :: post) = total (pre ++ d :: post) := by
  rw [total_append, total_append, total_cons, total_cons, hs]
theorem wordsOf_mid (pre post : List Cl) (c : Cl) : wordsOf (pre ++ c :: post) = wordsOf pre ++ (c.words ++ wordsOf post) := by rw [wordsOf_append, wordsOf_cons]
theorem word_mid (pre post : List Cl) (c : Cl) (j : Nat) (hj : j < c.size) : (wordsOf (pre ++ c :: post))[total pre + j]? = c.words[j]? := by
  rw [wordsOf_mid, List.getElem?_append_right (by unfold total; omega), List.getElem?_append_left (by rw [Cl.words_length]; unfold total; omega)]
  congr 1
  unfold total
  omega
theorem head_mid (pre post : List Cl) (c : Cl) : (wordsOf (pre ++ c :: post))[total pre]? = some c.head := by
  have := word_mid pre post c 0 (by have := c.size_pos; omega)
  simpa [Cl.words] using this
theorem glue_mid (pre post : List Cl) (c : Cl) : (wordsOf (pre ++ c :: post))[total pre + 1]? = some c.glue := by
  have := word_mid pre post c 1 (by have := c.size_pos; omega)
  simpa [Cl.words] using this
theorem uses_mid (pre post : List Cl) (c : Cl) : (wordsOf (pre ++ c :: post))[total pre + 2]? = some c.uses := by
  have := word_mid pre post c 2 (by have := c.size_pos; omega)
  simpa [Cl.words] using this
theorem lit_mid (pre post : List Cl) (c : Cl) (j : Nat) (hj : j < c.lits.length) : (wordsOf (pre ++ c :: post))[total pre + 3 + j]? = some (c.lits.getD j 0) := by
  have := word_mid pre post c (3 + j) (by unfold Cl.size; omega)
  rw [show total pre + 3 + j = total pre + (3 + j) by omega, this, show 3 + j = j + 3 by omega]
  simp [Cl.words, List.getD, List.getElem?_eq_getElem hj]
/-- a word of a clause is set -/
theorem set_mid (pre post : List Cl) (c d : Cl) (j : Nat) (u : Int) (hj : j < c.size) (hd : d.words = c.words.set j u) : (wordsOf (pre ++ c :: post)).set (total pre + j) u = wordsOf (pre ++ d :: post) := by
  rw [wordsOf_mid, wordsOf_mid, hd, List.set_append_right _ _ (by unfold total; omega), List.set_append_left _ _ (by rw [Cl.words_length]; unfold total; omega)]
  congr 3
  unfold total
  omega

theorem head_half (c : Cl) : c.head / 2 = c.lits.length := by
  unfold Cl.head
  cases c.learned <;> simp <;> omega
theorem head_rem (c : Cl) : c.head % 2 = if c.learned then 1 else 0 := by
  unfold Cl.head
  cases c.learned <;> simp <;> omega
theorem head_bd (c : Cl) : 0 ≤ c.head ∧ c.head ≤ 2 * c.lits.length + 1 := by
  unfold Cl.head
  cases c.learned <;> simp <;> omega
theorem size_le_total (pre post : List Cl) (c : Cl) : total pre + c.size ≤ total (pre ++ c :: post) := by
  rw [total_append, total_cons]; omega
theorem at?_range {cs : List Cl} {x : Int} {c : Cl} (h : at? cs x = some c) : 0 ≤ x ∧ x + c.size ≤ total cs := by
  obtain ⟨pre, post, rfl, rfl, _⟩ := at?_some h
  have := size_le_total pre post c
  omega

/-- what counts as a glue, or uses -/
def least (n : Int) : Int := max 0 (min n 2147483647)
theorem least_bd (n : Int) : 0 ≤ least n ∧ least n ≤ 2147483647 := by unfold least; omega

theorem countOf_snoc (cs : List Cl) (c : Cl) (hc : c.alive = true) : countOf (cs ++ [c]) = countOf cs + 1 := by simp [countOf, hc]
theorem countOf_mid (pre post : List Cl) (c : Cl) : countOf (pre ++ c :: post) = countOf pre + (if c.alive then 1 else 0) + countOf post := by
  cases h : c.alive <;> simp [countOf, h] <;> omega
theorem countOf_le (cs : List Cl) : countOf cs ≤ cs.length := List.length_filter_le _ _

def kill (c : Cl) : Cl := { c with alive := false }
theorem kill_size (c : Cl) : (kill c).size = c.size := rfl
theorem kill_words (c : Cl) : (kill c).words = c.words := rfl
theorem at?_kill {cs : List Cl} {x : Int} {c : Cl} (h : at? cs x = some c) (y : Int) : at? (modAt kill cs x) y = if y = x then none else at? cs y := by
  obtain ⟨pre, post, rfl, rfl, _⟩ := at?_some h
  rw [modAt_mid]
  by_cases hy : y = total pre
  · rw [if_pos hy, hy, at?_mid]; simp [kill]
  · rw [if_neg hy]; exact at?_other pre post _ _ (kill_size c) hy
theorem words_kill {cs : List Cl} {x : Int} {c : Cl} (h : at? cs x = some c) : wordsOf (modAt kill cs x) = wordsOf cs := by
  obtain ⟨pre, post, rfl, rfl, _⟩ := at?_some h
  rw [modAt_mid, wordsOf_mid, wordsOf_mid, kill_words]
theorem count_kill {cs : List Cl} {x : Int} {c : Cl} (h : at? cs x = some c) : countOf (modAt kill cs x) + 1 = countOf cs := by
  obtain ⟨pre, post, rfl, rfl, ha⟩ := at?_some h
  rw [modAt_mid, countOf_mid, countOf_mid, ha]
  simp [kill]
  omega
theorem modAt_length (f : Cl → Cl) (cs : List Cl) : ∀ x, (modAt f cs x).length = cs.length := by
  induction cs with
  | nil => intro x; rfl
  | cons c r ih => intro x; unfold modAt; split <;> simp [ih]

/-- a change that leaves length and life -/
structure Tame (f : Cl → Cl) : Prop where
  len : ∀ c, (f c).lits.length = c.lits.length
  alive : ∀ c, (f c).alive = c.alive
theorem Tame.size {f : Cl → Cl} (h : Tame f) (c : Cl) : (f c).size = c.size := by unfold Cl.size; rw [h.len]
theorem at?_tame {f : Cl → Cl} (hf : Tame f) {cs : List Cl} {x : Int} {c : Cl} (h : at? cs x = some c) (y : Int) : at? (modAt f cs x) y = if y = x then some (f c) else at? cs y := by
  obtain ⟨pre, post, rfl, rfl, ha⟩ := at?_some h
  rw [modAt_mid]
  by_cases hy : y = total pre
  · rw [if_pos hy, hy, at?_mid, hf.alive, if_pos ha]
  · rw [if_neg hy]; exact at?_other pre post _ _ (hf.size c) hy
theorem isSome_tame {f : Cl → Cl} (hf : Tame f) {cs : List Cl} {x : Int} {c : Cl} (h : at? cs x = some c) (y : Int) : (at? (modAt f cs x) y).isSome = (at? cs y).isSome := by
  rw [at?_tame hf h]
  by_cases hy : y = x
  · rw [if_pos hy, hy, h]; rfl
  · rw [if_neg hy]
theorem count_tame {f : Cl → Cl} (hf : Tame f) {cs : List Cl} {x : Int} {c : Cl} (h : at? cs x = some c) : countOf (modAt f cs x) = countOf cs := by
  obtain ⟨pre, post, rfl, rfl, ha⟩ := at?_some h
  rw [modAt_mid, countOf_mid, countOf_mid, hf.alive]
theorem total_tame {f : Cl → Cl} (hf : Tame f) {cs : List Cl} {x : Int} {c : Cl} (h : at? cs x = some c) : total (modAt f cs x) = total cs := by
  obtain ⟨pre, post, rfl, rfl, ha⟩ := at?_some h
  rw [modAt_mid, total_mid pre post _ _ (hf.size c)]
end Go.Proofs.Ytbejjddkndcldaa
