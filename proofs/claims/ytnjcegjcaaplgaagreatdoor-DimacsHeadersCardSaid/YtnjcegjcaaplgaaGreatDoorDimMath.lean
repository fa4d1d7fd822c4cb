/- What a text of a formula says, line by line and word by word: plain mathematics. No program is named here. -/
import Derived.Test.YtnjcegjcaaplgaaGreatDoorCnfMath
namespace Go.Proofs.YtnjcegjcaaplgaaGreatDoor
set_option linter.unusedSimpArgs false
set_option linter.unusedVariables false

def isGap (b : UInt8) : Bool := b == 32 || b == 9
/-- the words of a line; cur: the word that is open -/
def wordsFrom : List UInt8 → List UInt8 → List (List UInt8)
  | cur, [] => if cur.isEmpty then [] else [cur]
  | cur, b :: r => if isGap b then (if cur.isEmpty then wordsFrom [] r else cur :: wordsFrom [] r) else wordsFrom (cur ++ [b]) r
/-- the first word of a line, and what is behind it -/
def cutFrom : List UInt8 → List UInt8 → List UInt8 × List UInt8
  | cur, [] => (cur, [])
  | cur, b :: r => if isGap b then (if cur.isEmpty then cutFrom [] r else (cur, b :: r)) else cutFrom (cur ++ [b]) r
/-- the lines of a text; cur: the line that is open -/
def linesFrom : List UInt8 → List UInt8 → List (List UInt8)
  | cur, [] => [cur]
  | cur, b :: r => if b == 10 then cur :: linesFrom [] r else linesFrom (cur ++ [b]) r
def wordsOf (l : List UInt8) : List (List UInt8) := wordsFrom [] l
def linesOf (s : List UInt8) : List (List UInt8) := linesFrom [] s

theorem wordsFrom_cons (cur : List UInt8) (b : UInt8) (r : List UInt8) : wordsFrom cur (b :: r) = if isGap b then (if cur.isEmpty then wordsFrom [] r else cur :: wordsFrom [] r) else wordsFrom (cur ++ [b]) r := rfl
theorem cutFrom_cons (cur : List UInt8) (b : UInt8) (r : List UInt8) : cutFrom cur (b :: r) = if isGap b then (if cur.isEmpty then cutFrom [] r else (cur, b :: r)) else cutFrom (cur ++ [b]) r := rfl
theorem words_cut : ∀ (l cur : List UInt8), wordsFrom cur l = if (cutFrom cur l).1.isEmpty then [] else (cutFrom cur l).1 :: wordsFrom [] (cutFrom cur l).2
  | [], cur => by cases cur <;> simp [wordsFrom, cutFrom]
  | b :: r, cur => by
    have ih := words_cut r
    rw [wordsFrom_cons, cutFrom_cons]
    by_cases hb : isGap b
    · rw [if_pos hb, if_pos hb]
      cases cur with
      | nil => exact ih []
      | cons x y => simp [wordsFrom_cons, hb]
    · rw [if_neg hb, if_neg hb]
      exact ih (cur ++ [b])
theorem cutFrom_len : ∀ (l cur : List UInt8), (cutFrom cur l).1.length + (cutFrom cur l).2.length ≤ cur.length + l.length
  | [], cur => by simp [cutFrom]
  | b :: r, cur => by
    unfold cutFrom
    by_cases hb : isGap b
    · rw [if_pos hb]
      cases cur with
      | nil => have := cutFrom_len r []; simp at this ⊢; omega
      | cons x y => simp
    · rw [if_neg hb]
      have := cutFrom_len r (cur ++ [b])
      simp at this ⊢; omega
theorem cutFrom_gap {b : UInt8} {r : List UInt8} (h : isGap b = true) : cutFrom [] (b :: r) = cutFrom [] r := by
  rw [cutFrom, if_pos h]; rfl
theorem cutFrom_end {b : UInt8} {cur r : List UInt8} (h : isGap b = true) (hc : cur ≠ []) : cutFrom cur (b :: r) = (cur, b :: r) := by
  rw [cutFrom, if_pos h, if_neg (by cases cur <;> simp_all)]
theorem cutFrom_more {b : UInt8} {cur r : List UInt8} (h : isGap b = false) : cutFrom cur (b :: r) = cutFrom (cur ++ [b]) r := by
  rw [cutFrom, if_neg (by simp [h])]
theorem cutFrom_mores : ∀ (d : List UInt8) (cur r : List UInt8), (∀ b ∈ d, isGap b = false) → cutFrom cur (d ++ r) = cutFrom (cur ++ d) r
  | [], cur, r, _ => by simp
  | b :: d, cur, r, h => by
    rw [List.cons_append, cutFrom_more (h b (by simp)), cutFrom_mores d (cur ++ [b]) r (fun x hx => h x (by simp [hx]))]
    simp
theorem wordsOf_len : ∀ (l cur : List UInt8), (wordsFrom cur l).length ≤ cur.length + l.length
  | [], cur => by unfold wordsFrom; cases cur <;> simp
  | b :: r, cur => by
    unfold wordsFrom
    by_cases hb : isGap b
    · rw [if_pos hb]
      have := wordsOf_len r []
      cases cur with
      | nil => simp at this ⊢; omega
      | cons x y => simp at this ⊢; omega
    · rw [if_neg hb]
      have := wordsOf_len r (cur ++ [b])
      simp at this ⊢; omega
theorem wordsOf_ne : ∀ (l cur : List UInt8), ∀ w ∈ wordsFrom cur l, w ≠ []
  | [], cur => by unfold wordsFrom; cases cur <;> simp
  | b :: r, cur => by
    unfold wordsFrom
    by_cases hb : isGap b
    · rw [if_pos hb]
      cases cur with
      | nil => simpa using wordsOf_ne r []
      | cons x y =>
        intro w hw
        simp at hw
        rcases hw with rfl | hw
        · simp
        · exact wordsOf_ne r [] w hw
    · rw [if_neg hb]
      exact wordsOf_ne r (cur ++ [b])

/-- a digit, a number, an item -/
def digit (b : UInt8) : Bool := 48 ≤ b.toNat && b.toNat ≤ 57
def numVal (w : List UInt8) : Int := w.foldl (fun n b => 10 * n + ((b.toNat : Int) - 48)) 0
def isNum (w : List UInt8) : Bool := decide (1 ≤ w.length ∧ w.length ≤ 9 ∧ (w.length = 1 ∨ w.getD 0 0 ≠ 48)) && w.all digit
def numOf (w : List UInt8) : Option Int := if isNum w then some (numVal w) else none
def itemOf (w : List UInt8) : Option Int :=
  if w.getD 0 0 = 45 then (match numOf (w.drop 1) with | some n => if n = 0 then none else some (-n) | none => none) else numOf w
def headerOf (ws : List (List UInt8)) : Option (Int × Int) :=
  match ws with
  | [p, c, a, b] => if p = [112] ∧ c = [99, 110, 102] then (match numOf a, numOf b with | some v, some k => some (v, k) | _, _ => none) else none
  | _ => none

/-- what is known after some lines of a text -/
structure Rd where
  begun : Bool
  stated : Int
  vars : Int
  cls : List (List Int)
  opn : List Int
def Rd.lits (r : Rd) : Nat := litCount r.cls + r.opn.length
def takeItem (r : Rd) (n : Int) : Rd × Int :=
  if (r.cls.length : Int) = r.stated then (r, 5)
  else if n = 0 then ({ r with cls := r.cls ++ [r.opn], opn := [] }, 0)
  else if r.vars < (n.natAbs : Int) then (r, 4)
  else if r.lits = 1000000 then (r, 8)
  else ({ r with opn := r.opn ++ [n] }, 0)
def takeBody (r : Rd) : List (List UInt8) → Rd × Int
  | [] => (r, 0)
  | w :: ws => match itemOf w with
    | none => (r, 3)
    | some n => if (takeItem r n).2 = 0 then takeBody (takeItem r n).1 ws else takeItem r n
def takeHeader (r : Rd) (ws : List (List UInt8)) : Rd × Int :=
  match headerOf ws with
  | none => (r, 2)
  | some (v, k) => if 100000 < v ∨ 200000 < k then (r, 8) else ({ r with begun := true, stated := k, vars := v }, 0)
def takeLine (r : Rd) (ws : List (List UInt8)) : Rd × Int := if r.begun then takeBody r ws else takeHeader r ws
def skipLine : List (List UInt8) → Bool
  | [] => true
  | w :: _ => w.getD 0 0 == 99
def endErr (r : Rd) : Int := if r.begun = false then 2 else if 0 < r.opn.length then 7 else if (r.cls.length : Int) < r.stated then 6 else 0
inductive Res where
  | ok (v : Int) (cls : List (List Int))
  | bad (line err : Int)
def parseFrom (r : Rd) (n : Nat) : List (List UInt8) → Res
  | [] => if endErr r = 0 then .ok r.vars r.cls else .bad n (endErr r)
  | l :: ls => if skipLine (wordsOf l) then parseFrom r (n + 1) ls
    else if (takeLine r (wordsOf l)).2 = 0 then parseFrom (takeLine r (wordsOf l)).1 (n + 1) ls else .bad (n + 1) (takeLine r (wordsOf l)).2
def Rd.start : Rd := { begun := false, stated := 0, vars := 0, cls := [], opn := [] }
def parseOf (s : List UInt8) : Res := parseFrom Rd.start 0 (linesOf s)

theorem lines_cut_hit : ∀ (a cur b : List UInt8), (∀ x ∈ a, x ≠ 10) → linesFrom cur (a ++ 10 :: b) = (cur ++ a) :: linesFrom [] b
  | [], cur, b, _ => by simp [linesFrom]
  | x :: a, cur, b, h => by
    have hx : (x == 10) = false := by simpa using h x (by simp)
    rw [List.cons_append, linesFrom, hx]
    simp only [Bool.false_eq_true, if_false]
    rw [lines_cut_hit a (cur ++ [x]) b (fun y hy => h y (by simp [hy]))]
    simp
theorem lines_cut_miss : ∀ (a cur : List UInt8), (∀ x ∈ a, x ≠ 10) → linesFrom cur a = [cur ++ a]
  | [], cur, _ => by simp [linesFrom]
  | x :: a, cur, h => by
    have hx : (x == 10) = false := by simpa using h x (by simp)
    rw [linesFrom, hx]
    simp only [Bool.false_eq_true, if_false]
    rw [lines_cut_miss a (cur ++ [x]) (fun y hy => h y (by simp [hy]))]
    simp

/-- how much there is of what is known: never more than the bytes read -/
def Rd.size (r : Rd) : Nat := r.cls.length + r.lits
theorem takeItem_size (r : Rd) (n : Int) : (takeItem r n).1.size ≤ r.size + 1 := by
  unfold takeItem
  repeat' split
  all_goals simp [Rd.size, Rd.lits, litCount]
  all_goals omega
theorem takeBody_size : ∀ (ws : List (List UInt8)) (r : Rd), (takeBody r ws).1.size ≤ r.size + ws.length
  | [], r => by simp [takeBody]
  | w :: ws, r => by
    unfold takeBody
    split
    · simp
    · rename_i n _
      have h1 := takeItem_size r n
      split
      · have := takeBody_size ws (takeItem r n).1
        simp; omega
      · simp; omega
theorem takeHeader_size (r : Rd) (ws : List (List UInt8)) : (takeHeader r ws).1.size = r.size := by
  unfold takeHeader
  repeat' split
  all_goals rfl
theorem takeLine_size (r : Rd) (ws : List (List UInt8)) : (takeLine r ws).1.size ≤ r.size + ws.length := by
  unfold takeLine
  split
  · exact takeBody_size ws r
  · rw [takeHeader_size]; omega

/-- what a word's characters are, the first eleven of them: bytes below 128 are characters; what is made of others is none of those that count -/
inductive Word : List UInt8 → List Int → Prop
  | nil : Word [] []
  | low {w : List UInt8} {rs : List Int} (b : UInt8) (h : Word w rs) (hb : b.toNat < 128) (hl : rs.length ≤ 10) : Word (w ++ [b]) (rs ++ [(b.toNat : Int)])
  | lowFull {w : List UInt8} {rs : List Int} (b : UInt8) (h : Word w rs) (hb : b.toNat < 128) (hl : rs.length = 11) : Word (w ++ [b]) rs
  | high {w : List UInt8} {rs : List Int} (d : List UInt8) (c : Int) (h : Word w rs) (h0 : d ≠ []) (hd : ∀ x ∈ d, 128 ≤ x.toNat) (hc : 128 ≤ c) (hl : rs.length ≤ 10) : Word (w ++ d) (rs ++ [c])
  | highFull {w : List UInt8} {rs : List Int} (d : List UInt8) (h : Word w rs) (h0 : d ≠ []) (hd : ∀ x ∈ d, 128 ≤ x.toNat) (hl : rs.length = 11) : Word (w ++ d) rs

theorem Word.len {w : List UInt8} {rs : List Int} (h : Word w rs) : rs.length ≤ 11 ∧ rs.length ≤ w.length ∧ (rs.length = 0 → w.length = 0) := by
  induction h with
  | nil => simp
  | low b h hb hl ih => exact ⟨by simp; omega, by simp; omega, fun h => by simp at h⟩
  | lowFull b h hb hl ih => exact ⟨by omega, by simp; omega, fun h => by omega⟩
  | high d c h h0 hd hc hl ih =>
    have : 0 < d.length := by cases d <;> simp_all
    exact ⟨by simp; omega, by simp; omega, fun h => by simp at h⟩
  | highFull d h h0 hd hl ih => exact ⟨by omega, by simp; omega, fun h => by omega⟩
/-- either the bytes are the characters, or one character is no ASCII one and one byte isn't, or there are more than ten -/
theorem Word.cases_ {w : List UInt8} {rs : List Int} (h : Word w rs) : ((∀ b ∈ w, b.toNat < 128) ∧ rs = (w.map fun b => (b.toNat : Int)) ∧ rs.length ≤ 11) ∨ (rs.length = 11 ∧ 11 < w.length) ∨ (rs.length ≤ 11 ∧ (∃ b ∈ w, 128 ≤ b.toNat) ∧ ∃ c ∈ rs, 128 ≤ c) := by
  induction h with
  | nil => left; simp
  | low b h hb hl ih =>
    rcases ih with ⟨h1, h2, h3⟩ | ⟨h1, h2⟩ | ⟨h1, ⟨x, hx, hx'⟩, c, hc, hc'⟩
    · left
      refine ⟨?_, by rw [h2]; simp, by simp; omega⟩
      intro x hx
      simp at hx
      rcases hx with hx | rfl
      · exact h1 x hx
      · exact hb
    · omega
    · right; right; exact ⟨by simp; omega, ⟨x, by simp [hx], hx'⟩, c, by simp [hc], hc'⟩
  | lowFull b h hb hl ih =>
    rcases ih with ⟨h1, h2, h3⟩ | ⟨h1, h2⟩ | ⟨h1, ⟨x, hx, hx'⟩, c, hc, hc'⟩
    · right; left
      refine ⟨hl, ?_⟩
      rw [h2] at hl
      simp at hl ⊢; omega
    · right; left; exact ⟨hl, by simp; omega⟩
    · right; right; exact ⟨h1, ⟨x, by simp [hx], hx'⟩, c, hc, hc'⟩
  | high d c h h0 hd hc hl ih =>
    right; right
    obtain ⟨x, hx⟩ : ∃ x, x ∈ d := by cases d with | nil => exact absurd rfl h0 | cons x y => exact ⟨x, by simp⟩
    exact ⟨by simp; omega, ⟨x, by simp [hx], hd x hx⟩, c, by simp, hc⟩
  | highFull d h h0 hd hl ih =>
    have hdl : 0 < d.length := by cases d <;> simp_all
    right; left
    have := h.len
    exact ⟨hl, by simp; omega⟩
/-- the first byte and the first character -/
theorem Word.first {w : List UInt8} {rs : List Int} (h : Word w rs) (hw : w ≠ []) : ((w.getD 0 0).toNat < 128 ∧ rs.getD 0 0 = ((w.getD 0 0).toNat : Int)) ∨ (128 ≤ (w.getD 0 0).toNat ∧ 128 ≤ rs.getD 0 0) := by
  have g1 : ∀ (a : List UInt8) (d : List UInt8), a ≠ [] → (a ++ d).getD 0 0 = a.getD 0 0 := fun a d ha => by cases a with | nil => exact absurd rfl ha | cons x y => rfl
  have g2 : ∀ (a : List Int) (d : List Int), a ≠ [] → (a ++ d).getD 0 0 = a.getD 0 0 := fun a d ha => by cases a with | nil => exact absurd rfl ha | cons x y => rfl
  have g3 : ∀ {w : List UInt8} {rs : List Int}, Word w rs → w ≠ [] → rs ≠ [] := fun h hw he => hw (by have := h.len.2.2 (by rw [he]; rfl); exact List.eq_nil_of_length_eq_zero this)
  have g4 : ∀ {rs : List Int}, Word [] rs → rs = [] := fun h => List.eq_nil_of_length_eq_zero (by have := h.len.2.1; simp at this; simp [this])
  induction h with
  | nil => exact absurd rfl hw
  | @low w rs b h hb hl ih =>
    rcases Classical.em (w = []) with rfl | hne
    · obtain rfl := g4 h; left; exact ⟨hb, rfl⟩
    · rw [g1 _ _ hne, g2 _ _ (g3 h hne)]; exact ih hne
  | @lowFull w rs b h hb hl ih =>
    rcases Classical.em (w = []) with rfl | hne
    · have := g4 h; subst this; simp at hl
    · rw [g1 _ _ hne]; exact ih hne
  | @high w rs d c h h0 hd hc hl ih =>
    rcases Classical.em (w = []) with rfl | hne
    · obtain rfl := g4 h
      right
      refine ⟨?_, by simpa using hc⟩
      cases d with
      | nil => exact absurd rfl h0
      | cons x y => exact hd x (by simp)
    · rw [g1 _ _ hne, g2 _ _ (g3 h hne)]; exact ih hne
  | @highFull w rs d h h0 hd hl ih =>
    rcases Classical.em (w = []) with rfl | hne
    · have := g4 h; subst this; simp at hl
    · rw [g1 _ _ hne]; exact ih hne

/-- the number that characters make -/
def charNum (rs : List Int) : Bool := decide (1 ≤ rs.length ∧ rs.length ≤ 9 ∧ (rs.length = 1 ∨ rs.getD 0 0 ≠ 48)) && rs.all (fun c => decide (48 ≤ c ∧ c ≤ 57))
def charVal (rs : List Int) : Int := rs.foldl (fun n c => 10 * n + (c - 48)) 0
def numR (rs : List Int) : Option Int := if charNum rs then some (charVal rs) else none
def itemR (rs : List Int) : Option Int :=
  if rs.getD 0 0 = 45 then (match numR (rs.drop 1) with | some n => if n = 0 then none else some (-n) | none => none) else numR rs
theorem numR_map (w : List UInt8) : numR (w.map fun b => (b.toNat : Int)) = numOf w := by
  have e1 : charNum (w.map fun b => (b.toNat : Int)) = isNum w := by
    unfold charNum isNum
    congr 1
    · have : (w.map fun b => (b.toNat : Int)).getD 0 0 ≠ 48 ↔ w.getD 0 0 ≠ 48 := by
        cases w with
        | nil => simp
        | cons x y => simp [← UInt8.toNat_inj]; omega
      simp only [List.length_map, this]
    · rw [List.all_map]
      congr 1
      funext b
      unfold digit
      simp only [Function.comp]
      rw [Bool.eq_iff_iff]; simp; omega
  have e2 : charVal (w.map fun b => (b.toNat : Int)) = numVal w := by
    unfold charVal numVal
    rw [List.foldl_map]
  unfold numR numOf
  rw [e1, e2]
theorem numR_long {rs : List Int} (h : 9 < rs.length) : numR rs = none := by
  unfold numR charNum
  rw [decide_eq_false (by omega)]; rfl
theorem numOf_long {w : List UInt8} (h : 9 < w.length) : numOf w = none := by
  unfold numOf isNum
  rw [decide_eq_false (by omega)]; rfl
theorem numR_high {rs : List Int} {c : Int} (hc : c ∈ rs) (h : 128 ≤ c) : numR rs = none := by
  have : (rs.all fun c => decide (48 ≤ c ∧ c ≤ 57)) = false := by
    rw [List.all_eq_false]; exact ⟨c, hc, by simp; omega⟩
  unfold numR charNum
  rw [this, Bool.and_false]; rfl
theorem numOf_high {w : List UInt8} {b : UInt8} (hb : b ∈ w) (h : 128 ≤ b.toNat) : numOf w = none := by
  have : w.all digit = false := by
    rw [List.all_eq_false]; exact ⟨b, hb, by unfold digit; simp; omega⟩
  unfold numOf isNum
  rw [this, Bool.and_false]; rfl
theorem Word.num {w : List UInt8} {rs : List Int} (h : Word w rs) : numR rs = numOf w := by
  rcases h.cases_ with ⟨_, h2, _⟩ | ⟨h1, h2⟩ | ⟨_, ⟨x, hx, hx'⟩, c, hc, hc'⟩
  · rw [h2, numR_map]
  · rw [numR_long (by omega), numOf_long (by omega)]
  · rw [numR_high hc hc', numOf_high hx hx']
theorem Word.item {w : List UInt8} {rs : List Int} (h : Word w rs) (hw : w ≠ []) : itemR rs = itemOf w := by
  have hf := h.first hw
  have hd : rs.getD 0 0 = 45 ↔ w.getD 0 0 = 45 := by
    rw [← UInt8.toNat_inj]
    rcases hf with ⟨h1, h2⟩ | ⟨h1, h2⟩
    · rw [h2]; simp; omega
    · constructor
      · omega
      · intro e; rw [e] at h1; simp at h1
  have hdr : w.getD 0 0 = 45 → numR (rs.drop 1) = numOf (w.drop 1) := fun h45 => by
    have h45' : rs.getD 0 0 = 45 := hd.2 h45
    rcases h.cases_ with ⟨_, h2, _⟩ | ⟨h1, h2⟩ | ⟨_, ⟨x, hx, hx'⟩, c, hc, hc'⟩
    · rw [h2, ← List.map_drop, numR_map]
    · rw [numR_long (by simp; omega), numOf_long (by simp; omega)]
    · have k1 : c ∈ rs.drop 1 := by
        cases rs with
        | nil => cases hc
        | cons y z =>
          simp at h45'
          rcases List.mem_cons.1 hc with e | hc
          · omega
          · exact hc
      have k2 : x ∈ w.drop 1 := by
        cases w with
        | nil => cases hx
        | cons y z =>
          simp at h45
          rcases List.mem_cons.1 hx with e | hx
          · rw [e, h45] at hx'; simp at hx'
          · exact hx
      rw [numR_high k1 hc', numOf_high k2 hx']
  unfold itemR itemOf
  by_cases h45 : w.getD 0 0 = 45
  · rw [if_pos h45, if_pos (hd.2 h45), hdr h45]
  · rw [if_neg h45, if_neg (fun e => h45 (hd.1 e)), h.num]

/-- how a number's digits add up -/
theorem charVal_snoc (rs : List Int) (c : Int) : charVal (rs ++ [c]) = 10 * charVal rs + (c - 48) := by unfold charVal; rw [List.foldl_append]; rfl
theorem charVal_go : ∀ (rs : List Int) (a : Int), 0 ≤ a → (rs.all fun c => decide (48 ≤ c ∧ c ≤ 57)) = true → 0 ≤ rs.foldl (fun n c => 10 * n + (c - 48)) a ∧ rs.foldl (fun n c => 10 * n + (c - 48)) a + 1 ≤ (a + 1) * 10 ^ rs.length
  | [], a, h0, _ => by simp; omega
  | c :: rs, a, h0, h => by
    rw [List.all_cons, Bool.and_eq_true] at h
    have h3 : 48 ≤ c ∧ c ≤ 57 := by simpa using h.1
    obtain ⟨h1, h2⟩ := charVal_go rs (10 * a + (c - 48)) (by omega) h.2
    refine ⟨h1, Int.le_trans h2 ?_⟩
    have e : (a + 1) * (10 : Int) ^ (c :: rs).length = (10 * (a + 1)) * 10 ^ rs.length := by
      rw [List.length_cons, Int.pow_succ, Int.mul_comm (10 ^ rs.length) 10, ← Int.mul_assoc, Int.mul_comm (a + 1) 10]
    rw [e]
    exact Int.mul_le_mul_of_nonneg_right (by omega) (Int.pow_nonneg (by omega))
theorem charVal_bd (rs : List Int) (h : (rs.all fun c => decide (48 ≤ c ∧ c ≤ 57)) = true) : 0 ≤ charVal rs ∧ charVal rs + 1 ≤ 10 ^ rs.length := by
  have := charVal_go rs 0 (by omega) h
  unfold charVal
  omega
theorem charVal_nine {rs : List Int} (h : (rs.all fun c => decide (48 ≤ c ∧ c ≤ 57)) = true) (hl : rs.length ≤ 9) : 0 ≤ charVal rs ∧ charVal rs ≤ 999999999 := by
  have h1 := charVal_bd rs h
  have h2 : (10 : Int) ^ rs.length ≤ 10 ^ 9 := by
    have : (10 : Nat) ^ rs.length ≤ 10 ^ 9 := Nat.pow_le_pow_right (by omega) hl
    exact_mod_cast this
  omega
theorem numR_bd {rs : List Int} {n : Int} (h : numR rs = some n) : 0 ≤ n ∧ n ≤ 999999999 := by
  unfold numR at h
  split at h
  · rename_i hc
    unfold charNum at hc
    rw [Bool.and_eq_true] at hc
    injection h with h
    subst h
    have := of_decide_eq_true hc.1
    exact charVal_nine hc.2 (by omega)
  · cases h
theorem itemR_bd {rs : List Int} {n : Int} (h : itemR rs = some n) : -999999999 ≤ n ∧ n ≤ 999999999 := by
  unfold itemR at h
  split at h
  · split at h
    · rename_i m hm
      have := numR_bd hm
      split at h
      · cases h
      · injection h with h; omega
    · cases h
  · have := numR_bd h; omega
end Go.Proofs.YtnjcegjcaaplgaaGreatDoor
