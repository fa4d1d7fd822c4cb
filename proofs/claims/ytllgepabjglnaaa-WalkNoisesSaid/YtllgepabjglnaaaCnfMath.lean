/- The plain mathematics of formulas: which clause an assignment satisfies, which is the next that it doesn't. -/
import Derived.Test.YtllgepabjglnaaaLitMath
namespace Go.Proofs.Ytllgepabjglnaaa

/-- a clause, satisfied -/
def clauseSat (z : List Bool) (c : List Int) : Bool := c.any fun l => litHolds l z.length (fun j => z.getD j false)
theorem clauseSat_nil (z : List Bool) : clauseSat z [] = false := rfl
theorem clauseSat_cons (z : List Bool) (l : Int) (c : List Int) : clauseSat z (l :: c) = (litHolds l z.length (fun j => z.getD j false) || clauseSat z c) := rfl
/-- the first clause, from k on, that isn't satisfied -/
def nextUns (z : List Bool) (xss : List (List Int)) (k : Nat) : Nat := k + (xss.drop k).findIdx fun c => !clauseSat z c

theorem drop_getD {α : Type} (d : α) (xs : List α) (k : Nat) (h : k < xs.length) : xs.drop k = xs.getD k d :: xs.drop (k + 1) := by
  rw [List.drop_eq_getElem_cons h]; simp [List.getD, h]

theorem nextUns_end {z : List Bool} {xss : List (List Int)} {k : Nat} (h : xss.length ≤ k) : nextUns z xss k = k := by
  unfold nextUns; rw [List.drop_eq_nil_of_le h]; rfl
theorem nextUns_hit {z : List Bool} {xss : List (List Int)} {k : Nat} (h : k < xss.length) (hs : clauseSat z (xss.getD k []) = false) : nextUns z xss k = k := by
  unfold nextUns; rw [drop_getD [] xss k h, List.findIdx_cons, hs]; rfl
theorem nextUns_skip {z : List Bool} {xss : List (List Int)} {k : Nat} (h : k < xss.length) (hs : clauseSat z (xss.getD k []) = true) : nextUns z xss k = nextUns z xss (k + 1) := by
  unfold nextUns; rw [drop_getD [] xss k h, List.findIdx_cons, hs]; show k + (_ + 1) = _; omega
theorem nextUns_bd (z : List Bool) (xss : List (List Int)) (k : Nat) (h : k ≤ xss.length) : k ≤ nextUns z xss k ∧ nextUns z xss k ≤ xss.length := by
  unfold nextUns
  have := List.findIdx_le_length (xs := xss.drop k) (p := fun c => !clauseSat z c)
  rw [List.length_drop] at this
  omega
theorem clauseSat_drop {z : List Bool} {c : List Int} {k : Nat} (h : k < c.length) : clauseSat z (c.drop k) = (litHolds (c.getD k 0) z.length (fun j => z.getD j false) || clauseSat z (c.drop (k + 1))) := by
  rw [drop_getD 0 c k h, clauseSat_cons]

/-- the clauses ahead of k that aren't satisfied, by their places -/
def unsUpto (z : List Bool) (xss : List (List Int)) (k : Nat) : List Nat := (List.range k).filter fun j => !clauseSat z (xss.getD j [])
theorem unsUpto_skip {z : List Bool} {xss : List (List Int)} {k : Nat} (hs : clauseSat z (xss.getD k []) = true) : unsUpto z xss (k + 1) = unsUpto z xss k := by
  unfold unsUpto; rw [List.range_succ, List.filter_append, List.filter_cons, hs]; simp
theorem unsUpto_hit {z : List Bool} {xss : List (List Int)} {k : Nat} (hs : clauseSat z (xss.getD k []) = false) : unsUpto z xss (k + 1) = unsUpto z xss k ++ [k] := by
  unfold unsUpto; rw [List.range_succ, List.filter_append, List.filter_cons, hs]; simp
theorem unsUpto_len (z : List Bool) (xss : List (List Int)) (k : Nat) : (unsUpto z xss k).length ≤ k := by
  unfold unsUpto; exact Nat.le_trans (List.length_filter_le _ _) (by simp)
theorem nextUns_at (z : List Bool) (xss : List (List Int)) : ∀ m k : Nat, k ≤ xss.length → xss.length - k = m → nextUns z xss k = xss.length ∨ clauseSat z (xss.getD (nextUns z xss k) []) = false := by
  intro m
  induction m with
  | zero => intro k hk hm; rw [nextUns_end (by omega)]; left; omega
  | succ m ih =>
    intro k hk hm
    rcases hs : clauseSat z (xss.getD k []) with _ | _
    · rw [nextUns_hit (by omega) hs]; exact .inr hs
    · rw [nextUns_skip (by omega) hs]; exact ih (k + 1) (by omega) (by omega)
theorem unsUpto_next (z : List Bool) (xss : List (List Int)) : ∀ m k : Nat, k ≤ xss.length → xss.length - k = m → unsUpto z xss (nextUns z xss k) = unsUpto z xss k := by
  intro m
  induction m with
  | zero => intro k hk hm; rw [nextUns_end (by omega)]
  | succ m ih =>
    intro k hk hm
    rcases hs : clauseSat z (xss.getD k []) with _ | _
    · rw [nextUns_hit (by omega) hs]
    · rw [nextUns_skip (by omega) hs, ih (k + 1) (by omega) (by omega), unsUpto_skip hs]

/-- all clauses, satisfied -/
def formSat (z : List Bool) (xss : List (List Int)) : Bool := xss.all (clauseSat z)
theorem nextUns_all (z : List Bool) (xss : List (List Int)) : (nextUns z xss 0 == xss.length) = formSat z xss := by
  have h1 : ∀ m k : Nat, k ≤ xss.length → xss.length - k = m → (nextUns z xss k == xss.length) = (xss.drop k).all (clauseSat z) := by
    intro m
    induction m with
    | zero => intro k hk hm; rw [nextUns_end (by omega), List.drop_eq_nil_of_le (by omega)]; simp; omega
    | succ m ih =>
      intro k hk hm
      rw [drop_getD [] xss k (by omega), List.all_cons]
      rcases hs : clauseSat z (xss.getD k []) with _ | _
      · rw [nextUns_hit (by omega) hs]; simp; omega
      · rw [nextUns_skip (by omega) hs, ih (k + 1) (by omega) (by omega)]; simp
  exact h1 _ 0 (Nat.zero_le _) rfl

/-- how many literals there are in the clauses -/
def litCount (xss : List (List Int)) : Nat := (xss.map List.length).sum
theorem litCount_take {xss : List (List Int)} {k : Nat} (h : k < xss.length) : litCount (xss.take (k + 1)) = litCount (xss.take k) + (xss.getD k []).length := by
  unfold litCount; rw [List.take_succ_eq_append_getElem h, List.map_append, List.sum_append]; simp only [List.map_cons, List.map_nil, List.sum_cons, List.sum_nil, List.getD, List.getElem?_eq_getElem h, Option.getD_some]; omega
theorem litCount_take_le (xss : List (List Int)) (k : Nat) : litCount (xss.take k) ≤ litCount xss := by
  have h : litCount xss = litCount (xss.take k) + litCount (xss.drop k) := by
    unfold litCount; rw [← List.sum_append, ← List.map_append, List.take_append_drop]
  omega
theorem litCount_full {xss : List (List Int)} {k : Nat} (h : xss.length ≤ k) : litCount (xss.take k) = litCount xss := by rw [List.take_of_length_le h]

/-- a formula that may be -/
def clauseRight (V : Int) (c : List Int) : Bool := c.all fun l => litRight l V
def formRight (V : Int) (xss : List (List Int)) : Bool := decide (0 ≤ V ∧ V ≤ 100000 ∧ xss.length ≤ 200000) && (decide (litCount xss ≤ 1000000) && xss.all (clauseRight V))
theorem clauseRight_drop {V : Int} {c : List Int} {k : Nat} (h : k < c.length) : clauseRight V (c.drop k) = (litRight (c.getD k 0) V && clauseRight V (c.drop (k + 1))) := by
  rw [drop_getD 0 c k h]; rfl
theorem rowsRight_drop {V : Int} {c : List (List Int)} {k : Nat} (h : k < c.length) : (c.drop k).all (clauseRight V) = (clauseRight V (c.getD k []) && (c.drop (k + 1)).all (clauseRight V)) := by
  rw [drop_getD [] c k h]; rfl
theorem formRight_few {V : Int} {xss : List (List Int)} {k : Nat} (h : 1000000 < litCount (xss.take k)) : formRight V xss = false := by
  have := litCount_take_le xss k
  unfold formRight
  rw [decide_eq_false (show ¬ litCount xss ≤ 1000000 by omega)]; simp
end Go.Proofs.Ytllgepabjglnaaa
