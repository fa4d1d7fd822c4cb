/- The clauses of the statement on moving, as plain mathematics. No program is named here. -/
import Derived.Test.YtnjcegjcaaplgaaStarts
import Derived.Test.YtnjcegjcaaplgaaCompactMath
namespace Go.Proofs.Ytnjcegjcaaplgaa

def litsFrom (i z : Nat) : List Int := (List.range z).map fun (k : Nat) => 10 * (i : Int) + k + 1
def ccl (i z : Nat) : Cl := ⟨litsFrom i z, decide (i % 2 = 0), i, 0, true⟩
def ccls : Nat → List Nat → List Cl
  | _, [] => []
  | i, z :: r => ccl i z :: ccls (i + 1) r
theorem ccl_size (i z : Nat) : (ccl i z).size = z + 3 := by simp [ccl, Cl.size, litsFrom]
theorem ccl_len (i z : Nat) : (ccl i z).lits.length = z := by simp [ccl, litsFrom]
theorem ccls_append (a b : List Nat) : ∀ i, ccls i (a ++ b) = ccls i a ++ ccls (i + a.length) b := by
  induction a with
  | nil => intro i; rfl
  | cons z r ih => intro i; rw [List.cons_append, ccls, ih, ccls, List.cons_append, List.length_cons, Nat.add_assoc, Nat.add_comm 1]
theorem ccls_length (a : List Nat) : ∀ i, (ccls i a).length = a.length := by
  induction a with
  | nil => intro i; rfl
  | cons z r ih => intro i; rw [ccls, List.length_cons, ih, List.length_cons]
theorem ccls_snoc (a : List Nat) (z : Nat) : ccls 0 (a ++ [z]) = ccls 0 a ++ [ccl a.length z] := by
  rw [ccls_append, Nat.zero_add]; rfl
theorem ccls_total (a : List Nat) (m : Nat) (h : ∀ z ∈ a, z ≤ m) : ∀ i, total (ccls i a) ≤ a.length * (m + 3) := by
  induction a with
  | nil => intro i; simp [ccls, total_nil]
  | cons z r ih =>
    intro i
    have h1 := ih (fun z hz => h z (by simp [hz])) (i + 1)
    have h2 := h z (by simp)
    rw [ccls, total_cons, ccl_size, List.length_cons, Nat.succ_mul]
    omega

/-- those that are dropped -/
def mark (d : Nat → Bool) : Nat → List Cl → List Cl
  | _, [] => []
  | i, c :: r => (if d i then kill c else c) :: mark d (i + 1) r
theorem mark_append (d : Nat → Bool) (a b : List Cl) : ∀ i, mark d i (a ++ b) = mark d i a ++ mark d (i + a.length) b := by
  induction a with
  | nil => intro i; rfl
  | cons c r ih => intro i; rw [List.cons_append, mark, ih, mark, List.cons_append, List.length_cons, Nat.add_assoc, Nat.add_comm 1]
theorem mark_snoc (d : Nat → Bool) (a : List Cl) (c : Cl) : mark d 0 (a ++ [c]) = mark d 0 a ++ [if d a.length then kill c else c] := by
  rw [mark_append, Nat.zero_add]; rfl
theorem mark_length (d : Nat → Bool) (a : List Cl) : ∀ i, (mark d i a).length = a.length := by
  induction a with
  | nil => intro i; rfl
  | cons c r ih => intro i; rw [mark, List.length_cons, ih, List.length_cons]
theorem mark_total (d : Nat → Bool) (a : List Cl) : ∀ i, total (mark d i a) = total a := by
  induction a with
  | nil => intro i; rfl
  | cons c r ih =>
    intro i
    rw [mark, total_cons, ih, total_cons]
    cases d i <;> rfl

theorem live_snoc (a : List Cl) (c : Cl) (h : c.alive = true) : live (a ++ [c]) = live a ++ [c] := by rw [live_append, live_yes [] h]; rfl
theorem live_snoc_no (a : List Cl) (c : Cl) (h : c.alive = false) : live (a ++ [c]) = live a := by rw [live_append, live_no [] h]; simp [live]
theorem live_all (a : List Cl) (h : ∀ c ∈ a, c.alive = true) : live a = a := by
  unfold live; exact List.filter_eq_self.2 (by simpa using h)

/-- where the clause in the middle comes to lie, and where it is then -/
theorem moved_mid (pre post : List Cl) (c : Cl) (h : c.alive = true) : movedFrom 0 (pre ++ c :: post) (total pre) = some (total (live pre) : Int) := by
  rw [moved_append, if_neg (by omega), Int.sub_self, movedFrom, if_pos rfl, if_pos h, Nat.zero_add]
theorem at?_mid_no (pre post : List Cl) (c : Cl) (h : c.alive = false) : (at? (pre ++ c :: post) (total pre)).isSome = false := by
  rw [at?_mid, h]; rfl
theorem live_mid (pre post : List Cl) (c : Cl) (h : c.alive = true) : live (pre ++ c :: post) = live pre ++ c :: live post := by rw [live_append, live_yes post h]
theorem live_live (a : List Cl) : live (live a) = live a := live_all _ (live_alive a)

/-- those before number k, and those from it on -/
def upTo (zs : List Nat) (k : Nat) : List Cl := ccls 0 (zs.take k)
def fromOn (zs : List Nat) (k : Nat) : List Cl := ccls k (zs.drop k)
theorem upTo_zero (zs : List Nat) : upTo zs 0 = [] := rfl
theorem fromOn_zero (zs : List Nat) : fromOn zs 0 = ccls 0 zs := rfl
theorem upTo_all (zs : List Nat) {k : Nat} (h : zs.length ≤ k) : upTo zs k = ccls 0 zs := by unfold upTo; rw [List.take_of_length_le h]
theorem fromOn_all (zs : List Nat) {k : Nat} (h : zs.length ≤ k) : fromOn zs k = [] := by unfold fromOn; rw [List.drop_eq_nil_of_le h]; rfl
theorem upTo_length (zs : List Nat) {k : Nat} (h : k ≤ zs.length) : (upTo zs k).length = k := by unfold upTo; rw [ccls_length, List.length_take]; omega
theorem fromOn_cons (zs : List Nat) {k : Nat} (hk : k < zs.length) : fromOn zs k = ccl k (zs.getD k 0) :: fromOn zs (k + 1) := by
  unfold fromOn
  rw [List.drop_eq_getElem_cons hk, ccls, List.getD_eq_getElem?_getD, List.getElem?_eq_getElem hk]
  rfl
theorem upTo_snoc (zs : List Nat) {k : Nat} (hk : k < zs.length) : upTo zs (k + 1) = upTo zs k ++ [ccl k (zs.getD k 0)] := by
  unfold upTo
  rw [List.take_add_one, List.getElem?_eq_getElem hk, Option.toList_some, ccls_snoc, List.length_take, Nat.min_eq_left (Nat.le_of_lt hk), List.getD_eq_getElem?_getD, List.getElem?_eq_getElem hk]
  rfl
theorem upTo_fromOn (zs : List Nat) {k : Nat} (hk : k ≤ zs.length) : upTo zs k ++ fromOn zs k = ccls 0 zs := by
  unfold upTo fromOn
  have := ccls_append (zs.take k) (zs.drop k) 0
  rw [List.take_append_drop, Nat.zero_add, List.length_take, Nat.min_eq_left hk] at this
  exact this.symm
theorem starts_upTo (zs : List Nat) {k : Nat} (hk : k < zs.length) : (startsFrom 0 (ccls 0 zs)).getD k 0 = total (upTo zs k) := by
  have h := starts_at (upTo zs k) (ccl k (zs.getD k 0)) (fromOn zs (k + 1))
  rw [← fromOn_cons zs hk, upTo_fromOn zs (Nat.le_of_lt hk), upTo_length zs (Nat.le_of_lt hk)] at h
  exact h
theorem upTo_total (zs : List Nat) (h : ∀ z ∈ zs, z ≤ 6) (k : Nat) : total (upTo zs k) + total (fromOn zs k) ≤ zs.length * 9 := by
  have h1 := ccls_total (zs.take k) 6 (fun z hz => h z (List.mem_of_mem_take hz)) 0
  have h2 := ccls_total (zs.drop k) 6 (fun z hz => h z (List.mem_of_mem_drop hz)) k
  rw [List.length_take] at h1
  rw [List.length_drop] at h2
  unfold upTo fromOn
  omega
theorem lits_first (i z : Nat) (hz : 0 < z) : (ccl i z).lits.getD 0 0 = 10 * (i : Int) + 1 := by
  cases z with
  | zero => omega
  | succ z => simp [ccl, litsFrom, List.range_succ_eq_map]
section
variable (d : Nat → Bool) (zs : List Nat) {k : Nat}
theorem step_yes (hk : k < zs.length) (hd : d k = true) : mark d 0 (upTo zs (k + 1)) = mark d 0 (upTo zs k) ++ [kill (ccl k (zs.getD k 0))] := by
  rw [upTo_snoc zs hk, mark_snoc, upTo_length zs (Nat.le_of_lt hk), hd, if_pos rfl]
theorem step_no (hk : k < zs.length) (hd : d k = false) : mark d 0 (upTo zs (k + 1)) = mark d 0 (upTo zs k) ++ [ccl k (zs.getD k 0)] := by
  rw [upTo_snoc zs hk, mark_snoc, upTo_length zs (Nat.le_of_lt hk), hd]; rfl
theorem words_yes (hk : k < zs.length) (hd : d k = true) : live (mark d 0 (upTo zs (k + 1))) = live (mark d 0 (upTo zs k)) := by
  rw [step_yes d zs hk hd, live_snoc_no _ _ rfl]
theorem words_no (hk : k < zs.length) (hd : d k = false) : live (mark d 0 (upTo zs (k + 1))) = live (mark d 0 (upTo zs k)) ++ [ccl k (zs.getD k 0)] := by
  rw [step_no d zs hk hd, live_snoc _ _ rfl]
/-- the whole, split at number k -/
theorem mark_split (hk : k < zs.length) : mark d 0 (ccls 0 zs) = mark d 0 (upTo zs k) ++ (if d k then kill (ccl k (zs.getD k 0)) else ccl k (zs.getD k 0)) :: mark d (k + 1) (fromOn zs (k + 1)) := by
  rw [← upTo_fromOn zs (Nat.le_of_lt hk), mark_append, upTo_length zs (Nat.le_of_lt hk), fromOn_cons zs hk, Nat.zero_add, mark]
end
end Go.Proofs.Ytnjcegjcaaplgaa
