/- The formula that a law makes of raw numbers: plain mathematics. -/
import Derived.Test.YtllgepabjglnaaaCnfMath
namespace Go.Proofs.Ytllgepabjglnaaa

/-- few enough clauses and literals -/
def light (nss : List (List Int)) (k : Nat) : Bool := decide (litCount nss + nss.length ≤ 10 * k) && decide (nss.length ≤ k)
theorem light_iff {nss : List (List Int)} {k : Nat} : light nss k = true ↔ litCount nss + nss.length ≤ 10 * k ∧ nss.length ≤ k := by
  unfold light; simp
theorem light_over {nss : List (List Int)} {k j : Nat} (hj : j ≤ nss.length) (h : 10 * k < litCount (nss.take j) + j) : light nss k = false := by
  rw [Bool.eq_false_iff]
  intro hl
  have := light_iff.1 hl
  have := litCount_take_le nss j
  omega
/-- the literal that a raw number is, of F variables -/
def rawLit (F : Nat) (n : Int) : Int := if n % 2 = 1 then -(1 + n % 65536 / 2 % F) else 1 + n % 65536 / 2 % F
def rawClause (F width : Nat) (c : List Int) : List Int := if F = 0 then [] else (c.take width).map (rawLit F)
def rawForm (F width : Nat) (nss : List (List Int)) : List (List Int) := nss.map (rawClause F width)
theorem rawLit_bd {F : Nat} (hF : 0 < F) (n : Int) : rawLit F n ≠ 0 ∧ -(F : Int) ≤ rawLit F n ∧ rawLit F n ≤ F := by
  have h1 : 0 ≤ n % 65536 / 2 % (F : Int) := Int.emod_nonneg _ (by omega)
  have h2 : n % 65536 / 2 % (F : Int) < F := Int.emod_lt_of_pos _ (by omega)
  unfold rawLit; split <;> omega
theorem rawClause_bd {F width : Nat} {c : List Int} {l : Int} (h : l ∈ rawClause F width c) : 0 < F ∧ l ≠ 0 ∧ -(F : Int) ≤ l ∧ l ≤ F := by
  unfold rawClause at h
  split at h
  · cases h
  · obtain ⟨n, _, rfl⟩ := List.mem_map.1 h
    exact ⟨by omega, rawLit_bd (by omega) n⟩
theorem rawClause_len (F width : Nat) (c : List Int) : (rawClause F width c).length ≤ c.length ∧ (rawClause F width c).length ≤ width := by
  unfold rawClause; split <;> simp <;> omega
theorem rawForm_len (F width : Nat) (nss : List (List Int)) : (rawForm F width nss).length = nss.length := by simp [rawForm]
theorem rawForm_getD (F width : Nat) (nss : List (List Int)) (j : Nat) : (rawForm F width nss).getD j [] = rawClause F width (nss.getD j []) := by
  unfold rawForm
  simp only [List.getD, List.getElem?_map]
  rcases nss[j]? with _ | c
  · simp [rawClause]
  · rfl
theorem rawForm_take (F width : Nat) (nss : List (List Int)) (j : Nat) : (rawForm F width nss).take j = rawForm F width (nss.take j) := by simp [rawForm, List.map_take]
theorem rawForm_count (F width : Nat) (nss : List (List Int)) : litCount (rawForm F width nss) ≤ litCount nss := by
  unfold litCount rawForm
  induction nss with
  | nil => exact Nat.le_refl _
  | cons c r ih =>
    have := (rawClause_len F width c).1
    simp only [List.map_cons, List.sum_cons]
    omega
end Go.Proofs.Ytllgepabjglnaaa
