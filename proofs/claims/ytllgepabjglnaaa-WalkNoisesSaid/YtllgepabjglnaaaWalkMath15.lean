/- Walks as mathematics: what a step chooses, what it leaves, walks of many steps. -/
import Derived.Test.YtllgepabjglnaaaLocMath
import Derived.Test.YtllgepabjglnaaaStrm15
import Derived.Test.YtllgepabjglnaaaTab15
namespace Go.Proofs.Ytllgepabjglnaaa
open Go.RowKit
set_option linter.unusedVariables false
set_option linter.unusedSimpArgs false

/-- what a stream still has -/
structure Sg where
  ws : List Nat
  last : Nat
def Sg.next (g : Sg) : Nat := nextOf g.ws g.last
def Sg.after (g : Sg) : Sg := ⟨g.ws.tail, lastOf g.ws g.last⟩
def Sg.adv (g : Sg) : Nat → Sg
  | 0 => g
  | k + 1 => g.after.adv k
theorem Sg.adv_add (g : Sg) : ∀ j k : Nat, g.adv (j + k) = (g.adv j).adv k := fun j => by
  induction j generalizing g with
  | zero => intro k; rw [Nat.zero_add]; rfl
  | succ j ih => intro k; rw [show j + 1 + k = (j + k) + 1 by omega]; exact ih g.after k
/-- how variables are chosen -/
inductive Wy where
  | tab (e : Bool) (b : Nat)
  | noise (n : Nat)
def Wy.Ok : Wy → Prop
  | .tab e b => OkB e b
  | .noise n => n ≤ 1000
def Wy.kind : Wy → Nat
  | .tab e _ => if e = true then 1 else 0
  | .noise _ => 2
def Wy.base : Wy → Nat
  | .tab _ b => b
  | .noise _ => 0
def Wy.nz : Wy → Nat
  | .tab _ _ => 0
  | .noise n => n
/-- the first index of the least, among the first k -/
def leastTo (bs : List Int) : Nat → Nat
  | 0 => 0
  | k + 1 => if bs.getD k 0 < bs.getD (leastTo bs k) 0 then k else leastTo bs k
theorem leastTo_lt (bs : List Int) : ∀ k, 0 < k → leastTo bs k < k
  | 0, h => by omega
  | k + 1, _ => by
    unfold leastTo
    split
    · omega
    · rcases Nat.eq_zero_or_pos k with h | h
      · subst h; exact Nat.zero_lt_one
      · have := leastTo_lt bs k h; omega
theorem leastTo_le (bs : List Int) : ∀ k j, j < k → bs.getD (leastTo bs k) 0 ≤ bs.getD j 0
  | 0, j, h => by omega
  | k + 1, j, h => by
    unfold leastTo
    split
    · rename_i hc
      rcases Nat.lt_or_ge j k with h1 | h1
      · have := leastTo_le bs k j h1; omega
      · have : j = k := by omega
        rw [this]; exact Int.le_refl _
    · rename_i hc
      rcases Nat.lt_or_ge j k with h1 | h1
      · exact leastTo_le bs k j h1
      · have : j = k := by omega
        rw [this]; omega
/-- the place on which a number falls -/
noncomputable def fallI (e : Bool) (b : Nat) (xs : List Int) (r : Nat) : Nat := @dite _ (∃ j, Falls e b xs r j) (Classical.propDecidable _) (fun h => Classical.choose h) fun _ => 0
theorem fallI_spec {e : Bool} {b : Nat} {xs : List Int} {r : Nat} (h : ∃ j, Falls e b xs r j) : Falls e b xs r (fallI e b xs r) := by
  unfold fallI
  rw [dif_pos h]
  exact Classical.choose_spec h
theorem fallI_of {e : Bool} {b : Nat} {xs : List Int} (hx : 0 < xs.length) (n : Nat) : Falls e b xs (n % sumW e b xs) (fallI e b xs (n % sumW e b xs)) := by
  have := len_le_sumW e b xs
  exact fallI_spec (Falls.any (Nat.mod_lt _ (by omega)))
/-- the index that is chosen, and how many are drawn for it -/
noncomputable def chooseF (y : Wy) (bs : List Int) (g : Sg) : Nat × Nat :=
  match y with
  | .tab e b => (fallI e b bs (g.next % sumW e b bs), 1)
  | .noise n => if 0 < bs.getD (leastTo bs bs.length) 0 then (if g.next % 1000 < n then (g.after.next % bs.length, 2) else (leastTo bs bs.length, 1)) else (leastTo bs bs.length, 0)
theorem chooseF_lt (y : Wy) {bs : List Int} (h : 0 < bs.length) (g : Sg) : (chooseF y bs g).1 < bs.length := by
  unfold chooseF
  cases y with
  | tab e b => exact (fallI_of h _).1
  | noise n =>
    have := leastTo_lt bs bs.length h
    have := Nat.mod_lt g.after.next h
    dsimp only
    split
    · split <;> assumption
    · assumption
theorem chooseF_draws (y : Wy) (bs : List Int) (g : Sg) : (chooseF y bs g).2 ≤ 2 := by
  unfold chooseF
  cases y with
  | tab e b => exact Nat.le_succ 1
  | noise n =>
    dsimp only
    split
    · split
      · exact Nat.le_refl 2
      · exact Nat.le_succ 1
    · exact Nat.zero_le 2
/-- the break of anything -/
def breakV (s : LS) (n : Nat) (v : Int) : Nat := if 1 ≤ v ∧ v ≤ n then brk s.hss v.toNat else 0
def breaksOf (s : LS) (n : Nat) (c : List Int) : List Int := c.map fun l => (breakV s n (litVar l) : Int)
theorem breaksOf_len (s : LS) (n : Nat) (c : List Int) : (breaksOf s n c).length = c.length := by simp [breaksOf]
def turnV (z : List Bool) (v : Int) : List Bool := if 1 ≤ v ∧ v ≤ z.length then turn z v.toNat else z
def flipV (s : LS) (z : List Bool) (v : Int) : LS := if 1 ≤ v ∧ v ≤ z.length then s.flip z v.toNat else s
/-- what a walk has come to -/
structure Cfg where
  z : List Bool
  s : LS
  g : Sg
def Cfg.clause (c : Cfg) : List Int := c.s.cls.getD (c.s.row.getD (c.g.next % c.s.row.length) 0) []
/-- the variable that a step turns, and how many it draws -/
noncomputable def stepV (y : Wy) (c : Cfg) : Int × Nat :=
  if c.s.row = [] then (0, 0) else if c.clause = [] then (0, 1) else
    (litVar (c.clause.getD (chooseF y (breaksOf c.s c.z.length c.clause) c.g.after).1 0), 1 + (chooseF y (breaksOf c.s c.z.length c.clause) c.g.after).2)
def Cfg.turned (c : Cfg) (v : Int) (k : Nat) : Cfg := ⟨turnV c.z v, flipV c.s c.z v, c.g.adv k⟩
noncomputable def stepC (y : Wy) (c : Cfg) : Cfg := c.turned (stepV y c).1 (stepV y c).2
/-- so many steps at most: how many there were, how many numbers they drew, and what they came to -/
noncomputable def runF (y : Wy) : Nat → Cfg → Nat × Nat × Cfg
  | 0, c => (0, 0, c)
  | n + 1, c => if c.s.row = [] then (0, 0, c) else ((runF y n (stepC y c)).1 + 1, (runF y n (stepC y c)).2.1 + (stepV y c).2, (runF y n (stepC y c)).2.2)
theorem runF_end (y : Wy) (n : Nat) {c : Cfg} (h : c.s.row = []) : runF y n c = (0, 0, c) := by
  cases n with
  | zero => rfl
  | succ n => unfold runF; rw [if_pos h]
theorem runF_succ (y : Wy) (n : Nat) {c : Cfg} (h : c.s.row ≠ []) : runF y (n + 1) c = ((runF y n (stepC y c)).1 + 1, (runF y n (stepC y c)).2.1 + (stepV y c).2, (runF y n (stepC y c)).2.2) := by
  show (if c.s.row = [] then _ else _) = _
  rw [if_neg h]
theorem runF_add (y : Wy) : ∀ (m n : Nat) (c : Cfg), runF y (m + n) c = ((runF y m c).1 + (runF y n (runF y m c).2.2).1, (runF y m c).2.1 + (runF y n (runF y m c).2.2).2.1, (runF y n (runF y m c).2.2).2.2)
  | 0, n, c => by rw [Nat.zero_add]; simp [runF]
  | m + 1, n, c => by
    by_cases h : c.s.row = []
    · rw [runF_end y _ h, runF_end y _ h]
      simp [runF_end y n h]
    · rw [show m + 1 + n = (m + n) + 1 by omega, runF_succ y _ h, runF_succ y m h, runF_add y m n (stepC y c)]
      simp only [Prod.mk.injEq, and_true]
      constructor <;> omega
theorem runF_le (y : Wy) : ∀ (n : Nat) (c : Cfg), (runF y n c).1 ≤ n
  | 0, c => Nat.le_refl _
  | n + 1, c => by
    unfold runF
    split
    · exact Nat.zero_le _
    · have := runF_le y n (stepC y c)
      show (runF y n (stepC y c)).1 + 1 ≤ n + 1
      omega
/-- it ends where nothing is left, or all steps are done -/
theorem runF_stop (y : Wy) : ∀ (n : Nat) (c : Cfg), (runF y n c).1 = n ∨ (runF y n c).2.2.s.row = []
  | 0, c => .inl rfl
  | n + 1, c => by
    unfold runF
    split
    · exact .inr (by assumption)
    · rcases runF_stop y n (stepC y c) with h | h
      · exact .inl (by show (runF y n (stepC y c)).1 + 1 = n + 1; omega)
      · exact .inr h
theorem stepV_draws (y : Wy) (c : Cfg) : (stepV y c).2 ≤ 3 := by
  unfold stepV
  split
  · exact Nat.zero_le _
  · split
    · exact Nat.le_of_ble_eq_true rfl
    · have := chooseF_draws y (breaksOf c.s c.z.length c.clause) c.g.after
      show 1 + _ ≤ 3
      omega
theorem stepV_one (y : Wy) {c : Cfg} (h : c.s.row ≠ []) : 1 ≤ (stepV y c).2 := by
  unfold stepV
  rw [if_neg h]
  split
  · exact Nat.le_refl _
  · show 1 ≤ 1 + _
    omega
theorem runF_draws (y : Wy) : ∀ (n : Nat) (c : Cfg), (runF y n c).1 ≤ (runF y n c).2.1 ∧ (runF y n c).2.1 ≤ 3 * (runF y n c).1
  | 0, c => ⟨Nat.le_refl _, Nat.le_refl _⟩
  | n + 1, c => by
    unfold runF
    split
    · exact ⟨Nat.le_refl _, Nat.le_refl _⟩
    · rename_i h
      have h1 := runF_draws y n (stepC y c)
      have h2 := stepV_draws y c
      have h3 := stepV_one y h
      show (runF y n (stepC y c)).1 + 1 ≤ (runF y n (stepC y c)).2.1 + (stepV y c).2 ∧ (runF y n (stepC y c)).2.1 + (stepV y c).2 ≤ 3 * ((runF y n (stepC y c)).1 + 1)
      omega
theorem runF_snoc (y : Wy) (n : Nat) (c : Cfg) (h : (runF y n c).2.2.s.row ≠ []) : runF y (n + 1) c = ((runF y n c).1 + 1, (runF y n c).2.1 + (stepV y (runF y n c).2.2).2, stepC y (runF y n c).2.2) := by
  rw [runF_add y n 1 c]
  have : runF y 1 (runF y n c).2.2 = (1, (stepV y (runF y n c).2.2).2, stepC y (runF y n c).2.2) := by
    rw [runF_succ y 0 h]
    simp [runF]
  rw [this]
theorem breaksOf_getD (s : LS) (n : Nat) {c : List Int} {j : Nat} (h : j < c.length) : (breaksOf s n c).getD j 0 = (breakV s n (litVar (c.getD j 0)) : Int) := by simp [breaksOf, List.getD, h]
theorem breaksOf_take (s : LS) (n : Nat) {c : List Int} {j : Nat} (h : j < c.length) : (breaksOf s n c).take (j + 1) = (breaksOf s n c).take j ++ [(breakV s n (litVar (c.getD j 0)) : Int)] := by
  rw [List.take_succ_eq_append_getElem (by rw [breaksOf_len]; exact h)]
  simp [breaksOf, List.getD, h]
end Go.Proofs.Ytllgepabjglnaaa
