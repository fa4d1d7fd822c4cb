/- The plain mathematics of clauses in normal form: the one list that rises by the literals' indices and has just the clause's literals. No program is named here. -/
import Derived.Test.YtllgepabjglnaaaLitMath
import Derived.Lib.SlicesCompact
namespace Go.Proofs.Ytllgepabjglnaaa

/-- it rises, by the literals' indices -/
def Rising (c : List Int) : Prop := c.Pairwise fun x y => litIndex x < litIndex y

/-- a literal, put where it belongs, once -/
def insU (x : Int) : List Int → List Int
  | [] => [x]
  | y :: r => if litIndex x < litIndex y then x :: y :: r else if x = y then y :: r else y :: insU x r

/-- the normal form of a clause -/
def normOf (c : List Int) : List Int := c.foldr insU []

theorem mem_insU {x y : Int} : ∀ {c : List Int}, y ∈ insU x c ↔ y = x ∨ y ∈ c
  | [] => by simp [insU]
  | z :: r => by
    unfold insU
    split
    · simp
    · split
      · rename_i h; subst h; simp
      · simp only [List.mem_cons, mem_insU (c := r)]
        constructor
        · rintro (h | h | h) <;> simp [h]
        · rintro (h | h | h) <;> simp [h]
theorem rising_insU {x : Int} : ∀ {c : List Int}, Rising c → Rising (insU x c)
  | [], _ => by simp [insU, Rising]
  | z :: r, h => by
    unfold insU
    have h1 := List.pairwise_cons.1 h
    split
    · rename_i hlt
      refine List.pairwise_cons.2 ⟨fun y hy => ?_, h⟩
      rcases List.mem_cons.1 hy with rfl | hy
      · exact hlt
      · exact Int.lt_trans hlt (h1.1 y hy)
    · split
      · exact h
      · rename_i hn hne
        refine List.pairwise_cons.2 ⟨fun y hy => ?_, rising_insU h1.2⟩
        rcases mem_insU.1 hy with rfl | hy
        · rcases Int.lt_trichotomy (litIndex y) (litIndex z) with h2 | h2 | h2
          · exact absurd h2 hn
          · exact absurd (litIndex_inj h2) hne
          · exact h2
        · exact h1.1 y hy
theorem mem_normOf {y : Int} : ∀ {c : List Int}, y ∈ normOf c ↔ y ∈ c
  | [] => by simp [normOf]
  | x :: r => by
    show y ∈ insU x (normOf r) ↔ _
    rw [mem_insU, mem_normOf, List.mem_cons]
theorem rising_normOf : ∀ c : List Int, Rising (normOf c)
  | [] => by simp [normOf, Rising]
  | x :: r => rising_insU (rising_normOf r)

/-- there is but one list that rises and has just these -/
theorem rising_unique : ∀ {a b : List Int}, Rising a → Rising b → (∀ y, y ∈ a ↔ y ∈ b) → a = b
  | [], [], _, _, _ => rfl
  | [], y :: _, _, _, h => by have := (h y).2 (by simp); cases this
  | x :: _, [], _, _, h => by have := (h x).1 (by simp); cases this
  | x :: r, y :: s, ha, hb, h => by
    have h1 := List.pairwise_cons.1 ha
    have h2 := List.pairwise_cons.1 hb
    have hxy : x = y := by
      rcases List.mem_cons.1 ((h x).1 (by simp)) with e | e
      · exact e
      · rcases List.mem_cons.1 ((h y).2 (by simp)) with e' | e'
        · exact e'.symm
        · have := h1.1 y e'; have := h2.1 x e; omega
    subst hxy
    rw [rising_unique h1.2 h2.2 fun z => ?_]
    have hz := h z
    simp only [List.mem_cons] at hz
    constructor
    · intro hm
      rcases hz.1 (.inr hm) with e | e
      · subst e; have := h1.1 z hm; omega
      · exact e
    · intro hm
      rcases hz.2 (.inr hm) with e | e
      · subst e; have := h2.1 z hm; omega
      · exact e
theorem norm_unique {a c : List Int} (h : Rising a) (hm : ∀ y, y ∈ a ↔ y ∈ c) : a = normOf c :=
  rising_unique h (rising_normOf c) fun y => (hm y).trans mem_normOf.symm
theorem norm_self {c : List Int} (h : Rising c) : normOf c = c := (norm_unique h fun _ => Iff.rfl).symm
theorem norm_norm (c : List Int) : normOf (normOf c) = normOf c := norm_self (rising_normOf c)
theorem norm_eq_iff {c d : List Int} : normOf c = normOf d ↔ ∀ y, y ∈ c ↔ y ∈ d := by
  constructor
  · intro h y
    rw [← mem_normOf (c := c), h, mem_normOf]
  · intro h
    exact norm_unique (rising_normOf c) fun y => mem_normOf.trans (h y)
theorem rising_nodup {c : List Int} (h : Rising c) : c.Nodup := h.imp fun {a b} hlt e => by subst e; omega
theorem norm_len (c : List Int) : (normOf c).length ≤ c.length := by
  have aux : ∀ x (d : List Int), (insU x d).length ≤ d.length + 1 := by
    intro x d
    induction d with
    | nil => simp [insU]
    | cons y r ih => unfold insU; split <;> (try split) <;> simp <;> omega
  induction c with
  | nil => simp [normOf]
  | cons x r ih =>
    have := aux x (normOf r)
    show (insU x (normOf r)).length ≤ _
    simp; omega

/-- without a literal -/
def withoutOf (c : List Int) (l : Int) : List Int := (normOf c).filter fun x => !(x == l)
theorem mem_withoutOf {c : List Int} {l y : Int} : y ∈ withoutOf c l ↔ y ∈ c ∧ y ≠ l := by
  unfold withoutOf; rw [List.mem_filter, mem_normOf]; simp
theorem rising_withoutOf (c : List Int) (l : Int) : Rising (withoutOf c l) := List.Pairwise.filter _ (rising_normOf c)
theorem without_len (c : List Int) (l : Int) : (withoutOf c l).length ≤ c.length := Nat.le_trans (List.length_filter_le _ _) (norm_len c)
/-- two, combined -/
def resolveOf (c d : List Int) (l : Int) : List Int := normOf (withoutOf c l ++ withoutOf d (-l))
theorem mem_resolveOf {c d : List Int} {l y : Int} : y ∈ resolveOf c d l ↔ (y ∈ c ∧ y ≠ l) ∨ (y ∈ d ∧ y ≠ -l) := by
  unfold resolveOf; rw [mem_normOf, List.mem_append, mem_withoutOf, mem_withoutOf]
/-- it has a literal and its negation -/
def tautOf (c : List Int) : Bool := c.any fun x => c.contains (-x)
theorem tautOf_iff {c : List Int} : tautOf c = true ↔ ∃ x, x ∈ c ∧ -x ∈ c := by simp [tautOf]
theorem tautOf_norm (c : List Int) : tautOf (normOf c) = tautOf c := by
  rw [Bool.eq_iff_iff, tautOf_iff, tautOf_iff]; simp only [mem_normOf]

/-! ### what Compact makes of a sorted row -/
theorem compact_sorted (d : Array Int) (hs : ∀ i j, i < j → j < d.size → litIndex d[i]! ≤ litIndex d[j]!) : ∀ m, m ≤ d.size →
    Rising (Lib.compactUpTo d m) ∧ ∀ y, y ∈ Lib.compactUpTo d m ↔ ∃ i, i < m ∧ d[i]! = y
  | 0, _ => ⟨by simp [Lib.compactUpTo, Rising], fun y => by simp [Lib.compactUpTo]⟩
  | m + 1, hm => by
    obtain ⟨h1, h2⟩ := compact_sorted d hs m (by omega)
    rw [Lib.compactUpTo_succ]
    by_cases hk : Lib.keeps d m = true
    · rw [if_pos hk]
      constructor
      · refine List.pairwise_append.2 ⟨h1, by simp, fun a ha b hb => ?_⟩
        obtain ⟨i, hi, rfl⟩ := (h2 a).1 ha
        obtain rfl : b = d[m]! := by simpa using hb
        unfold Lib.keeps at hk
        rcases of_decide_eq_true hk with h0 | hne
        · omega
        · have hle : litIndex d[i]! ≤ litIndex d[m - 1]! := by
            rcases Nat.lt_or_ge i (m - 1) with h | h
            · exact hs i (m - 1) h (by omega)
            · rw [show i = m - 1 by omega]; exact Int.le_refl _
          have hle2 := hs (m - 1) m (by omega) (by omega)
          have : litIndex d[m - 1]! ≠ litIndex d[m]! := fun e => hne (litIndex_inj e).symm
          omega
      · intro y
        simp only [List.mem_append, h2 y, List.mem_singleton]
        constructor
        · rintro (⟨i, hi, e⟩ | e)
          · exact ⟨i, by omega, e⟩
          · exact ⟨m, by omega, e.symm⟩
        · rintro ⟨i, hi, e⟩
          rcases Nat.lt_or_ge i m with h | h
          · exact .inl ⟨i, h, e⟩
          · obtain rfl : i = m := by omega
            exact .inr e.symm
    · rw [if_neg hk, List.append_nil]
      refine ⟨h1, fun y => (h2 y).trans ⟨fun ⟨i, hi, e⟩ => ⟨i, by omega, e⟩, fun ⟨i, hi, e⟩ => ?_⟩⟩
      rcases Nat.lt_or_ge i m with h | h
      · exact ⟨i, h, e⟩
      · obtain rfl : i = m := by omega
        unfold Lib.keeps at hk
        simp at hk
        exact ⟨i - 1, by omega, by rw [← e]; exact hk.2.symm⟩
theorem compact_norm (zs xs : List Int) (hs : zs.Pairwise fun x y => litIndex x ≤ litIndex y) (hm : ∀ y, y ∈ zs ↔ y ∈ xs) : Lib.compact zs = normOf xs := by
  unfold Lib.compact
  have get : ∀ i, i < zs.length → zs.toArray[i]! = zs.getD i 0 := fun i hi => by
    rw [getElem!_pos _ i (by simpa using hi)]; simp [List.getD, hi]
  obtain ⟨h1, h2⟩ := compact_sorted zs.toArray (by
    intro i j hij hj
    simp at hj
    have := List.pairwise_iff_getElem.1 hs i j (by omega) hj hij
    rw [get i (by omega), get j hj]
    simpa [List.getD, show i < zs.length by omega, hj] using this) zs.length (by simp)
  refine norm_unique h1 fun y => (h2 y).trans ?_
  rw [← hm y, List.mem_iff_getElem]
  constructor
  · rintro ⟨i, hi, e⟩
    exact ⟨i, hi, by rw [get i hi] at e; simpa [List.getD, hi] using e⟩
  · rintro ⟨i, hi, e⟩
    exact ⟨i, hi, by rw [get i hi]; simpa [List.getD, hi] using e⟩
end Go.Proofs.Ytllgepabjglnaaa
