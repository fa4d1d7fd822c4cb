/- A heap of variables as mathematics: who comes first, a tree, lifted and sunk; and what the document says of it. -/
import Derived.WalkKit
namespace Go.Proofs.Ytnimmlfccgnneaa
set_option linter.unusedVariables false
set_option linter.unusedSimpArgs false

theorem getD_set_nat (l : List Nat) (i x k : Nat) : (l.set i x).getD k 0 = if k = i ∧ i < l.length then x else l.getD k 0 := by
  simp only [List.getD, List.getElem?_set]
  by_cases h : i = k
  · subst h
    by_cases h2 : i < l.length
    · simp [h2]
    · simp [h2, List.getElem?_eq_none (Nat.le_of_not_lt h2)]
  · simp [h, Ne.symm h, show ¬ k = i from fun e => h e.symm]
theorem getD_set_int (l : List Int) (i : Nat) (x : Int) (k : Nat) : (l.set i x).getD k 0 = if k = i ∧ i < l.length then x else l.getD k 0 := by
  simp only [List.getD, List.getElem?_set]
  by_cases h : i = k
  · subst h
    by_cases h2 : i < l.length
    · simp [h2]
    · simp [h2, List.getElem?_eq_none (Nat.le_of_not_lt h2)]
  · simp [h, Ne.symm h, show ¬ k = i from fun e => h e.symm]
theorem getD_set_bool (l : List Bool) (i : Nat) (x : Bool) (k : Nat) : (l.set i x).getD k false = if k = i ∧ i < l.length then x else l.getD k false := by
  simp only [List.getD, List.getElem?_set]
  by_cases h : i = k
  · subst h
    by_cases h2 : i < l.length
    · simp [h2]
    · simp [h2, List.getElem?_eq_none (Nat.le_of_not_lt h2)]
  · simp [h, Ne.symm h, show ¬ k = i from fun e => h e.symm]
theorem getD_big {α : Type} (l : List α) (d : α) {k : Nat} (h : l.length ≤ k) : l.getD k d = d := by simp [List.getD, List.getElem?_eq_none h]
theorem mem_getD {l : List Nat} {v : Nat} : v ∈ l ↔ ∃ i, i < l.length ∧ l.getD i 0 = v := by
  rw [List.mem_iff_getElem]
  constructor
  · rintro ⟨i, h, e⟩
    exact ⟨i, h, by simp [List.getD, h, e]⟩
  · rintro ⟨i, h, e⟩
    exact ⟨i, h, by simpa [List.getD, h] using e⟩

/-- the score of a variable -/
def scV (sc : List Nat) (v : Nat) : Nat := sc.getD (v - 1) 0
/-- v comes before w -/
def ah (sc : List Nat) (v w : Nat) : Prop := scV sc w < scV sc v ∨ (scV sc v = scV sc w ∧ v < w)
theorem ah_trans {sc : List Nat} {a b c : Nat} (h : ah sc a b) (h' : ah sc b c) : ah sc a c := by unfold ah at *; omega
theorem ah_total {sc : List Nat} {a b : Nat} (h : a ≠ b) : ah sc a b ∨ ah sc b a := by unfold ah; omega
theorem ah_asymm {sc : List Nat} {a b : Nat} (h : ah sc a b) : ¬ ah sc b a := by unfold ah at *; omega
def ahB (sc : List Nat) (v w : Nat) : Bool := decide (scV sc w < scV sc v) || (decide (scV sc v = scV sc w) && decide (v < w))
theorem ahB_iff {sc : List Nat} {v w : Nat} : ahB sc v w = true ↔ ah sc v w := by simp [ahB, ah]

/-- the tree is in order, from place K on -/
def Ord (sc tr : List Nat) (K : Nat) : Prop := ∀ j, 0 < j → j < tr.length → K ≤ (j - 1) / 2 → ah sc (tr.getD ((j - 1) / 2) 0) (tr.getD j 0)
structure LiftI (sc tr : List Nat) (i : Nat) : Prop where
  lt : i < tr.length
  ok : ∀ j, 0 < j → j < tr.length → j ≠ i → ah sc (tr.getD ((j - 1) / 2) 0) (tr.getD j 0)
  up : ∀ c, 0 < c → c < tr.length → (c - 1) / 2 = i → 0 < i → ah sc (tr.getD ((i - 1) / 2) 0) (tr.getD c 0)
structure SinkI (sc tr : List Nat) (K i : Nat) : Prop where
  le : K ≤ i
  ok : ∀ j, 0 < j → j < tr.length → K ≤ (j - 1) / 2 → (j - 1) / 2 ≠ i → ah sc (tr.getD ((j - 1) / 2) 0) (tr.getD j 0)
  up : ∀ c, 0 < c → c < tr.length → (c - 1) / 2 = i → 0 < i → K ≤ (i - 1) / 2 → ah sc (tr.getD ((i - 1) / 2) 0) (tr.getD c 0)
def InjT (tr : List Nat) : Prop := ∀ i j, i < tr.length → j < tr.length → tr.getD i 0 = tr.getD j 0 → i = j
def swp (tr : List Nat) (i j : Nat) : List Nat := (tr.set i (tr.getD j 0)).set j (tr.getD i 0)
section
variable {sc tr : List Nat} {i j K n : Nat}
theorem swp_len : (swp tr i j).length = tr.length := by simp [swp]
theorem swp_get (hi : i < tr.length) (hj : j < tr.length) (k : Nat) : (swp tr i j).getD k 0 = if k = j then tr.getD i 0 else if k = i then tr.getD j 0 else tr.getD k 0 := by
  unfold swp
  rw [getD_set_nat, getD_set_nat, List.length_set]
  simp [hi, hj]
theorem swp_mem (hi : i < tr.length) (hj : j < tr.length) (v : Nat) : v ∈ swp tr i j ↔ v ∈ tr := by
  rw [mem_getD, mem_getD]
  constructor
  · rintro ⟨k, hk, e⟩
    rw [swp_len] at hk
    rw [swp_get hi hj] at e
    split at e
    · exact ⟨i, hi, e⟩
    · split at e
      · exact ⟨j, hj, e⟩
      · exact ⟨k, hk, e⟩
  · rintro ⟨k, hk, e⟩
    by_cases e1 : k = i
    · subst e1
      exact ⟨j, by rw [swp_len]; exact hj, by rw [swp_get hi hj, if_pos rfl]; exact e⟩
    · by_cases e2 : k = j
      · subst e2
        refine ⟨i, by rw [swp_len]; exact hi, ?_⟩
        rw [swp_get hi hj, if_neg (fun h => e1 h.symm), if_pos rfl]
        exact e
      · exact ⟨k, by rw [swp_len]; exact hk, by rw [swp_get hi hj, if_neg e2, if_neg e1]; exact e⟩
theorem InjT.swp (h : InjT tr) (hi : i < tr.length) (hj : j < tr.length) : InjT (swp tr i j) := by
  intro a b ha hb e
  rw [swp_len] at ha hb
  rw [swp_get hi hj, swp_get hi hj] at e
  have H := fun x y hx hy he => h x y hx hy he
  split at e <;> split at e <;> (try split at e) <;> (try split at e) <;> first
    | omega
    | (have := H _ _ (by omega) (by omega) e; omega)

theorem lift_step (h : LiftI sc tr i) (hi : 0 < i) (ha : ah sc (tr.getD i 0) (tr.getD ((i - 1) / 2) 0)) : LiftI sc (swp tr i ((i - 1) / 2)) ((i - 1) / 2) := by
  have hl := h.lt
  obtain ⟨p, hp⟩ : ∃ p, p = (i - 1) / 2 := ⟨_, rfl⟩
  rw [← hp] at ha ⊢
  have hpl : p < tr.length := by omega
  have G := fun k => swp_get hl hpl k
  refine ⟨by rw [swp_len]; exact hpl, fun j h0 h1 h2 => ?_, fun c h0 h1 h2 h3 => ?_⟩
  · rw [swp_len] at h1
    rw [G, G, if_neg h2]
    by_cases e1 : j = i
    · subst e1
      rw [if_pos (by omega), if_pos rfl]
      exact ha
    · rw [if_neg e1]
      have hj := h.ok j h0 h1 e1
      by_cases e2 : (j - 1) / 2 = p
      · rw [if_pos e2]
        rw [e2] at hj
        exact ah_trans ha hj
      · rw [if_neg e2]
        by_cases e3 : (j - 1) / 2 = i
        · rw [if_pos e3]
          have := h.up j h0 h1 e3 hi
          rw [← hp] at this
          exact this
        · rw [if_neg e3]
          exact hj
  · rw [swp_len] at h1
    have hpp : ah sc (tr.getD ((p - 1) / 2) 0) (tr.getD p 0) := h.ok p h3 hpl (by omega)
    rw [G, G, if_neg (by omega), if_neg (by omega), if_neg (by omega)]
    by_cases e1 : c = i
    · rw [if_pos e1]
      exact hpp
    · rw [if_neg e1]
      have := h.ok c h0 h1 e1
      rw [h2] at this
      exact ah_trans hpp this
theorem lift_end0 (h : LiftI sc tr 0) : Ord sc tr 0 := fun j h0 h1 _ => h.ok j h0 h1 (by omega)
theorem lift_end (h : LiftI sc tr i) (hi : 0 < i) (hj : InjT tr) (hn : ¬ ah sc (tr.getD i 0) (tr.getD ((i - 1) / 2) 0)) : Ord sc tr 0 := by
  intro j h0 h1 _
  by_cases e : j = i
  · subst e
    rcases ah_total (sc := sc) (a := tr.getD j 0) (b := tr.getD ((j - 1) / 2) 0) (fun e => by have := hj _ _ h1 (by omega) e; omega) with h2 | h2
    · exact absurd h2 hn
    · exact h2
  · exact h.ok j h0 h1 e
theorem sink_step {f : Nat} (h : SinkI sc tr K i) (hf : f = 2 * i + 1 ∨ f = 2 * i + 2) (hl : f < tr.length) (ha : ah sc (tr.getD f 0) (tr.getD i 0)) (hb : ∀ c, (c = 2 * i + 1 ∨ c = 2 * i + 2) → c < tr.length → c ≠ f → ah sc (tr.getD f 0) (tr.getD c 0)) :
    SinkI sc (swp tr i f) K f := by
  have hi : i < tr.length := by omega
  have hle := h.le
  have G := fun k => swp_get hi hl k
  refine ⟨by omega, fun j h0 h1 h2 h3 => ?_, fun c h0 h1 h2 h3 h4 => ?_⟩
  · rw [swp_len] at h1
    rw [G, G, if_neg h3]
    by_cases e1 : j = f
    · subst e1
      rw [if_pos rfl, if_pos (by omega)]
      exact ha
    · rw [if_neg e1]
      by_cases e2 : (j - 1) / 2 = i
      · rw [if_pos e2, if_neg (by omega)]
        exact hb j (by omega) h1 e1
      · rw [if_neg e2]
        by_cases e3 : j = i
        · subst e3
          rw [if_pos rfl]
          exact h.up f (by omega) hl (by omega) h0 h2
        · rw [if_neg e3]
          exact h.ok j h0 h1 h2 e2
  · rw [swp_len] at h1
    have e : (f - 1) / 2 = i := by omega
    rw [e, G, G, if_neg (by omega), if_pos rfl, if_neg (by omega), if_neg (by omega)]
    have := h.ok c h0 h1 (by omega) (by omega)
    rw [h2] at this
    exact this
theorem sink_end (h : SinkI sc tr K i) (hb : ∀ c, (c = 2 * i + 1 ∨ c = 2 * i + 2) → c < tr.length → ah sc (tr.getD i 0) (tr.getD c 0)) : Ord sc tr K := by
  intro j h0 h1 h2
  by_cases e : (j - 1) / 2 = i
  · rw [e]
    exact hb j (by omega) h1
  · exact h.ok j h0 h1 h2 e
/-- the sink's start -/
theorem SinkI.start (h : Ord sc tr (i + 1)) : SinkI sc tr i i := ⟨Nat.le_refl _, fun j h0 h1 h2 h3 => h j h0 h1 (by omega), fun c h0 h1 h2 h3 h4 => by omega⟩
theorem Ord.mono {K' : Nat} (h : Ord sc tr K) (hk : K ≤ K') : Ord sc tr K' := fun j h0 h1 h2 => h j h0 h1 (by omega)
theorem Ord.far (h : tr.length ≤ 2 * K + 1) : Ord sc tr K := fun j h0 h1 h2 => by omega
/-- the best of a place and its children, so far -/
def BestC (sc tr : List Nat) (i child first : Nat) : Prop :=
  (first = i ∨ (2 * i + 1 ≤ first ∧ first < child ∧ first < tr.length)) ∧ ∀ c, (c = i ∨ (2 * i + 1 ≤ c ∧ c < child)) → c < tr.length → c ≠ first → ah sc (tr.getD first 0) (tr.getD c 0)
theorem BestC.start : BestC sc tr i (2 * i + 1) i := ⟨.inl rfl, fun c h1 h2 h3 => by omega⟩
theorem BestC.step {child first : Nat} (h : BestC sc tr i child first) (hc : 2 * i + 1 ≤ child) (hl : child < tr.length) (ha : ah sc (tr.getD child 0) (tr.getD first 0)) : BestC sc tr i (child + 1) child := by
  refine ⟨.inr ⟨hc, by omega, hl⟩, fun c h1 h2 h3 => ?_⟩
  by_cases e : c = first
  · subst e; exact ha
  · exact ah_trans ha (h.2 c (by omega) h2 e)
theorem BestC.stay {child first : Nat} (h : BestC sc tr i child first) (hj : InjT tr) (hc : 2 * i + 1 ≤ child) (hl : child < tr.length) (ha : ¬ ah sc (tr.getD child 0) (tr.getD first 0)) : BestC sc tr i (child + 1) first := by
  refine ⟨h.1.imp_right (by omega), fun c h1 h2 h3 => ?_⟩
  by_cases e : c = child
  · subst e
    rcases ah_total (sc := sc) (a := tr.getD c 0) (b := tr.getD first 0) (fun e => h3 (hj _ _ h2 (by have := h.1; omega) e)) with h4 | h4
    · exact absurd h4 ha
    · exact h4
  · exact h.2 c (by omega) h2 h3

/-- at the root stands who comes first -/
theorem Ord.root (h : Ord sc tr 0) : ∀ k i, i ≤ k → i < tr.length → i ≠ 0 → ah sc (tr.getD 0 0) (tr.getD i 0) := by
  intro k
  induction k with
  | zero => intro i h1; omega
  | succ k ih =>
    intro i h1 h2 h3
    have h4 := h i (by omega) h2 (by omega)
    by_cases e : (i - 1) / 2 = 0
    · rw [e] at h4; exact h4
    · exact ah_trans (ih ((i - 1) / 2) (by omega) (by omega) e) h4
end

/-- the places of those in the tree -/
structure Con (n : Nat) (tr : List Nat) (pl : List Int) : Prop where
  inj : InjT tr
  rng : ∀ i, i < tr.length → 1 ≤ tr.getD i 0 ∧ tr.getD i 0 ≤ n
  plen : pl.length = n
  here : ∀ i, i < tr.length → pl.getD (tr.getD i 0 - 1) 0 = (i : Nat)
  gone : ∀ v, 1 ≤ v → v ≤ n → v ∉ tr → pl.getD (v - 1) 0 = -1
section
variable {n : Nat} {tr : List Nat} {pl : List Int}
theorem Con.swp {i j : Nat} (h : Con n tr pl) (hi : i < tr.length) (hj : j < tr.length) : Con n (swp tr i j) ((pl.set (tr.getD j 0 - 1) (i : Nat)).set (tr.getD i 0 - 1) (j : Nat)) := by
  have ri := h.rng i hi
  have rj := h.rng j hj
  refine ⟨h.inj.swp hi hj, fun k hk => ?_, by simp [h.plen], fun k hk => ?_, fun v h1 h2 h3 => ?_⟩
  · rw [swp_len] at hk
    rw [swp_get hi hj]
    split
    · exact ri
    · split
      · exact rj
      · exact h.rng k hk
  · rw [swp_len] at hk
    rw [swp_get hi hj, getD_set_int, getD_set_int, List.length_set, h.plen]
    by_cases e1 : k = j
    · subst e1
      rw [if_pos rfl, if_pos ⟨rfl, by omega⟩]
    · rw [if_neg e1]
      by_cases e2 : k = i
      · subst e2
        rw [if_pos rfl, if_neg, if_pos ⟨rfl, by omega⟩]
        rintro ⟨e, -⟩
        have := h.inj _ _ hj hk (by omega)
        omega
      · rw [if_neg e2]
        have rk := h.rng k hk
        rw [if_neg, if_neg]
        · exact h.here k hk
        · rintro ⟨e, -⟩
          have := h.inj _ _ hk hj (by omega)
          omega
        · rintro ⟨e, -⟩
          have := h.inj _ _ hk hi (by omega)
          omega
  · rw [swp_mem hi hj] at h3
    have gi : tr.getD i 0 ∈ tr := mem_getD.2 ⟨i, hi, rfl⟩
    have gj : tr.getD j 0 ∈ tr := mem_getD.2 ⟨j, hj, rfl⟩
    rw [getD_set_int, getD_set_int, if_neg, if_neg]
    · exact h.gone v h1 h2 h3
    · rintro ⟨e, -⟩
      rw [show v = tr.getD j 0 by omega] at h3
      exact h3 gj
    · rintro ⟨e, -⟩
      rw [show v = tr.getD i 0 by omega] at h3
      exact h3 gi
theorem getD_take_nat (l : List Nat) {i k : Nat} (h : i < k) : (l.take k).getD i 0 = l.getD i 0 := by simp [List.getD, h]
theorem Con.pop {k : Nat} (h : Con n tr pl) (hk : tr.length = k + 1) : Con n (tr.take k) (pl.set (tr.getD k 0 - 1) (-1)) := by
  have hl : (tr.take k).length = k := by simp [hk]
  have rk := h.rng k (by omega)
  refine ⟨fun i j hi hj e => ?_, fun i hi => ?_, by simp [h.plen], fun i hi => ?_, fun v h1 h2 h3 => ?_⟩
  · rw [hl] at hi hj
    rw [getD_take_nat _ hi, getD_take_nat _ hj] at e
    exact h.inj _ _ (by omega) (by omega) e
  · rw [hl] at hi
    rw [getD_take_nat _ hi]
    exact h.rng i (by omega)
  · rw [hl] at hi
    have ri := h.rng i (by omega)
    rw [getD_take_nat _ hi, getD_set_int, if_neg]
    · exact h.here i (by omega)
    · rintro ⟨e, -⟩
      have := h.inj _ _ (show i < tr.length by omega) (show k < tr.length by omega) (by omega)
      omega
  · rw [getD_set_int, h.plen]
    by_cases e : v = tr.getD k 0
    · rw [if_pos ⟨by rw [e], by omega⟩]
    · rw [if_neg (by omega)]
      refine h.gone v h1 h2 fun hm => h3 ?_
      obtain ⟨i, hi, e2⟩ := mem_getD.1 hm
      have : i ≠ k := by rintro rfl; exact e e2.symm
      exact mem_getD.2 ⟨i, by omega, by rw [getD_take_nat _ (by omega)]; exact e2⟩
theorem pop_mem {k : Nat} (h : Con n tr pl) (hk : tr.length = k + 1) (v : Nat) : v ∈ tr.take k ↔ v ∈ tr ∧ v ≠ tr.getD k 0 := by
  have hl : (tr.take k).length = k := by simp [hk]
  rw [mem_getD, mem_getD]
  constructor
  · rintro ⟨i, hi, e⟩
    rw [hl] at hi
    rw [getD_take_nat _ hi] at e
    refine ⟨⟨i, by omega, e⟩, ?_⟩
    rw [← e]
    intro e2
    have := h.inj _ _ (show i < tr.length by omega) (show k < tr.length by omega) e2
    omega
  · rintro ⟨⟨i, hi, e⟩, hne⟩
    have : i ≠ k := by rintro rfl; exact hne e.symm
    exact ⟨i, by omega, by rw [getD_take_nat _ (by omega)]; exact e⟩
theorem getD_snoc (l : List Nat) (v i : Nat) : (l ++ [v]).getD i 0 = if i = l.length then v else l.getD i 0 := by
  by_cases h : i < l.length
  · rw [if_neg (by omega)]
    simp [List.getD, List.getElem?_append_left h]
  · by_cases e : i = l.length
    · subst e; simp [List.getD]
    · rw [if_neg e, getD_big _ _ (by simp; omega), getD_big _ _ (by omega)]
theorem Con.push {v : Nat} (h : Con n tr pl) (h1 : 1 ≤ v) (h2 : v ≤ n) (hm : v ∉ tr) : Con n (tr ++ [v]) (pl.set (v - 1) (tr.length : Nat)) := by
  have hne : ∀ i, i < tr.length → tr.getD i 0 ≠ v := fun i hi e => hm (mem_getD.2 ⟨i, hi, e⟩)
  refine ⟨fun i j hi hj e => ?_, fun i hi => ?_, by simp [h.plen], fun i hi => ?_, fun u h3 h4 h5 => ?_⟩
  · rw [List.length_append, List.length_singleton] at hi hj
    rw [getD_snoc, getD_snoc] at e
    split at e <;> split at e
    · omega
    · exact absurd e.symm (hne j (by omega))
    · exact absurd e (hne i (by omega))
    · exact h.inj _ _ (by omega) (by omega) e
  · rw [List.length_append, List.length_singleton] at hi
    rw [getD_snoc]
    split
    · omega
    · exact h.rng i (by omega)
  · rw [List.length_append, List.length_singleton] at hi
    rw [getD_snoc, getD_set_int, h.plen]
    by_cases e : i = tr.length
    · rw [if_pos e, if_pos ⟨rfl, by omega⟩, e]
    · rw [if_neg e, if_neg]
      · exact h.here i (by omega)
      · rintro ⟨e2, -⟩
        have := h.rng i (by omega)
        exact hne i (by omega) (by omega)
  · rw [List.mem_append, List.mem_singleton] at h5
    rw [getD_set_int, if_neg (by omega)]
    exact h.gone u h3 h4 fun e => h5 (.inl e)
theorem Con.in_iff {v : Nat} (h : Con n tr pl) (h1 : 1 ≤ v) (h2 : v ≤ n) : pl.getD (v - 1) 0 ≠ -1 ↔ v ∈ tr := by
  constructor
  · intro h3
    by_cases hm : v ∈ tr
    · exact hm
    · exact absurd (h.gone v h1 h2 hm) h3
  · intro hm
    obtain ⟨i, hi, e⟩ := mem_getD.1 hm
    have := h.here i hi
    rw [e] at this
    omega
theorem Con.nodup (h : Con n tr pl) : tr.Nodup := by
  rw [List.Nodup, List.pairwise_iff_getElem]
  intro i j hi hj hij e
  have := h.inj i j hi hj (by simpa [List.getD, hi, hj] using e)
  omega
/-- as many as there are in -/
theorem Con.count (h : Con n tr pl) (p : Nat → Bool) (hp : ∀ v, 1 ≤ v → v ≤ n → (v ∈ tr ↔ p v = true)) : tr.length = ((List.range n).filter fun k => p (k + 1)).length := by
  have hd : (((List.range n).filter fun k => p (k + 1)).map (· + 1)).Nodup := by
    rw [List.Nodup, List.pairwise_map]
    refine List.Pairwise.imp ?_ (List.Pairwise.filter _ (List.nodup_range (n := n)))
    intro a b hab e
    exact hab (by omega)
  have hp2 : tr.Perm (((List.range n).filter fun k => p (k + 1)).map (· + 1)) := by
    rw [List.perm_ext_iff_of_nodup h.nodup hd]
    intro v
    simp only [List.mem_map, List.mem_filter, List.mem_range]
    constructor
    · intro hv
      obtain ⟨i, hi, e⟩ := mem_getD.1 hv
      have hr := h.rng i hi
      rw [e] at hr
      refine ⟨v - 1, ⟨by omega, ?_⟩, by omega⟩
      rw [show v - 1 + 1 = v by omega]
      exact (hp v hr.1 hr.2).1 hv
    · rintro ⟨k, ⟨h1, h2⟩, rfl⟩
      exact (hp (k + 1) (by omega) (by omega)).2 h2
  rw [hp2.length_eq, List.length_map]
theorem Con.le (h : Con n tr pl) : tr.length ≤ n := by
  rw [h.count (fun v => decide (v ∈ tr)) fun v _ _ => by simp]
  have := List.length_filter_le (fun k => decide (k + 1 ∈ tr)) (List.range n)
  simpa using this
end

/-- the first one, of the first k -/
def best (sc : List Nat) (inn : List Bool) : Nat → Nat
  | 0 => 0
  | k + 1 => if inn.getD k false = true ∧ (best sc inn k = 0 ∨ scV sc (best sc inn k) < sc.getD k 0) then k + 1 else best sc inn k
theorem best_spec (sc : List Nat) (inn : List Bool) (k : Nat) :
    (best sc inn k = 0 ∧ ∀ u, 1 ≤ u → u ≤ k → inn.getD (u - 1) false = false) ∨
    (1 ≤ best sc inn k ∧ best sc inn k ≤ k ∧ inn.getD (best sc inn k - 1) false = true ∧ ∀ u, 1 ≤ u → u ≤ k → inn.getD (u - 1) false = true → u ≠ best sc inn k → ah sc (best sc inn k) u) := by
  induction k with
  | zero => exact .inl ⟨rfl, fun u h1 h2 => by omega⟩
  | succ k ih =>
    have e : best sc inn (k + 1) = if inn.getD k false = true ∧ (best sc inn k = 0 ∨ scV sc (best sc inn k) < sc.getD k 0) then k + 1 else best sc inn k := rfl
    obtain ⟨b, hb⟩ : ∃ b, best sc inn k = b := ⟨_, rfl⟩
    rw [hb] at e ih
    have hk : scV sc (k + 1) = sc.getD k 0 := by unfold scV; rw [Nat.add_sub_cancel]
    by_cases hc : inn.getD k false = true ∧ (b = 0 ∨ scV sc b < sc.getD k 0)
    · rw [if_pos hc] at e
      rw [e]
      refine .inr ⟨by omega, Nat.le_refl _, by rw [Nat.add_sub_cancel]; exact hc.1, fun u h1 h2 h3 h4 => ?_⟩
      rcases ih with ⟨h5, h6⟩ | ⟨h5, h6, h7, h8⟩
      · rw [h6 u h1 (by omega)] at h3
        cases h3
      · have h9 : scV sc b < sc.getD k 0 := by rcases hc.2 with h | h; omega; exact h
        by_cases e2 : u = b
        · subst e2
          exact .inl (by rw [hk]; exact h9)
        · have := h8 u h1 (by omega) h3 e2
          unfold ah at this ⊢
          rw [hk]
          omega
    · rw [if_neg hc] at e
      rw [e]
      rcases ih with ⟨h5, h6⟩ | ⟨h5, h6, h7, h8⟩
      · refine .inl ⟨h5, fun u h1 h2 => ?_⟩
        by_cases e2 : u = k + 1
        · subst e2
          rw [Nat.add_sub_cancel]
          rw [Bool.eq_false_iff]
          intro h
          exact hc ⟨h, .inl h5⟩
        · exact h6 u h1 (by omega)
      · refine .inr ⟨h5, by omega, h7, fun u h1 h2 h3 h4 => ?_⟩
        by_cases e2 : u = k + 1
        · subst e2
          rw [Nat.add_sub_cancel] at h3
          have : ¬ scV sc b < sc.getD k 0 := fun h => hc ⟨h3, .inr h⟩
          unfold ah
          rw [hk]
          omega
        · exact h8 u h1 (by omega) h3 h4
theorem first_root {sc tr : List Nat} {inn : List Bool} {n : Nat} (ho : Ord sc tr 0) (hl : 0 < tr.length) (hr : ∀ i, i < tr.length → 1 ≤ tr.getD i 0 ∧ tr.getD i 0 ≤ n) (hi : ∀ v, 1 ≤ v → v ≤ n → (v ∈ tr ↔ inn.getD (v - 1) false = true)) : best sc inn n = tr.getD 0 0 := by
  have r0 := hr 0 hl
  have i0 := (hi _ r0.1 r0.2).1 (mem_getD.2 ⟨0, hl, rfl⟩)
  rcases best_spec sc inn n with ⟨h1, h2⟩ | ⟨h1, h2, h3, h4⟩
  · rw [h2 _ r0.1 r0.2] at i0
    cases i0
  · by_cases e : best sc inn n = tr.getD 0 0
    · exact e
    · have h5 := h4 _ r0.1 r0.2 i0 (fun h => e h.symm)
      obtain ⟨i, h6, h7⟩ := mem_getD.1 ((hi _ h1 h2).2 h3)
      have h8 : i ≠ 0 := by rintro rfl; exact e h7.symm
      have h9 := ho.root i i (Nat.le_refl _) h6 h8
      rw [h7] at h9
      exact absurd h9 (ah_asymm h5)
theorem first_none {sc tr : List Nat} {inn : List Bool} {n : Nat} (hl : tr.length = 0) (hi : ∀ v, 1 ≤ v → v ≤ n → (v ∈ tr ↔ inn.getD (v - 1) false = true)) : best sc inn n = 0 := by
  rcases best_spec sc inn n with ⟨h1, h2⟩ | ⟨h1, h2, h3, h4⟩
  · exact h1
  · obtain ⟨i, h6, h7⟩ := mem_getD.1 ((hi _ h1 h2).2 h3)
    omega

/-- what the document says of a heap -/
structure SP where
  sc : List Nat
  inn : List Bool
  rise : Nat
namespace SP
def low (s : SP) : SP := ⟨s.sc.map (· / 1073741824), s.inn, max (s.rise / 1073741824) 1⟩
def isV (s : SP) (v : Int) : Bool := decide (0 < v ∧ v ≤ s.sc.length)
def up (s : SP) (k : Nat) : SP := ⟨s.sc.set k (s.sc.getD k 0 + s.rise), s.inn, s.rise⟩
def bump (s : SP) (v : Int) : SP := if s.isV v = true then (if 1125899906842624 < (s.up (v.toNat - 1)).sc.getD (v.toNat - 1) 0 then (s.up (v.toNat - 1)).low else s.up (v.toNat - 1)) else s
def rose (s : SP) : SP := ⟨s.sc, s.inn, 16 * s.rise / 15 + 1⟩
def decay (s : SP) : SP := if 1125899906842624 < s.rose.rise then s.rose.low else s.rose
def decays (s : SP) : Nat → SP
  | 0 => s
  | k + 1 => (s.decays k).decay
def first (s : SP) : Nat := best s.sc s.inn s.sc.length
def take (s : SP) : SP := if s.first = 0 then s else ⟨s.sc, s.inn.set (s.first - 1) false, s.rise⟩
def isIn (s : SP) (v : Int) : Bool := s.isV v && s.inn.getD (v.toNat - 1) false
def put (s : SP) (v : Int) : SP := if s.isV v = true then ⟨s.sc, s.inn.set (v.toNat - 1) true, s.rise⟩ else s
def score (s : SP) (v : Int) : Nat := if s.isV v = true then s.sc.getD (v.toNat - 1) 0 else 0
def fresh (n : Nat) : SP := ⟨List.replicate n 0, List.replicate n true, 1048576⟩
structure Good (s : SP) (n : Nat) : Prop where
  few : n ≤ 100000
  ls : s.sc.length = n
  li : s.inn.length = n
  cap : ∀ i, s.sc.getD i 0 ≤ 1125899906842624
  rc : s.rise ≤ 1125899906842624
  r1 : 1 ≤ s.rise
theorem isV_iff {s : SP} {v : Int} : s.isV v = true ↔ 0 < v ∧ v ≤ s.sc.length := by simp [isV]
theorem getD_map_div (l : List Nat) (i : Nat) : (l.map (· / 1073741824)).getD i 0 = l.getD i 0 / 1073741824 := by
  by_cases h : i < l.length
  · simp [List.getD, h]
  · rw [getD_big _ _ (by simpa using h), getD_big _ _ (by omega)]
theorem Good.low_of {s : SP} {n : Nat} (few : n ≤ 100000) (ls : s.sc.length = n) (li : s.inn.length = n) (cap : ∀ i, s.sc.getD i 0 ≤ 4503599627370496) (rc : s.rise ≤ 4503599627370496) : s.low.Good n := by
  refine ⟨few, by simp [low, ls], li, fun i => ?_, ?_, ?_⟩
  · show (s.sc.map (· / 1073741824)).getD i 0 ≤ _
    rw [getD_map_div]
    have := cap i
    omega
  · show max (s.rise / 1073741824) 1 ≤ _
    omega
  · show 1 ≤ max (s.rise / 1073741824) 1
    omega
theorem up_cap {s : SP} {n : Nat} (h : s.Good n) (k i : Nat) : (s.up k).sc.getD i 0 ≤ 2251799813685248 := by
  show (s.sc.set k (s.sc.getD k 0 + s.rise)).getD i 0 ≤ _
  rw [getD_set_nat]
  have h1 := h.cap k
  have h2 := h.cap i
  have h3 := h.rc
  split <;> omega
theorem up_get {s : SP} {k : Nat} (h : k < s.sc.length) : (s.up k).sc.getD k 0 = s.sc.getD k 0 + s.rise := by
  show (s.sc.set k (s.sc.getD k 0 + s.rise)).getD k 0 = _
  rw [getD_set_nat, if_pos ⟨rfl, h⟩]
theorem Good.bump {s : SP} {n : Nat} (h : s.Good n) (v : Int) : (s.bump v).Good n := by
  unfold SP.bump
  split
  · rename_i hv
    rw [isV_iff] at hv
    have hk : v.toNat - 1 < s.sc.length := by omega
    split
    · exact Good.low_of h.few (by simp [up, h.ls]) h.li (fun i => Nat.le_trans (up_cap h _ i) (by omega)) (Nat.le_trans h.rc (by omega))
    · rename_i hc
      refine ⟨h.few, by simp [up, h.ls], h.li, fun i => ?_, h.rc, h.r1⟩
      by_cases e : i = v.toNat - 1
      · rw [e]; omega
      · show (s.sc.set _ _).getD i 0 ≤ _
        rw [getD_set_nat, if_neg (by omega)]
        exact h.cap i
  · exact h
theorem Good.decay {s : SP} {n : Nat} (h : s.Good n) : s.decay.Good n := by
  have h1 := h.rc
  have h2 := h.r1
  unfold SP.decay
  split
  · exact Good.low_of h.few h.ls h.li (fun i => Nat.le_trans (h.cap i) (by omega)) (by show 16 * s.rise / 15 + 1 ≤ _; omega)
  · rename_i hc
    exact ⟨h.few, h.ls, h.li, h.cap, by omega, by show 1 ≤ 16 * s.rise / 15 + 1; omega⟩
theorem Good.decays {s : SP} {n : Nat} (h : s.Good n) : ∀ k, (s.decays k).Good n
  | 0 => h
  | k + 1 => (Good.decays h k).decay
theorem Good.take {s : SP} {n : Nat} (h : s.Good n) : s.take.Good n := by
  unfold SP.take
  split
  · exact h
  · exact ⟨h.few, h.ls, by simp [h.li], h.cap, h.rc, h.r1⟩
theorem Good.put {s : SP} {n : Nat} (h : s.Good n) (v : Int) : (s.put v).Good n := by
  unfold SP.put
  split
  · exact ⟨h.few, h.ls, by simp [h.li], h.cap, h.rc, h.r1⟩
  · exact h
theorem Good.fresh {n : Nat} (h : n ≤ 100000) : (SP.fresh n).Good n := by
  refine ⟨h, by simp [SP.fresh], by simp [SP.fresh], fun i => ?_, by show 1048576 ≤ _; omega, by show 1 ≤ 1048576; omega⟩
  show (List.replicate n 0).getD i 0 ≤ _
  by_cases hi : i < n
  · simp [List.getD, hi]
  · rw [getD_big _ _ (by simpa using hi)]; omega
theorem first_le {s : SP} : s.first ≤ s.sc.length := by
  unfold first
  rcases best_spec s.sc s.inn s.sc.length with ⟨h1, _⟩ | ⟨_, h1, _⟩ <;> omega
end SP
end Go.Proofs.Ytnimmlfccgnneaa
