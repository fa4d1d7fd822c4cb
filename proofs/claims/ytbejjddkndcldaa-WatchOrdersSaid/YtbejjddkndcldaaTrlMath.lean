/- A trail as mathematics: what is on it, what each call makes of it. -/
import Derived.Test.YtbejjddkndcldaaLitMath
namespace Go.Proofs.Ytbejjddkndcldaa
set_option linter.unusedVariables false
set_option linter.unusedSimpArgs false

/-- a literal on the trail, its level and its reason -/
structure Rec where
  l : Int
  lev : Nat
  rs : Int
/-- what is on a trail, how many came before each decision, the phases -/
structure TS where
  recs : List Rec
  starts : List Nat
  ph : List Bool
def Rec.of (r : Rec) (l : Int) : Prop := r.l = l ∨ r.l = -l
instance (r : Rec) (l : Int) : Decidable (r.of l) := inferInstanceAs (Decidable (_ ∨ _))
theorem Rec.of_abs {r : Rec} {l : Int} : r.of l ↔ r.l.natAbs = l.natAbs := by unfold Rec.of; omega
theorem Rec.of_neg {r : Rec} {l : Int} : r.of (-l) ↔ r.of l := by unfold Rec.of; omega

def findAt : Nat → List Rec → Int → Option (Nat × Rec)
  | _, [], _ => none
  | i, r :: rs, l => if r.of l then some (i, r) else findAt (i + 1) rs l
def find (rs : List Rec) (l : Int) : Option (Nat × Rec) := findAt 0 rs l
theorem findAt_some : ∀ {rs : List Rec} {k : Nat} {l : Int} {i : Nat} {r : Rec}, findAt k rs l = some (i, r) → ∃ j, i = k + j ∧ rs[j]? = some r ∧ r.of l
  | [], _, _, _, _, h => by simp [findAt] at h
  | x :: rs, k, l, i, r, h => by
    unfold findAt at h
    split at h
    · rename_i ho
      simp only [Option.some.injEq, Prod.mk.injEq] at h
      exact ⟨0, by omega, by rw [← h.2]; rfl, h.2 ▸ ho⟩
    · obtain ⟨j, h1, h2, h3⟩ := findAt_some h
      exact ⟨j + 1, by omega, h2, h3⟩
theorem findAt_none : ∀ {rs : List Rec} {k : Nat} {l : Int}, findAt k rs l = none ↔ ∀ r ∈ rs, ¬ r.of l
  | [], _, _ => by simp [findAt]
  | x :: rs, k, l => by
    unfold findAt
    split
    · rename_i ho
      simp [ho]
    · rename_i ho
      rw [findAt_none]
      simp [ho]
theorem find_some {rs : List Rec} {l : Int} {i : Nat} {r : Rec} (h : find rs l = some (i, r)) : rs[i]? = some r ∧ r.of l := by
  obtain ⟨j, h1, h2, h3⟩ := findAt_some h
  obtain rfl : i = j := by omega
  exact ⟨h2, h3⟩
theorem find_none {rs : List Rec} {l : Int} : find rs l = none ↔ ∀ r ∈ rs, ¬ r.of l := findAt_none
theorem find_neg (rs : List Rec) (l : Int) : find rs (-l) = find rs l := by
  unfold find
  generalize 0 = k
  induction rs generalizing k with
  | nil => rfl
  | cons r rs ih => unfold findAt; simp only [Rec.of_neg]; rw [ih]
def Uniq (rs : List Rec) : Prop := rs.Pairwise fun a b => a.l.natAbs ≠ b.l.natAbs
theorem find_uniq {rs : List Rec} (hp : Uniq rs) {i : Nat} {r : Rec} {l : Int} (h : rs[i]? = some r) (ho : r.of l) : find rs l = some (i, r) := by
  rcases hf : find rs l with _ | ⟨j, s⟩
  · exact absurd ho (find_none.1 hf r (List.mem_of_getElem? h))
  · obtain ⟨h1, h2⟩ := find_some hf
    have hij : i = j := by
      obtain ⟨hi, ei⟩ := List.getElem?_eq_some_iff.1 h
      obtain ⟨hj, ej⟩ := List.getElem?_eq_some_iff.1 h1
      have hq := List.pairwise_iff_getElem.1 hp
      rw [Rec.of_abs] at ho h2
      rcases Nat.lt_trichotomy i j with hlt | he | hlt
      · have := hq i j hi hj hlt
        rw [ei, ej] at this
        omega
      · exact he
      · have := hq j i hj hi hlt
        rw [ei, ej] at this
        omega
    subst hij
    rw [h] at h1
    injection h1 with h1
    rw [h1]
theorem findAt_append : ∀ (xs ys : List Rec) (k : Nat) (l : Int), findAt k (xs ++ ys) l = (match findAt k xs l with | some x => some x | none => findAt (k + xs.length) ys l)
  | [], ys, k, l => by simp [findAt]
  | x :: xs, ys, k, l => by
    rw [List.cons_append]
    simp only [findAt]
    split
    · rfl
    · rw [findAt_append xs ys (k + 1) l, List.length_cons, show k + 1 + xs.length = k + (xs.length + 1) by omega]

/-- what each question is answered with -/
def valT (rs : List Rec) (l : Int) : Int := match find rs l with | none => 0 | some x => if x.2.l = l then 1 else -1
def placeT (rs : List Rec) (l : Int) : Int := match find rs l with | none => -1 | some x => x.1
def levT (rs : List Rec) (l : Int) : Int := match find rs l with | none => -1 | some x => x.2.lev
def whyT (rs : List Rec) (l : Int) : Int := match find rs l with | none => -1 | some x => x.2.rs
def phT (ph : List Bool) (v : Int) : Bool := decide (1 ≤ v) && ph.getD (v.toNat - 1) false
def atT (rs : List Rec) (i : Int) : Int := if 0 ≤ i then (rs[i.toNat]?.map Rec.l).getD 0 else 0
theorem valT_none {rs : List Rec} {l : Int} : valT rs l = 0 ↔ find rs l = none := by
  unfold valT
  split
  · rename_i h; simp [h]
  · rename_i x h
    rw [h]
    split <;> simp
theorem valT_neg {rs : List Rec} {l : Int} (h : l ≠ 0) : valT rs (-l) = - valT rs l := by
  unfold valT
  rw [find_neg]
  rcases hf : find rs l with _ | ⟨i, r⟩
  · rfl
  · have := (find_some hf).2
    unfold Rec.of at this
    show (if r.l = -l then (1 : Int) else -1) = -(if r.l = l then (1 : Int) else -1)
    by_cases h1 : r.l = l
    · rw [if_pos h1, if_neg (by omega)]
    · rw [if_neg h1, if_pos (by omega)]; rfl
theorem valT_le (rs : List Rec) (l : Int) : -1 ≤ valT rs l ∧ valT rs l ≤ 1 := by
  unfold valT
  split
  · omega
  · split <;> omega

/-- a trail as it may be -/
structure TS.Good (t : TS) : Prop where
  lit : ∀ r ∈ t.recs, r.l ≠ 0 ∧ r.l.natAbs ≤ t.ph.length
  uniq : Uniq t.recs
  mono : t.starts.Pairwise (· < ·)
  start : ∀ s ∈ t.starts, s < t.recs.length
  lev : ∀ (i : Nat) (r : Rec), t.recs[i]? = some r → r.lev ≤ t.starts.length ∧ ∀ (k s : Nat), t.starts[k]? = some s → (s ≤ i ↔ k < r.lev)
  few : t.ph.length ≤ 100000

theorem nodup_le : ∀ (n : Nat) (xs : List Nat), xs.Nodup → (∀ x ∈ xs, x < n) → xs.length ≤ n
  | 0, xs, _, h => by
    cases xs with
    | nil => simp
    | cons x xs => have := h x (by simp); omega
  | n + 1, xs, hn, h => by
    by_cases hm : n ∈ xs
    · have h1 := nodup_le n (xs.erase n) (hn.erase n) (fun x hx => by
        have h2 := (List.Nodup.mem_erase_iff hn).1 hx
        have := h x h2.2
        have := h2.1
        omega)
      rw [List.length_erase_of_mem hm] at h1
      omega
    · have := nodup_le n xs hn (fun x hx => by
        have := h x hx
        have : x ≠ n := fun e => hm (e ▸ hx)
        omega)
      omega
theorem TS.Good.len {t : TS} (h : t.Good) : t.recs.length ≤ t.ph.length := by
  have h1 := nodup_le t.ph.length (t.recs.map fun r => r.l.natAbs - 1) (by
    rw [List.nodup_iff_pairwise_ne, List.pairwise_map]
    refine List.Pairwise.imp_of_mem ?_ h.uniq
    intro a b ha hb hab
    have := (h.lit a ha).1
    have := (h.lit b hb).1
    omega) (fun x hx => by
      obtain ⟨r, hr, rfl⟩ := List.mem_map.1 hx
      have := h.lit r hr
      omega)
  simpa using h1
theorem TS.Good.starts_len {t : TS} (h : t.Good) : t.starts.length ≤ t.recs.length :=
  nodup_le _ _ (by
    rw [List.nodup_iff_pairwise_ne]
    exact h.mono.imp fun h => by omega) h.start

def TS.fresh (n : Nat) : TS := ⟨[], [], List.replicate n false⟩
theorem TS.Good.fresh {n : Nat} (hn : n ≤ 100000) : (TS.fresh n).Good :=
  ⟨fun r hr => by simp [TS.fresh] at hr, List.Pairwise.nil, List.Pairwise.nil, fun s hs => by simp [TS.fresh] at hs, fun i r hr => by simp [TS.fresh] at hr, by simpa [TS.fresh] using hn⟩

def TS.takes (t : TS) (l : Int) : Bool := litRight l t.ph.length && decide (valT t.recs l = 0)
def TS.push (t : TS) (l rs : Int) : TS := ⟨t.recs ++ [⟨l, t.starts.length, rs⟩], t.starts, t.ph.set (l.natAbs - 1) (decide (0 < l))⟩
def TS.up (t : TS) : TS := ⟨t.recs, t.starts ++ [t.recs.length], t.ph⟩
def TS.put (t : TS) (l rs : Int) : TS := if t.takes l then t.push l rs else t
def TS.dec (t : TS) (l : Int) : TS := if t.takes l then t.up.push l (-1) else t
def TS.back (t : TS) (k : Int) : TS := match t.starts[k.toNat]? with | none => t | some s => ⟨t.recs.take s, t.starts.take k.toNat, t.ph⟩
def TS.gone (t : TS) (k : Int) : List Int := match t.starts[k.toNat]? with | none => [] | some s => ((t.recs.drop s).map Rec.l).reverse
def TS.isVar (t : TS) (v : Int) : Bool := decide (1 ≤ v ∧ v ≤ t.ph.length)
def TS.setPh (t : TS) (v : Int) (b : Bool) : TS := if t.isVar v then ⟨t.recs, t.starts, t.ph.set (v.toNat - 1) b⟩ else t
def TS.moved (t : TS) (f : Int → Option Int) : TS := ⟨t.recs.map fun r => ⟨r.l, r.lev, (f r.rs).getD r.rs⟩, t.starts, t.ph⟩
def TS.asg (t : TS) : List Bool := t.recs.foldl (fun a r => a.set (r.l.natAbs - 1) (decide (0 < r.l))) t.ph

theorem right_abs {l : Int} {n : Nat} (hn : n ≤ 100000) : litRight l n = true ↔ l ≠ 0 ∧ l.natAbs ≤ n := by
  rw [litRight_iff]; omega
theorem TS.takes_iff {t : TS} (h : t.ph.length ≤ 100000) {l : Int} : t.takes l = true ↔ (l ≠ 0 ∧ l.natAbs ≤ t.ph.length) ∧ find t.recs l = none := by
  unfold TS.takes
  rw [Bool.and_eq_true, right_abs h, decide_eq_true_eq, valT_none]
/-- a literal more, at the level that is -/
theorem TS.Good.push {t : TS} (h : t.Good) {l : Int} (hl : l ≠ 0 ∧ l.natAbs ≤ t.ph.length) (hf : find t.recs l = none) (rs : Int) : (t.push l rs).Good := by
  refine ⟨fun r hr => ?_, ?_, h.mono, fun s hs => ?_, fun i r hr => ?_, by simpa [TS.push] using h.few⟩
  · simp only [TS.push, List.mem_append, List.mem_singleton, List.length_set] at hr ⊢
    rcases hr with hr | rfl
    · exact h.lit r hr
    · exact hl
  · refine List.pairwise_append.2 ⟨h.uniq, List.pairwise_singleton _ _, fun a ha b hb => ?_⟩
    obtain rfl := List.mem_singleton.1 hb
    have := find_none.1 hf a ha
    rw [Rec.of_abs] at this
    exact this
  · have := h.start s hs
    simp [TS.push]; omega
  · simp only [TS.push] at hr ⊢
    rcases Nat.lt_or_ge i t.recs.length with hi | hi
    · rw [List.getElem?_append_left hi] at hr
      exact h.lev i r hr
    · rw [List.getElem?_append_right hi] at hr
      obtain ⟨hz, e⟩ := List.getElem?_eq_some_iff.1 hr
      simp at hz
      simp at e
      subst e
      refine ⟨Nat.le_refl _, fun k s hs => ?_⟩
      have h1 := h.start s (List.mem_of_getElem? hs)
      have h2 := (List.getElem?_eq_some_iff.1 hs).1
      show s ≤ i ↔ k < t.starts.length
      omega
/-- a literal more, a level higher -/
theorem TS.Good.dpush {t : TS} (h : t.Good) {l : Int} (hl : l ≠ 0 ∧ l.natAbs ≤ t.ph.length) (hf : find t.recs l = none) (rs : Int) : (t.up.push l rs).Good := by
  refine ⟨fun r hr => ?_, ?_, ?_, fun s hs => ?_, fun i r hr => ?_, by simpa [TS.push, TS.up] using h.few⟩
  · simp only [TS.push, TS.up, List.mem_append, List.mem_singleton, List.length_set] at hr ⊢
    rcases hr with hr | rfl
    · exact h.lit r hr
    · exact hl
  · refine List.pairwise_append.2 ⟨h.uniq, List.pairwise_singleton _ _, fun a ha b hb => ?_⟩
    obtain rfl := List.mem_singleton.1 hb
    have := find_none.1 hf a ha
    rw [Rec.of_abs] at this
    exact this
  · refine List.pairwise_append.2 ⟨h.mono, List.pairwise_singleton _ _, fun a ha b hb => ?_⟩
    obtain rfl := List.mem_singleton.1 hb
    exact h.start a ha
  · simp only [TS.push, TS.up, List.mem_append, List.mem_singleton] at hs
    simp only [TS.push, TS.up, List.length_append, List.length_singleton]
    rcases hs with hs | rfl
    · have := h.start s hs; omega
    · omega
  · simp only [TS.push, TS.up, List.length_append, List.length_singleton] at hr ⊢
    rcases Nat.lt_or_ge i t.recs.length with hi | hi
    · rw [List.getElem?_append_left hi] at hr
      obtain ⟨h1, h2⟩ := h.lev i r hr
      refine ⟨by omega, fun k s hs => ?_⟩
      rcases Nat.lt_or_ge k t.starts.length with hk | hk
      · rw [List.getElem?_append_left hk] at hs
        exact h2 k s hs
      · rw [List.getElem?_append_right hk] at hs
        obtain ⟨hz, e⟩ := List.getElem?_eq_some_iff.1 hs
        simp at hz e
        omega
    · rw [List.getElem?_append_right hi] at hr
      obtain ⟨hz, e⟩ := List.getElem?_eq_some_iff.1 hr
      simp at hz
      simp at e
      subst e
      refine ⟨Nat.le_refl _, fun k s hs => ?_⟩
      show s ≤ i ↔ k < t.starts.length + 1
      have h2 := (List.getElem?_eq_some_iff.1 hs).1
      simp at h2
      have h1 : s ≤ t.recs.length := by
        rcases List.mem_append.1 (List.mem_of_getElem? hs) with h1 | h1
        · have := h.start s h1; omega
        · rw [List.mem_singleton.1 h1]; omega
      omega
theorem TS.Good.put {t : TS} (h : t.Good) (l rs : Int) : (t.put l rs).Good := by
  unfold TS.put
  split
  · rename_i ht
    obtain ⟨h1, h2⟩ := (TS.takes_iff h.few).1 ht
    exact h.push h1 h2 rs
  · exact h
theorem TS.Good.dec {t : TS} (h : t.Good) (l : Int) : (t.dec l).Good := by
  unfold TS.dec
  split
  · rename_i ht
    obtain ⟨h1, h2⟩ := (TS.takes_iff h.few).1 ht
    exact h.dpush h1 h2 _
  · exact h
theorem TS.Good.back {t : TS} (h : t.Good) (k : Int) : (t.back k).Good := by
  unfold TS.back
  rcases hs : t.starts[k.toNat]? with _ | s
  · exact h
  · obtain ⟨hk, ek⟩ := List.getElem?_eq_some_iff.1 hs
    have hsl := h.start s (List.mem_of_getElem? hs)
    refine ⟨fun r hr => h.lit r (List.mem_of_mem_take hr), h.uniq.sublist (List.take_sublist _ _), h.mono.sublist (List.take_sublist _ _), fun x hx => ?_, fun i r hr => ?_, h.few⟩
    · show x < (t.recs.take s).length
      rw [List.length_take]
      obtain ⟨j, hj, ej⟩ := List.mem_take_iff_getElem.1 hx
      have := List.pairwise_iff_getElem.1 h.mono j k.toNat (by omega) hk (by omega)
      omega
    · have hi : i < s := by
        have := (List.getElem?_eq_some_iff.1 hr).1
        simp at this
        omega
      have hr' : t.recs[i]? = some r := by
        simp only [List.getElem?_take] at hr
        rwa [if_pos hi] at hr
      obtain ⟨h1, h2⟩ := h.lev i r hr'
      have h3 := h2 _ _ hs
      refine ⟨?_, fun j x hx => ?_⟩
      · show r.lev ≤ (t.starts.take k.toNat).length
        rw [List.length_take]
        omega
      · simp only [List.getElem?_take] at hx
        split at hx
        · exact h2 j x hx
        · cases hx
theorem TS.isVar_iff {t : TS} {v : Int} : t.isVar v = true ↔ 1 ≤ v ∧ v ≤ t.ph.length := by unfold TS.isVar; rw [decide_eq_true_eq]
theorem TS.Good.setPh {t : TS} (h : t.Good) (v : Int) (b : Bool) : (t.setPh v b).Good := by
  unfold TS.setPh
  split
  · exact ⟨fun r hr => by simpa using h.lit r hr, h.uniq, h.mono, h.start, h.lev, by simpa using h.few⟩
  · exact h
theorem TS.Good.moved {t : TS} (h : t.Good) (f : Int → Option Int) : (t.moved f).Good := by
  refine ⟨fun r hr => ?_, ?_, h.mono, fun s hs => by simpa [TS.moved] using h.start s hs, fun i r hr => ?_, h.few⟩
  · obtain ⟨x, hx, rfl⟩ := List.mem_map.1 hr
    exact h.lit x hx
  · exact List.pairwise_map.2 h.uniq
  · simp only [TS.moved, List.getElem?_map, Option.map_eq_some_iff] at hr
    obtain ⟨x, hx, rfl⟩ := hr
    exact h.lev i x hx
theorem TS.put_ph (t : TS) (l rs : Int) : (t.put l rs).ph.length = t.ph.length := by unfold TS.put; split <;> simp [TS.push]
theorem TS.dec_ph (t : TS) (l : Int) : (t.dec l).ph.length = t.ph.length := by unfold TS.dec; split <;> simp [TS.push, TS.up]
theorem TS.back_ph (t : TS) (k : Int) : (t.back k).ph = t.ph := by unfold TS.back; split <;> rfl
theorem TS.setPh_ph (t : TS) (v : Int) (b : Bool) : (t.setPh v b).ph.length = t.ph.length := by unfold TS.setPh; split <;> simp
end Go.Proofs.Ytbejjddkndcldaa
