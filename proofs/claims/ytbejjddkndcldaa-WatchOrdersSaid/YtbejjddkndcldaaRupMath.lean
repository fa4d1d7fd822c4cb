/- What follows from literals, as mathematics. -/
import Derived.WalkKit
namespace Go.Proofs.Ytbejjddkndcldaa
set_option linter.unusedVariables false

/-- what holds under K is closed under the clauses -/
def ClosedP (cs : List (List Int)) (K : Int → Prop) : Prop := ∀ c, c ∈ cs → ∀ x, x ∈ c → (∀ y, y ∈ c → y ≠ x → K (-y)) → K x
/-- x follows from the literals L by the clauses cs: it is in each closed set that has L -/
def Fol (cs : List (List Int)) (L : List Int) (x : Int) : Prop := ∀ K : Int → Prop, (∀ y, y ∈ L → K y) → ClosedP cs K → K x
def Clash (cs : List (List Int)) (L : List Int) : Prop := (∃ x, Fol cs L x ∧ Fol cs L (-x)) ∨ ∃ c, c ∈ cs ∧ ∀ y, y ∈ c → Fol cs L (-y)
section
variable {cs ds : List (List Int)} {L L' : List Int} {x : Int}
theorem Fol.given (h : x ∈ L) : Fol cs L x := fun K h1 _ => h1 x h
theorem Fol.closed : ClosedP cs (Fol cs L) := fun c hc x hx h K h1 h2 => h2 c hc x hx fun y hy hne => h y hy hne K h1 h2
theorem Fol.least {K : Int → Prop} (h : Fol cs L x) (h1 : ∀ y, y ∈ L → K y) (h2 : ClosedP cs K) : K x := h K h1 h2
/-- the same clauses but for the order of clauses and literals -/
def Alike (cs ds : List (List Int)) : Prop := (∀ c, c ∈ cs → ∃ d, d ∈ ds ∧ ∀ y, y ∈ c ↔ y ∈ d) ∧ ∀ d, d ∈ ds → ∃ c, c ∈ cs ∧ ∀ y, y ∈ c ↔ y ∈ d
theorem Alike.refl (cs : List (List Int)) : Alike cs cs := ⟨fun c h => ⟨c, h, fun _ => Iff.rfl⟩, fun c h => ⟨c, h, fun _ => Iff.rfl⟩⟩
theorem Alike.symm (h : Alike cs ds) : Alike ds cs := ⟨fun d hd => by obtain ⟨c, h1, h2⟩ := h.2 d hd; exact ⟨c, h1, fun y => (h2 y).symm⟩, fun c hc => by obtain ⟨d, h1, h2⟩ := h.1 c hc; exact ⟨d, h1, fun y => (h2 y).symm⟩⟩
theorem closed_more {K : Int → Prop} (h : ∀ c, c ∈ cs → ∃ d, d ∈ ds ∧ ∀ y, y ∈ c ↔ y ∈ d) (hk : ClosedP ds K) : ClosedP cs K := fun c hc x hx h1 => by
  obtain ⟨d, hd, hy⟩ := h c hc
  exact hk d hd x ((hy x).1 hx) fun y hy' hne => h1 y ((hy y).2 hy') hne
theorem Fol.more (h : ∀ c, c ∈ cs → ∃ d, d ∈ ds ∧ ∀ y, y ∈ c ↔ y ∈ d) (hL : ∀ y, y ∈ L → y ∈ L') (hx : Fol cs L x) : Fol ds L' x := fun K h1 h2 => hx K (fun y hy => h1 y (hL y hy)) (closed_more h h2)
theorem Clash.more (h : ∀ c, c ∈ cs → ∃ d, d ∈ ds ∧ ∀ y, y ∈ c ↔ y ∈ d) (hL : ∀ y, y ∈ L → y ∈ L') (hx : Clash cs L) : Clash ds L' := by
  rcases hx with ⟨x, h1, h2⟩ | ⟨c, hc, h1⟩
  · exact .inl ⟨x, h1.more h hL, h2.more h hL⟩
  · obtain ⟨d, hd, hy⟩ := h c hc
    exact .inr ⟨d, hd, fun y hy' => (h1 y ((hy y).2 hy')).more h hL⟩
theorem fol_congr (h : Alike cs ds) (hL : ∀ y, y ∈ L ↔ y ∈ L') : Fol cs L x ↔ Fol ds L' x := ⟨fun hx => hx.more h.1 fun y hy => (hL y).1 hy, fun hx => hx.more h.symm.1 fun y hy => (hL y).2 hy⟩
theorem clash_congr (h : Alike cs ds) (hL : ∀ y, y ∈ L ↔ y ∈ L') : Clash cs L ↔ Clash ds L' := ⟨fun hx => hx.more h.1 fun y hy => (hL y).1 hy, fun hx => hx.more h.symm.1 fun y hy => (hL y).2 hy⟩
/-- all that follows stands in a list or comes out of the clauses -/
theorem Fol.lit (h : Fol cs L x) : x ∈ L ∨ ∃ c, c ∈ cs ∧ x ∈ c := h.least (K := fun x => x ∈ L ∨ ∃ c, c ∈ cs ∧ x ∈ c) (fun y hy => .inl hy) fun c hc x hx _ => .inr ⟨c, hc, hx⟩

/-- what a search answers -/
structure Told (cs : List (List Int)) (L r : List Int) (ok : Bool) : Prop where
  yes : ok = true → ¬ Clash cs L ∧ ∀ x, x ∈ r ↔ Fol cs L x
  no : ok = false → Clash cs L ∧ r = []
/-- a closed set of literals that follow, without clash -/
theorem told_yes {r : List Int} (h1 : ∀ x, x ∈ L → x ∈ r) (h2 : ∀ x, x ∈ r → Fol cs L x) (h3 : ClosedP cs (· ∈ r)) (h4 : ∀ x, x ∈ r → -x ∈ r → False) (h5 : ∀ c, c ∈ cs → ¬ ∀ y, y ∈ c → -y ∈ r) : Told cs L r true := by
  have hf : ∀ x, x ∈ r ↔ Fol cs L x := fun x => ⟨h2 x, fun h => h.least (fun y hy => h1 y hy) h3⟩
  refine ⟨fun _ => ⟨?_, hf⟩, fun e => (by cases e)⟩
  rintro (⟨x, a, b⟩ | ⟨c, hc, a⟩)
  · exact h4 x ((hf x).2 a) ((hf _).2 b)
  · exact h5 c hc fun y hy => (hf _).2 (a y hy)
theorem told_no (h : Clash cs L) : Told cs L [] false := ⟨fun e => (by cases e), fun _ => ⟨h, rfl⟩⟩
theorem Told.ok_eq {r r' : List Int} {ok ok' : Bool} (h : Told cs L r ok) (h' : Told ds L' r' ok') (hc : Clash cs L ↔ Clash ds L') : ok = ok' := by
  cases ok <;> cases ok' <;> first | rfl | skip
  · exact absurd (hc.1 (h.no rfl).1) (h'.yes rfl).1
  · exact absurd (hc.2 (h'.no rfl).1) (h.yes rfl).1

/-- a clause that waits at two of its literals -/
theorem closed_of_watch {F : Int → Prop} (hc : ∀ x, F x → F (-x) → False) {c : List Int} {a b : Int} (ha : a ∈ c) (hb : b ∈ c) (hab : a ≠ b) (h1 : F (-a) → F b) (h2 : F (-b) → F a) :
    (∀ x, x ∈ c → (∀ y, y ∈ c → y ≠ x → F (-y)) → F x) ∧ ¬ ∀ y, y ∈ c → F (-y) := by
  refine ⟨fun x hx h => ?_, fun h => hc b (h1 (h a ha)) (h b hb)⟩
  by_cases e : x = a
  · subst e; exact h2 (h b hb (Ne.symm hab))
  · have hb' := h1 (h a ha (Ne.symm e))
    by_cases e2 : x = b
    · subst e2; exact hb'
    · exact (hc b hb' (h b hb (Ne.symm e2))).elim

/-! The plain search, clause by clause. -/
/-- how many unlike literals of a clause have no negation in k (it counts as the loop does), and the last of them -/
def stepL (k : List Int) (s : Nat × Int) (x : Int) : Nat × Int := if (-x) ∉ k ∧ (s.1 = 0 ∨ x ≠ s.2) then (s.1 + 1, x) else s
def scanL (k c : List Int) : Nat × Int := c.foldl (stepL k) (0, 0)
theorem snoc_ind {p : List Int → Prop} (h0 : p []) (h1 : ∀ c x, p c → p (c ++ [x])) (c : List Int) : p c := by
  have h : ∀ d : List Int, p d.reverse := fun d => by
    induction d with
    | nil => exact h0
    | cons x d ih => rw [List.reverse_cons]; exact h1 _ _ ih
  have := h c.reverse
  rwa [List.reverse_reverse] at this
theorem scanL_snoc (k c : List Int) (x : Int) : scanL k (c ++ [x]) = stepL k (scanL k c) x := by simp [scanL]
theorem scanL_len (k : List Int) (c : List Int) : (scanL k c).1 ≤ c.length := by
  refine snoc_ind (p := fun c => (scanL k c).1 ≤ c.length) (by simp [scanL]) (fun c x ih => ?_) c
  · rw [scanL_snoc, List.length_append, List.length_singleton]
    unfold stepL
    split
    · show _ + 1 ≤ _; omega
    · omega
theorem scanL_spec (k : List Int) (c : List Int) : ((scanL k c).1 = 0 → ∀ y, y ∈ c → -y ∈ k) ∧ ((scanL k c).1 = 1 → (scanL k c).2 ∈ c ∧ -(scanL k c).2 ∉ k ∧ ∀ y, y ∈ c → y ≠ (scanL k c).2 → -y ∈ k) ∧
    (2 ≤ (scanL k c).1 → ∃ a b, a ∈ c ∧ b ∈ c ∧ a ≠ b ∧ -a ∉ k ∧ -b ∉ k) := by
  refine snoc_ind (p := fun c => ((scanL k c).1 = 0 → ∀ y, y ∈ c → -y ∈ k) ∧ ((scanL k c).1 = 1 → (scanL k c).2 ∈ c ∧ -(scanL k c).2 ∉ k ∧ ∀ y, y ∈ c → y ≠ (scanL k c).2 → -y ∈ k) ∧
    (2 ≤ (scanL k c).1 → ∃ a b, a ∈ c ∧ b ∈ c ∧ a ≠ b ∧ -a ∉ k ∧ -b ∉ k)) ?_ (fun c x ih => ?_) c
  · exact ⟨fun _ y hy => (by simp at hy), fun h => (by simp [scanL] at h), fun h => (by simp [scanL] at h)⟩
  · obtain ⟨i0, i1, i2⟩ := ih
    rw [scanL_snoc]
    obtain ⟨s, hs⟩ : ∃ s, s = scanL k c := ⟨_, rfl⟩
    rw [← hs] at i0 i1 i2 ⊢
    unfold stepL
    split
    · rename_i hcond
      obtain ⟨hx, hor⟩ := hcond
      refine ⟨fun h => by simp at h, fun h => ?_, fun h => ?_⟩
      · have h0 : s.1 = 0 := by simpa using h
        refine ⟨by simp, hx, fun y hy hne => ?_⟩
        rcases List.mem_append.1 hy with hy | hy
        · exact i0 h0 y hy
        · exact absurd (List.mem_singleton.1 hy) hne
      · have h0 : 1 ≤ s.1 := by
          have : 2 ≤ s.1 + 1 := h
          omega
        by_cases h1 : s.1 = 1
        · obtain ⟨a1, a2, a3⟩ := i1 h1
          exact ⟨s.2, x, by simp [a1], by simp, fun e => by rcases hor with h | h; omega; exact h e.symm, a2, hx⟩
        · obtain ⟨a, b, h3, h4, h5⟩ := i2 (by omega)
          exact ⟨a, b, by simp [h3], by simp [h4], h5⟩
    · rename_i hcond
      have hn : -x ∈ k ∨ (s.1 ≠ 0 ∧ x = s.2) := by
        by_cases hm : -x ∈ k
        · exact .inl hm
        · refine .inr ⟨fun e => hcond ⟨hm, .inl e⟩, ?_⟩
          by_cases e : x = s.2
          · exact e
          · exact absurd ⟨hm, .inr e⟩ hcond
      refine ⟨fun h y hy => ?_, fun h => ?_, fun h => ?_⟩
      · rcases List.mem_append.1 hy with hy | hy
        · exact i0 h y hy
        · rw [List.mem_singleton.1 hy]
          rcases hn with hn | hn
          · exact hn
          · exact absurd h hn.1
      · obtain ⟨a1, a2, a3⟩ := i1 h
        refine ⟨by simp [a1], a2, fun y hy hne => ?_⟩
        rcases List.mem_append.1 hy with hy | hy
        · exact a3 y hy hne
        · rw [List.mem_singleton.1 hy] at hne ⊢
          rcases hn with hn | hn
          · exact hn
          · exact absurd hn.2 hne
      · obtain ⟨a, b, h3, h4, h5⟩ := i2 h
        exact ⟨a, b, by simp [h3], by simp [h4], h5⟩
/-- a list without doubles, in another one: no longer -/
theorem nodup_len : ∀ {a b : List Int}, a.Nodup → (∀ x, x ∈ a → x ∈ b) → a.length ≤ b.length
  | [], _, _, _ => Nat.zero_le _
  | x :: a, b, hn, hs => by
    have hx : x ∈ b := hs x (by simp)
    rw [List.nodup_cons] at hn
    have h2 := nodup_len (a := a) (b := b.erase x) hn.2 fun y hy => by
      have hne : y ≠ x := fun e => hn.1 (e ▸ hy)
      exact (List.mem_erase_of_ne hne).2 (hs y (by simp [hy]))
    have h3 := List.length_erase_of_mem hx
    have h4 := List.length_pos_of_mem hx
    simp only [List.length_cons]
    omega
/-- how things stand in the plain search -/
structure Kin (cs : List (List Int)) (L k : List Int) : Prop where
  ex : ∃ add : List Int, k = L ++ add ∧ add.Nodup ∧ ∀ x, x ∈ add → x ∈ cs.flatten
  fol : ∀ x, x ∈ k → Fol cs L x
theorem Kin.start : Kin cs L L := ⟨⟨[], by simp, List.nodup_nil, fun x h => by simp at h⟩, fun x h => .given h⟩
theorem Kin.sub {k : List Int} (h : Kin cs L k) : ∀ x, x ∈ L → x ∈ k := by
  obtain ⟨add, rfl, _⟩ := h.ex
  exact fun x hx => List.mem_append_left _ hx
theorem Kin.len {k : List Int} (h : Kin cs L k) : k.length ≤ L.length + cs.flatten.length := by
  obtain ⟨add, rfl, h1, h2⟩ := h.ex
  have := nodup_len h1 h2
  rw [List.length_append]; omega
theorem Kin.add {k c : List Int} (h : Kin cs L k) (hc : c ∈ cs) (h1 : (scanL k c).1 = 1) (hn : (scanL k c).2 ∉ k) : Kin cs L (k ++ [(scanL k c).2]) := by
  obtain ⟨add, hk, h2, h3⟩ := h.ex
  obtain ⟨a1, a2, a3⟩ := (scanL_spec k c).2.1 h1
  have h9 : ∀ z, z ∈ add → z ∈ k := fun z hz => by rw [hk]; exact List.mem_append_right L hz
  have hna : (scanL k c).2 ∉ add := fun e => hn (h9 _ e)
  refine ⟨⟨add ++ [(scanL k c).2], by rw [← List.append_assoc, ← hk], List.nodup_append.2 ⟨h2, by simp, fun a ha b hb => by rw [List.mem_singleton] at hb; rw [hb]; exact fun e => hna (e ▸ ha)⟩, fun x hx => ?_⟩, fun x hx => ?_⟩
  · rcases List.mem_append.1 hx with hx | hx
    · exact h3 x hx
    · rw [List.mem_singleton.1 hx]; exact List.mem_flatten.2 ⟨c, hc, a1⟩
  · rcases List.mem_append.1 hx with hx | hx
    · exact h.fol x hx
    · rw [List.mem_singleton.1 hx]
      exact Fol.closed c hc _ a1 fun y hy hne => h.fol _ (a3 y hy hne)
theorem Kin.clash0 {k c : List Int} (h : Kin cs L k) (hc : c ∈ cs) (h0 : (scanL k c).1 = 0) : Clash cs L := .inr ⟨c, hc, fun y hy => h.fol _ ((scanL_spec k c).1 h0 y hy)⟩
theorem Kin.clash1 {k : List Int} (h : Kin cs L k) {x : Int} (h1 : x ∈ k) (h2 : -x ∈ k) : Clash cs L := .inl ⟨x, h.fol x h1, h.fol _ h2⟩
/-- a clause that makes nothing grow -/
def Still (k c : List Int) : Prop := (scanL k c).1 ≠ 0 ∧ ((scanL k c).1 = 1 → (scanL k c).2 ∈ k)
theorem Kin.done {k : List Int} (h : Kin cs L k) (h1 : ∀ x, x ∈ k → -x ∉ k) (h2 : ∀ c, c ∈ cs → Still k c) : Told cs L k true := by
  refine told_yes h.sub h.fol ?_ (fun x hx hn => h1 x hx hn) ?_
  · intro c hc x hx hy
    obtain ⟨s0, s1⟩ := h2 c hc
    obtain ⟨_, b1, b2⟩ := scanL_spec k c
    by_cases e : (scanL k c).1 = 1
    · obtain ⟨a1, a2, a3⟩ := b1 e
      by_cases ex : (scanL k c).2 = x
      · rw [← ex]; exact s1 e
      · exact absurd (hy _ a1 ex) a2
    · obtain ⟨a, b, m1, m2, m3, m4, m5⟩ := b2 (by omega)
      by_cases ea : a = x
      · exact absurd (hy b m2 (fun eb => m3 (ea.trans eb.symm))) m5
      · exact absurd (hy a m1 ea) m4
  · intro c hc hall
    obtain ⟨s0, _⟩ := h2 c hc
    obtain ⟨_, b1, b2⟩ := scanL_spec k c
    by_cases e : (scanL k c).1 = 1
    · obtain ⟨a1, a2, a3⟩ := b1 e
      exact a2 (hall _ a1)
    · obtain ⟨a, b, m1, m2, m3, m4, m5⟩ := b2 (by omega)
      exact m4 (hall a m1)
end
def negs (c : List Int) : List Int := c.map (fun x => -x)
end Go.Proofs.Ytbejjddkndcldaa
