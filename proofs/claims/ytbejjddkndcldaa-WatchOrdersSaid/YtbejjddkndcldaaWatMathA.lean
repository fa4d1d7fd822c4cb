/- A propagator as mathematics: its marks, what holds between its calls, what one clause that is examined leaves. A propagator as mathematics: a list gone through; what stays; a whole propagation. -/
import Derived.Test.YtbejjddkndcldaaArenaA
import Derived.Test.YtbejjddkndcldaaTrlMath
import Derived.Test.YtbejjddkndcldaaRupMath
namespace Go.Proofs.Ytbejjddkndcldaa
set_option linter.unusedVariables false
set_option linter.unusedSimpArgs false

structure Mk where
  ref : Int
  oth : Int
  nxt : Nat
structure WS where
  ms : Nat → List Mk
  fresh : List Int
  head : Nat
  heads : List Nat
  vis : Nat

/-! The literals on the trail. -/
def TS.lits (t : TS) : List Int := t.recs.map Rec.l
theorem val_one {t : TS} (h : t.Good) {l : Int} : valT t.recs l = 1 ↔ l ∈ t.lits := by
  constructor
  · intro hv
    unfold valT at hv
    rcases hf : find t.recs l with _ | ⟨i, r⟩
    · rw [hf] at hv; simp at hv
    · rw [hf] at hv
      obtain ⟨h1, h2⟩ := find_some hf
      by_cases e : r.l = l
      · exact List.mem_map.2 ⟨r, List.mem_of_getElem? h1, e⟩
      · simp [e] at hv
  · intro hm
    obtain ⟨r, hr, rfl⟩ := List.mem_map.1 hm
    obtain ⟨i, hi⟩ := List.getElem?_of_mem hr
    unfold valT
    rw [find_uniq h.uniq hi (.inl rfl)]
    simp
theorem val_neg1 {t : TS} (h : t.Good) {l : Int} (h0 : l ≠ 0) : valT t.recs l = -1 ↔ -l ∈ t.lits := by
  rw [← val_one h, valT_neg h0]; omega
theorem lits_both {t : TS} (h : t.Good) {l : Int} (h0 : l ≠ 0) (h1 : l ∈ t.lits) (h2 : -l ∈ t.lits) : False := by
  have := (val_one h).2 h1
  have := (val_neg1 h h0).2 h2
  omega
theorem lits_ne {t : TS} (h : t.Good) {l : Int} (hl : l ∈ t.lits) : l ≠ 0 ∧ l.natAbs ≤ t.ph.length := by
  obtain ⟨r, hr, rfl⟩ := List.mem_map.1 hl
  exact h.lit r hr
theorem val_at0 {t : TS} (h : t.Good) : valT t.recs 0 = 0 := by
  have h1 := valT_le t.recs 0
  have h2 : valT t.recs 0 ≠ 1 := fun e => (lits_ne h ((val_one h).1 e)).1 rfl
  have h3 : valT t.recs 0 ≠ -1 := fun e => by
    unfold valT at e
    rcases hf : find t.recs 0 with _ | ⟨i, r⟩
    · rw [hf] at e; simp at e
    · obtain ⟨h4, h5⟩ := find_some hf
      have := (h.lit r (List.mem_of_getElem? h4)).1
      unfold Rec.of at h5
      omega
  omega
theorem TS.takes_val {t : TS} (h : t.Good) {l : Int} (hl : l ≠ 0 ∧ l.natAbs ≤ t.ph.length) : t.takes l = true ↔ valT t.recs l = 0 := by
  rw [TS.takes_iff h.few, valT_none]
  exact ⟨fun x => x.2, fun x => ⟨hl, x⟩⟩
theorem TS.put_lits {t : TS} (h : t.Good) {l rs : Int} (hl : l ≠ 0 ∧ l.natAbs ≤ t.ph.length) (hv : valT t.recs l = 0) : (t.put l rs).lits = t.lits ++ [l] := by
  unfold TS.put
  rw [if_pos ((TS.takes_val h hl).2 hv)]
  simp [TS.lits, TS.push]
theorem lits_nodup {t : TS} (h : t.Good) : t.lits.Nodup := by
  unfold TS.lits
  rw [List.nodup_iff_pairwise_ne, List.pairwise_map]
  exact h.uniq.imp fun hab e => hab (by rw [e])

def Sat (ls : List Int) (t : TS) : Prop := ∃ x, x ∈ ls ∧ x ∈ t.lits
theorem Sat.more {ls ls' : List Int} {t t' : TS} (h : Sat ls t) (h1 : ∀ x, x ∈ ls → x ∈ ls') (h2 : ∀ x, x ∈ t.lits → x ∈ t'.lits) : Sat ls' t' := by
  obtain ⟨x, a, b⟩ := h
  exact ⟨x, h1 x a, h2 x b⟩

/-! Clauses, their literals in any order. -/
def putL (cs : List Cl) (r : Int) (ls : List Int) : List Cl := modAt (fun c => { c with lits := ls }) cs r
theorem putL_mid (pre post : List Cl) (cl : Cl) (ls : List Int) : putL (pre ++ cl :: post) (total pre) ls = pre ++ { cl with lits := ls } :: post := modAt_mid _ _ _ _
theorem at?_putL {cs : List Cl} {r : Int} {cl : Cl} {ls : List Int} (h : at? cs r = some cl) (hl : ls.length = cl.lits.length) (y : Int) : at? (putL cs r ls) y = if y = r then some { cl with lits := ls } else at? cs y := by
  obtain ⟨pre, post, rfl, rfl, ha⟩ := at?_some h
  rw [putL_mid]
  by_cases hy : y = total pre
  · rw [if_pos hy, hy, at?_mid]; simp [ha]
  · rw [if_neg hy]; exact at?_other pre post _ _ (by simp [Cl.size, hl]) hy
theorem total_putL {cs : List Cl} {r : Int} {cl : Cl} {ls : List Int} (h : at? cs r = some cl) (hl : ls.length = cl.lits.length) : total (putL cs r ls) = total cs := by
  obtain ⟨pre, post, rfl, rfl, ha⟩ := at?_some h
  rw [putL_mid]
  exact total_mid pre post _ _ (by simp [Cl.size, hl])
theorem putL_putL {cs : List Cl} {r : Int} {cl : Cl} {ls ls' : List Int} (h : at? cs r = some cl) : putL (putL cs r ls) r ls' = putL cs r ls' := by
  obtain ⟨pre, post, rfl, rfl, ha⟩ := at?_some h
  rw [putL_mid, putL_mid, putL_mid]
theorem putL_self {cs : List Cl} {r : Int} {cl : Cl} (h : at? cs r = some cl) : putL cs r cl.lits = cs := by
  obtain ⟨pre, post, rfl, rfl, ha⟩ := at?_some h
  rw [putL_mid]
theorem swapOf_get {xs : List Int} {i k j : Nat} (hi : i < xs.length) (hk : k < xs.length) : (swapOf xs i k)[j]? = if j = k then xs[i]? else if j = i then xs[k]? else xs[j]? := by
  unfold swapOf
  by_cases h1 : j = k
  · subst h1
    rw [if_pos rfl, List.getElem?_set_self (by simpa using hk), List.getElem?_eq_getElem hi]
    simp [List.getD, hi]
  · rw [if_neg h1, List.getElem?_set_ne (by omega)]
    by_cases h2 : j = i
    · subst h2
      rw [if_pos rfl, List.getElem?_set_self hi, List.getElem?_eq_getElem hk]
      simp [List.getD, hk]
    · rw [if_neg h2, List.getElem?_set_ne (by omega)]
theorem swapOf_perm {xs : List Int} {i k : Nat} (hi : i < xs.length) (hk : k < xs.length) : (swapOf xs i k).Perm xs := by
  have h := Array.swap_perm (xs := xs.toArray) (i := i) (j := k) (by simpa using hi) (by simpa using hk)
  have e : (xs.toArray.swap i k (by simpa using hi) (by simpa using hk)).toList = swapOf xs i k := by
    unfold swapOf
    simp [Array.swap, List.getD, hi, hk]
  have h2 := h.toList
  rw [e] at h2
  simpa using h2
theorem swapOf_self {xs : List Int} {k : Nat} (hk : k < xs.length) : swapOf xs k k = xs := by
  refine List.ext_getElem? fun j => ?_
  rw [swapOf_get hk hk]
  split
  · rename_i e; rw [e]
  · rfl

structure Cls (N : Nat) (cs0 cs : List Cl) : Prop where
  tot : total cs = total cs0
  perm : ∀ r, (at? cs r = none ∧ at? cs0 r = none) ∨ ∃ cl c0, at? cs r = some cl ∧ at? cs0 r = some c0 ∧ cl.lits.Perm c0.lits
  lit : ∀ r c, at? cs0 r = some c → c.lits.Nodup ∧ ∀ x ∈ c.lits, x ≠ 0 ∧ x.natAbs ≤ N
section
variable {N : Nat} {cs0 cs : List Cl}
theorem Cls.at (h : Cls N cs0 cs) {r : Int} {cl : Cl} (hc : at? cs r = some cl) : cl.lits.Nodup ∧ (∀ x ∈ cl.lits, x ≠ 0 ∧ x.natAbs ≤ N) ∧ ∃ c0, at? cs0 r = some c0 ∧ cl.lits.Perm c0.lits := by
  rcases h.perm r with ⟨h1, _⟩ | ⟨cl', c0, h1, h2, h3⟩
  · rw [hc] at h1; cases h1
  · rw [hc] at h1
    injection h1 with h1
    subst h1
    obtain ⟨a, b⟩ := h.lit r c0 h2
    exact ⟨h3.nodup_iff.2 a, fun x hx => b x (h3.mem_iff.1 hx), c0, h2, h3⟩
theorem Cls.putL (h : Cls N cs0 cs) {r : Int} {cl : Cl} (hc : at? cs r = some cl) {ls : List Int} (hp : ls.Perm cl.lits) : Cls N cs0 (putL cs r ls) := by
  refine ⟨(total_putL hc hp.length_eq).trans h.tot, fun y => ?_, h.lit⟩
  rw [at?_putL hc hp.length_eq]
  by_cases hy : y = r
  · subst hy
    rw [if_pos rfl]
    obtain ⟨_, _, c0, h1, h2⟩ := h.at hc
    exact .inr ⟨_, c0, rfl, h1, hp.trans h2⟩
  · rw [if_neg hy]
    exact h.perm y
end
/-- a literal at which a clause is watched -/
def W2 (ls : List Int) (l : Int) : Prop := ls[0]? = some l ∨ ls[1]? = some l
theorem W2.mem {ls : List Int} {l : Int} (h : W2 ls l) : l ∈ ls := h.elim List.mem_of_getElem? List.mem_of_getElem?

structure Lst (N : Nat) (cs : List Cl) (ms : Nat → List Mk) : Prop where
  mark : ∀ i, i < 2 * N → ∀ m ∈ ms i, ∃ cl, at? cs m.ref = some cl ∧ W2 cl.lits (litAt i) ∧ (m.oth = 0 ∨ m.oth ∈ cl.lits) ∧ 2 ≤ m.nxt ∧ (m.nxt = 2 ∨ m.nxt ≤ cl.lits.length)
  nd : ∀ i, i < 2 * N → ((ms i).map Mk.ref).Nodup
  all : ∀ r cl l, at? cs r = some cl → W2 cl.lits l → ∃ m ∈ ms (litIndex l).toNat, m.ref = r
def Dn (cs : List Cl) (t : TS) (h : Nat) : Prop := ∀ r cl l, at? cs r = some cl → W2 cl.lits l → -l ∈ t.lits.take h → Sat cl.lits t
def Shorts (cs : List Cl) (t : TS) (fr : List Int) : Prop := ∀ r cl, at? cs r = some cl → cl.lits.length < 2 → r ∈ fr ∨ Sat cl.lits t

theorem mem_cs {cs : List Cl} {r : Int} {c : Cl} (h : at? cs r = some c) : c ∈ cs := by
  obtain ⟨pre, post, rfl, _, _⟩ := at?_some h
  simp
theorem cs_mem {cs : List Cl} {c : Cl} (h : c ∈ cs) (ha : c.alive = true) : ∃ r, at? cs r = some c := by
  obtain ⟨pre, post, rfl⟩ := List.append_of_mem h
  exact ⟨total pre, by rw [at?_mid, if_pos ha]⟩
/-- when all is gone through, what stands on the trail is what follows -/
theorem told_done {N : Nat} {cs0 cs : List Cl} {t : TS} {L0 : List Int} (hc : Cls N cs0 cs) (hal : ∀ c ∈ cs0, c.alive = true) (hg : t.Good) (hd : Dn cs t t.lits.length) (hs : Shorts cs t []) (h0 : ∀ x, x ∈ L0 → x ∈ t.lits) (hf : ∀ x, x ∈ t.lits → Fol (cs0.map Cl.lits) L0 x) : Told (cs0.map Cl.lits) L0 t.lits true := by
  have hcl : ∀ c, c ∈ cs0.map Cl.lits → ∃ r cl, at? cs r = some cl ∧ cl.lits.Perm c := fun c h => by
    obtain ⟨c0, h1, rfl⟩ := List.mem_map.1 h
    obtain ⟨r, hr⟩ := cs_mem h1 (hal c0 h1)
    rcases hc.perm r with ⟨_, h2⟩ | ⟨cl, c1, h2, h3, h4⟩
    · rw [hr] at h2; cases h2
    · rw [hr] at h3
      injection h3 with h3
      subst h3
      exact ⟨r, cl, h2, h4⟩
  have hw : ∀ r cl l, at? cs r = some cl → W2 cl.lits l → -l ∈ t.lits → Sat cl.lits t := fun r cl l h1 h2 h3 => hd r cl l h1 h2 (by rw [List.take_length]; exact h3)
  refine told_yes h0 hf ?_ (fun x h1 h2 => lits_both hg (lits_ne hg h1).1 h1 h2) ?_
  · intro c hcm x hx hy
    obtain ⟨r, cl, h1, h2⟩ := hcl c hcm
    obtain ⟨hn, hl, _⟩ := hc.at h1
    have fin : Sat cl.lits t → x ∈ t.lits := fun ⟨z, z1, z2⟩ => by
      by_cases e : z = x
      · rw [← e]; exact z2
      · exact (lits_both hg (lits_ne hg z2).1 z2 (hy z (h2.mem_iff.1 z1) e)).elim
    rcases Nat.lt_or_ge cl.lits.length 2 with h3 | h3
    · exact fin ((hs r cl h1 h3).resolve_left (by simp))
    · have e0 : cl.lits[0]? = some cl.lits[0] := List.getElem?_eq_getElem _
      have e1 : cl.lits[1]? = some cl.lits[1] := List.getElem?_eq_getElem _
      have hne : cl.lits[0] ≠ cl.lits[1] := fun e => by
        have := List.pairwise_iff_getElem.1 (List.nodup_iff_pairwise_ne.1 hn) 0 1 (by omega) (by omega) (by omega)
        exact this e
      by_cases ex : cl.lits[0] = x
      · exact fin (hw r cl _ h1 (.inr e1) (hy _ (h2.mem_iff.1 (List.getElem_mem _)) (fun e => hne (ex.trans e.symm))))
      · exact fin (hw r cl _ h1 (.inl e0) (hy _ (h2.mem_iff.1 (List.getElem_mem _)) ex))
  · intro c hcm hy
    obtain ⟨r, cl, h1, h2⟩ := hcl c hcm
    have fin : ¬ Sat cl.lits t := fun ⟨z, z1, z2⟩ => lits_both hg (lits_ne hg z2).1 z2 (hy z (h2.mem_iff.1 z1))
    rcases Nat.lt_or_ge cl.lits.length 2 with h3 | h3
    · exact fin ((hs r cl h1 h3).resolve_left (by simp))
    · have e0 : cl.lits[0]? = some cl.lits[0] := List.getElem?_eq_getElem _
      exact fin (hw r cl _ h1 (.inl e0) (hy _ (h2.mem_iff.1 (List.getElem_mem _))))

/-! One clause examined. -/
/-- the literals of a clause, the one that is false behind the first -/
def arr (ls : List Int) (l : Int) : List Int := if ls.getD 0 0 = l ∧ 2 ≤ ls.length then swapOf ls 0 1 else ls
theorem arr_perm (ls : List Int) (l : Int) : (arr ls l).Perm ls := by
  unfold arr
  split
  · exact swapOf_perm (by omega) (by omega)
  · exact List.Perm.refl _
theorem arr_W2 (ls : List Int) (l x : Int) : W2 (arr ls l) x ↔ W2 ls x := by
  unfold arr
  split
  · rename_i h
    unfold W2
    rw [swapOf_get (by omega) (by omega), swapOf_get (by omega) (by omega)]
    simp
    exact Or.comm
  · rfl
theorem arr_snd {ls : List Int} {l : Int} (h : W2 ls l) (hn : ls.Nodup) (h2 : 2 ≤ ls.length) : (arr ls l)[1]? = some l := by
  unfold arr
  split
  · rename_i hc
    rw [swapOf_get (by omega) (by omega)]
    simp only [if_true]
    rw [List.getElem?_eq_getElem (by omega), ← hc.1]
    simp [List.getD, show 0 < ls.length by omega]
  · rename_i hc
    rcases h with h | h
    · exact absurd ⟨by simp [List.getD, h], h2⟩ hc
    · exact h
theorem Lst.same {N : Nat} {cs0 cs : List Cl} {ms : Nat → List Mk} (h : Lst N cs ms) {r : Int} {cl : Cl} (hc : at? cs r = some cl) {ls : List Int} (hp : ls.Perm cl.lits) (hw : ∀ x, W2 ls x ↔ W2 cl.lits x) : Lst N (putL cs r ls) ms := by
  refine ⟨fun i hi m hm => ?_, h.nd, fun y c l h1 h2 => ?_⟩
  · obtain ⟨c, h1, h2, h3, h4, h5⟩ := h.mark i hi m hm
    rw [at?_putL hc hp.length_eq]
    by_cases e : m.ref = r
    · rw [if_pos e]
      rw [e, hc] at h1
      injection h1 with h1
      subst h1
      exact ⟨_, rfl, (hw _).2 h2, h3.imp id hp.mem_iff.2, h4, h5.imp id fun h => by show _ ≤ ls.length; rw [hp.length_eq]; exact h⟩
    · rw [if_neg e]
      exact ⟨c, h1, h2, h3, h4, h5⟩
  · rw [at?_putL hc hp.length_eq] at h1
    by_cases e : y = r
    · rw [if_pos e] at h1
      injection h1 with h1
      subst h1
      exact h.all y cl l (by rw [e]; exact hc) ((hw l).1 h2)
    · rw [if_neg e] at h1
      exact h.all y c l h1 h2
theorem Dn.same {cs : List Cl} {t : TS} {k : Nat} (h : Dn cs t k) {r : Int} {cl : Cl} (hc : at? cs r = some cl) {ls : List Int} (hp : ls.Perm cl.lits) (hw : ∀ x, -x ∈ t.lits.take k → W2 ls x → W2 cl.lits x) : Dn (putL cs r ls) t k := fun y c l h1 h2 h3 => by
  rw [at?_putL hc hp.length_eq] at h1
  by_cases e : y = r
  · rw [if_pos e] at h1
    injection h1 with h1
    subst h1
    exact (h y cl l (by rw [e]; exact hc) (hw l h3 h2) h3).more (fun x hx => hp.mem_iff.2 hx) fun _ hx => hx
  · rw [if_neg e] at h1
    exact h y c l h1 h2 h3
theorem Shorts.same {cs : List Cl} {t : TS} {fr : List Int} (h : Shorts cs t fr) {r : Int} {cl : Cl} (hc : at? cs r = some cl) {ls : List Int} (hp : ls.Perm cl.lits) : Shorts (putL cs r ls) t fr := fun y c h1 h2 => by
  rw [at?_putL hc hp.length_eq] at h1
  by_cases e : y = r
  · rw [if_pos e] at h1
    injection h1 with h1
    subst h1
    exact (h y cl (by rw [e]; exact hc) (by rw [← hp.length_eq]; exact h2)).imp id fun h => h.more (fun x hx => hp.mem_iff.2 hx) fun _ hx => hx
  · rw [if_neg e] at h1
    exact h y c h1 h2

/-- where a propagation stands in a list: K stays, R is to come -/
structure VI (N : Nat) (cs0 : List Cl) (L0 : List Int) (a : Nat) (l : Int) (K R : List Mk) (cs : List Cl) (t : TS) (s : WS) : Prop where
  cls : Cls N cs0 cs
  good : t.Good
  ph : t.ph.length = N
  lst : Lst N cs (fun i => if i = a then K ++ R else s.ms i)
  dn : Dn cs t s.head
  sh : Shorts cs t []
  snd : ∀ x ∈ t.lits, Fol (cs0.map Cl.lits) L0 x
  kep : ∀ m ∈ K, ∀ cl, at? cs m.ref = some cl → Sat cl.lits t
  neg : -l ∈ t.lits
  hl : l ≠ 0 ∧ l.natAbs ≤ N
  ha : a = (litIndex l).toNat
  hd : s.head ≤ t.lits.length
def WS.exam (s : WS) (a i : Nat) (m : Mk) (o : Int) : WS := { s with ms := fun j => if j = a then (s.ms a).set i ⟨m.ref, o, m.nxt⟩ else s.ms j, vis := s.vis + 1 }
def WS.watch (s : WS) (x : Int) (m : Mk) : WS := { s with ms := fun j => if j = (litIndex x).toNat then s.ms j ++ [m] else s.ms j }
/-- what comes of a clause that is examined -/
def Ex (a i : Nat) (l : Int) (m : Mk) (cl : Cl) (cs : List Cl) (t : TS) (s : WS) (z : Int) (cs' : List Cl) (t' : TS) (s' : WS) : Prop :=
  (z = 0 ∧ 0 < valT t.recs m.oth ∧ cs' = cs ∧ t' = t ∧ s' = s) ∨
  ∃ ls o, ls = arr cl.lits l ∧ o = ls.getD 0 0 ∧
    ((z = 0 ∧ 0 < valT t.recs o ∧ cs' = putL cs m.ref ls ∧ t' = t ∧ s' = s.exam a i m o) ∨
     (z = 1 ∧ ∃ j, 2 ≤ j ∧ j < ls.length ∧ 0 ≤ valT t.recs (ls.getD j 0) ∧ cs' = putL cs m.ref (swapOf ls 1 j) ∧ t' = t ∧ s' = (s.exam a i m o).watch (ls.getD j 0) ⟨m.ref, o, j + 1⟩) ∨
     (z = 0 ∧ (∀ j, 2 ≤ j → j < ls.length → valT t.recs (ls.getD j 0) < 0) ∧ valT t.recs o = 0 ∧ cs' = putL cs m.ref ls ∧ t' = t.put o m.ref ∧ s' = s.exam a i m o) ∨
     (z = 2 ∧ (∀ j, 2 ≤ j → j < ls.length → valT t.recs (ls.getD j 0) < 0) ∧ valT t.recs o < 0 ∧ cs' = putL cs m.ref ls ∧ t' = t ∧ s' = s.exam a i m o))
section
variable {N : Nat} {cs0 cs cs' : List Cl} {L0 : List Int} {a i : Nat} {l z : Int} {K R : List Mk} {m : Mk} {cl : Cl} {t t' : TS} {s s' : WS}
theorem VI.mem (h : VI N cs0 L0 a l K (m :: R) cs t s) : ∃ cl, at? cs m.ref = some cl ∧ W2 cl.lits l ∧ (m.oth = 0 ∨ m.oth ∈ cl.lits) ∧ 2 ≤ m.nxt ∧ (m.nxt = 2 ∨ m.nxt ≤ cl.lits.length) := by
  have hb := litIndex_bd (l := l) (b := N) (by have := h.hl; omega) (by have := h.hl; omega) h.hl.1
  obtain ⟨cl, h1, h2, h3⟩ := h.lst.mark a (by have := h.ha; omega) m (by simp)
  rw [h.ha, Int.toNat_of_nonneg hb.1, litAt_index] at h2
  exact ⟨cl, h1, h2, h3⟩
/-- the mark's other literal is another one -/
theorem VI.stay (h : VI N cs0 L0 a l K (m :: R) cs t s) (hc : at? cs m.ref = some cl) {ls : List Int} (hp : ls.Perm cl.lits) (hw : ∀ x, W2 ls x ↔ W2 cl.lits x) {o : Int} (ho : o = 0 ∨ o ∈ ls) (h1 : s'.head = s.head) (h2 : ∀ j, j ≠ a → s'.ms j = s.ms j) (hsat : Sat ls t') (ht : t'.Good) (hph : t'.ph.length = N) (hpre : ∃ more, t'.lits = t.lits ++ more) (hf : ∀ x ∈ t'.lits, Fol (cs0.map Cl.lits) L0 x) :
    VI N cs0 L0 a l (K ++ [⟨m.ref, o, m.nxt⟩]) R (putL cs m.ref ls) t' s' := by
  obtain ⟨more, hm⟩ := hpre
  have hsub : ∀ x, x ∈ t.lits → x ∈ t'.lits := fun x hx => by rw [hm]; exact List.mem_append_left _ hx
  have hlst := Lst.same (cs0 := cs0) h.lst hc hp hw
  refine ⟨h.cls.putL hc hp, ht, hph, ⟨fun j hj x hx => ?_, fun j hj => ?_, fun y c l' e1 e2 => ?_⟩, ?_, ?_, hf, ?_, hsub _ h.neg, h.hl, h.ha, by rw [h1, hm, List.length_append]; have := h.hd; omega⟩
  · by_cases e : j = a
    · subst e
      simp only [if_true] at hx
      have old : ∀ x, x ∈ K ++ m :: R → _ := fun x hx => hlst.mark j hj x (by simpa using hx)
      rcases List.mem_append.1 hx with hx | hx
      · rcases List.mem_append.1 hx with hx | hx
        · exact old x (by simp [hx])
        · rw [List.mem_singleton] at hx
          subst hx
          obtain ⟨c, q1, q2, q3, q4⟩ := old m (by simp)
          refine ⟨c, q1, q2, ?_, q4⟩
          have : c.lits = ls := by
            rw [at?_putL hc hp.length_eq, if_pos rfl] at q1
            injection q1 with q1
            rw [← q1]
          rw [this]
          exact ho
      · exact old x (by simp [hx])
    · simp only [if_neg e] at hx
      rw [h2 j e] at hx
      exact hlst.mark j hj x (by simpa [if_neg e] using hx)
  · by_cases e : j = a
    · subst e
      have := hlst.nd j hj
      simp only [if_true] at this ⊢
      simpa using this
    · simp only [if_neg e]
      rw [h2 j e]
      simpa [if_neg e] using hlst.nd j hj
  · obtain ⟨x, q1, q2⟩ := hlst.all y c l' e1 e2
    by_cases e : (litIndex l').toNat = a
    · simp only [if_pos e] at q1 ⊢
      rcases List.mem_append.1 q1 with q1 | q1
      · exact ⟨x, by simp [q1], q2⟩
      · rcases List.mem_cons.1 q1 with q1 | q1
        · subst q1; exact ⟨⟨x.ref, o, x.nxt⟩, by simp, q2⟩
        · exact ⟨x, by simp [q1], q2⟩
    · simp only [if_neg e] at q1 ⊢
      rw [h2 _ e]
      exact ⟨x, q1, q2⟩
  · have hd := Dn.same h.dn hc hp fun x _ hx => (hw x).1 hx
    rw [h1]
    intro y c l' e1 e2 e3
    rw [hm, List.take_append_of_le_length h.hd] at e3
    exact (hd y c l' e1 e2 e3).more (fun _ hx => hx) hsub
  · intro y c e1 e2
    exact (Shorts.same h.sh hc hp y c e1 e2).imp id fun h => h.more (fun _ hx => hx) hsub
  · intro x hx c e1
    rw [at?_putL hc hp.length_eq] at e1
    by_cases e : x.ref = m.ref
    · rw [if_pos e] at e1
      injection e1 with e1
      rw [← e1]
      exact hsat
    · rw [if_neg e] at e1
      rcases List.mem_append.1 hx with hx | hx
      · exact (h.kep x hx c e1).more (fun _ hx => hx) hsub
      · rw [List.mem_singleton] at hx
        subst hx
        exact absurd rfl e
theorem get_mem {ls : List Int} {j : Nat} (hj : j < ls.length) : ls.getD j 0 ∈ ls := by
  simp [List.getD, hj]
theorem mem_get {ls : List Int} {x : Int} (h : x ∈ ls) : ∃ j, j < ls.length ∧ x = ls.getD j 0 := by
  obtain ⟨j, hj, e⟩ := List.getElem_of_mem h
  exact ⟨j, hj, by simp [List.getD, hj, e]⟩
theorem nodup_get {ls : List Int} (h : ls.Nodup) {i j : Nat} (hi : i < ls.length) (hj : j < ls.length) (e : ls.getD i 0 = ls.getD j 0) : i = j := by
  simp only [List.getD, List.getElem?_eq_getElem hi, List.getElem?_eq_getElem hj, Option.getD_some] at e
  have hp := List.pairwise_iff_getElem.1 (List.nodup_iff_pairwise_ne.1 h)
  rcases Nat.lt_trichotomy i j with h | h | h
  · exact absurd e (hp i j hi hj h)
  · exact h
  · exact absurd e.symm (hp j i hj hi h)
theorem getD_of {ls : List Int} {j : Nat} {x : Int} (h : ls[j]? = some x) : ls.getD j 0 = x := by simp [List.getD, h]
theorem of_getD {ls : List Int} {j : Nat} (h : j < ls.length) : ls[j]? = some (ls.getD j 0) := by simp [List.getD, h]

theorem Ex.step (h : VI N cs0 L0 a l K (m :: R) cs t s) (hc : at? cs m.ref = some cl) (hi : (s.ms a)[i]? = some m) (he : Ex a i l m cl cs t s z cs' t' s') :
    ∃ m', s'.ms a = (s.ms a).set i m' ∧ (z = 0 → VI N cs0 L0 a l (K ++ [m']) R cs' t' s') ∧ (z = 1 → VI N cs0 L0 a l K R cs' t' s') ∧ (z = 2 → Clash (cs0.map Cl.lits) L0) ∧ (z = 0 ∨ z = 1 ∨ z = 2) := by
  obtain ⟨cl', hc', hw, hoth, hn2, hnl⟩ := h.mem
  rw [hc] at hc'
  injection hc' with hc'
  subst hc'
  obtain ⟨hnd, hlit, c0, hc0, hperm⟩ := h.cls.at hc
  have hph := h.ph
  rcases he with ⟨rfl, hv, rfl, rfl, rfl⟩ | ⟨ls, o, hls, ho, he⟩
  · have hv1 : valT t'.recs m.oth = 1 := by have := valT_le t'.recs m.oth; omega
    have hm1 := (val_one h.good).1 hv1
    have hm2 : m.oth ∈ cl.lits := hoth.resolve_left fun e => (lits_ne h.good hm1).1 e
    refine ⟨m, ?_, fun _ => ?_, fun e => absurd e (by omega), fun e => absurd e (by omega), .inl rfl⟩
    · exact (List.ext_getElem? fun j => by
        rw [List.getElem?_set]
        split
        · rename_i e; subst e
          obtain ⟨h1, h2⟩ := List.getElem?_eq_some_iff.1 hi
          rw [if_pos h1, hi]
        · rfl)
    · have := h.stay (s' := s') hc (List.Perm.refl _) (fun _ => Iff.rfl) hoth rfl (fun _ _ => rfl) ⟨_, hm2, hm1⟩ h.good h.ph ⟨[], by simp⟩ h.snd
      rw [putL_self hc] at this
      exact this
  · have hp : ls.Perm cl.lits := hls ▸ arr_perm cl.lits l
    have hw2 : ∀ x, W2 ls x ↔ W2 cl.lits x := fun x => hls ▸ arr_W2 cl.lits l x
    have hlen := hp.length_eq
    have hndl : ls.Nodup := hp.nodup_iff.2 hnd
    have hpos : 0 < ls.length := by
      rw [hlen]
      rcases hw with h | h
      · exact (List.getElem?_eq_some_iff.1 h).1
      · have := (List.getElem?_eq_some_iff.1 h).1; omega
    have hol : o ∈ ls := by rw [ho]; exact get_mem hpos
    have hoc : o ∈ cl.lits := hp.mem_iff.1 hol
    have hsnd : 2 ≤ ls.length → ls.getD 1 0 = l := fun h2 => by
      rw [hls]
      exact getD_of (arr_snd hw hnd (by omega))
    have hone : ls.length = 1 → o = l := fun h1 => by
      have h2 := (hw2 l).2 hw
      unfold W2 at h2
      rw [List.getElem?_eq_none (show ls.length ≤ 1 by omega)] at h2
      rw [ho]
      exact getD_of (h2.resolve_right (by simp))
    have hvl : valT t.recs l = -1 := (val_neg1 h.good h.hl.1).2 h.neg
    have hfol : (∀ j, 2 ≤ j → j < ls.length → valT t.recs (ls.getD j 0) < 0) → ∀ y, y ∈ c0.lits → y ≠ o → Fol (cs0.map Cl.lits) L0 (-y) := fun hall y hy hyo => by
      have hyl : y ∈ ls := hp.mem_iff.2 (hperm.mem_iff.2 hy)
      obtain ⟨j, hj, rfl⟩ := mem_get hyl
      have hy0 := (hlit _ (hp.mem_iff.1 hyl)).1
      refine h.snd _ ((val_neg1 h.good hy0).1 ?_)
      rcases (by omega : j = 0 ∨ j = 1 ∨ 2 ≤ j) with rfl | rfl | h2
      · exact absurd ho.symm hyo
      · rw [hsnd (by omega)]; exact hvl
      · have := hall j h2 hj
        have := valT_le t.recs (ls.getD j 0)
        omega
    have hcm : c0.lits ∈ cs0.map Cl.lits := List.mem_map_of_mem (mem_cs hc0)
    have hset : (s.exam a i m o).ms a = (s.ms a).set i ⟨m.ref, o, m.nxt⟩ := by simp [WS.exam]
    rcases he with ⟨rfl, hv, rfl, rfl, rfl⟩ | ⟨rfl, j, hj2, hjl, hv, rfl, rfl, rfl⟩ | ⟨rfl, hall, hv, rfl, rfl, rfl⟩ | ⟨rfl, hall, hv, rfl, rfl, rfl⟩
    · have hv1 : valT t'.recs o = 1 := by have := valT_le t'.recs o; omega
      refine ⟨⟨m.ref, o, m.nxt⟩, hset, fun _ => ?_, fun e => absurd e (by omega), fun e => absurd e (by omega), .inl rfl⟩
      exact h.stay hc hp hw2 (.inr hol) rfl (fun j hj => by simp [WS.exam, hj]) ⟨o, hol, (val_one h.good).1 hv1⟩ h.good h.ph ⟨[], by simp⟩ h.snd
    · have hx0 := hlit _ (hp.mem_iff.1 (get_mem hjl))
      obtain ⟨x, hx⟩ : ∃ x, x = ls.getD j 0 := ⟨_, rfl⟩
      rw [← hx] at hx0 hv ⊢
      have h1l : 1 < ls.length := by omega
      have hxl : x ≠ l := fun e => by
        have := nodup_get hndl hjl h1l (by rw [← hx, e, hsnd (by omega)])
        omega
      have hxo : x ≠ o := fun e => by
        have := nodup_get hndl hjl hpos (by rw [← hx, e, ho])
        omega
      have hol2 : o ≠ l := fun e => by
        have := nodup_get hndl hpos h1l (by rw [← ho, e, hsnd (by omega)])
        omega
      have ib : ∀ y : Int, y ≠ 0 ∧ y.natAbs ≤ N → 0 ≤ litIndex y ∧ litIndex y ≤ 2 * (N : Int) - 1 := fun y hy => litIndex_bd (by omega) (by omega) hy.1
      have bx := ib x hx0
      have bl := ib l h.hl
      have bo := ib o (hlit o hoc)
      have hxa : (litIndex x).toNat ≠ a := fun e => hxl (litIndex_inj (by have := h.ha; omega))
      have hoa : (litIndex o).toNat ≠ a := fun e => hol2 (litIndex_inj (by have := h.ha; omega))
      have hox : (litIndex o).toNat ≠ (litIndex x).toNat := fun e => hxo (litIndex_inj (by omega))
      have hp2 : (swapOf ls 1 j).Perm cl.lits := (swapOf_perm h1l hjl).trans hp
      have hl2 : (swapOf ls 1 j).length = cl.lits.length := hp2.length_eq
      have g0 : (swapOf ls 1 j)[0]? = some o := by
        rw [swapOf_get h1l hjl, if_neg (by omega), if_neg (by omega), of_getD hpos, ho]
      have g1 : (swapOf ls 1 j)[1]? = some x := by
        rw [swapOf_get h1l hjl, if_neg (by omega), if_pos rfl, of_getD hjl, hx]
      have w2 : ∀ y, W2 (swapOf ls 1 j) y ↔ y = o ∨ y = x := fun y => by
        unfold W2
        rw [g0, g1]
        simp only [Option.some.injEq]
        constructor
        · rintro (e | e)
          · exact .inl e.symm
          · exact .inr e.symm
        · rintro (e | e)
          · exact .inl e.symm
          · exact .inr e.symm
      have w1 : ∀ y, W2 cl.lits y ↔ y = o ∨ y = l := fun y => by
        rw [← hw2]
        unfold W2
        rw [of_getD hpos, of_getD h1l, ← ho, hsnd (by omega)]
        simp only [Option.some.injEq]
        constructor
        · rintro (e | e)
          · exact .inl e.symm
          · exact .inr e.symm
        · rintro (e | e)
          · exact .inl e.symm
          · exact .inr e.symm
      have hms : ∀ k, k ≠ a → ((s.exam a i m o).watch x ⟨m.ref, o, j + 1⟩).ms k = if k = (litIndex x).toNat then s.ms k ++ [⟨m.ref, o, j + 1⟩] else s.ms k := fun k hk => by
        simp [WS.exam, WS.watch, hk]
      have hnda := h.lst.nd a (by have := h.ha; omega)
      simp only [if_true, List.map_append, List.map_cons] at hnda
      have hKR : ∀ y ∈ K ++ R, y.ref ≠ m.ref := fun y hy e => by
        have hnd2 := List.perm_middle.nodup_iff.1 hnda
        rw [List.nodup_cons] at hnd2
        apply hnd2.1
        rw [← e, ← List.map_append]
        exact List.mem_map_of_mem hy
      have hold : ∀ k, k < 2 * N → k ≠ a → ∀ y ∈ s.ms k, ∃ c, at? cs y.ref = some c ∧ W2 c.lits (litAt k) ∧ (y.oth = 0 ∨ y.oth ∈ c.lits) ∧ 2 ≤ y.nxt ∧ (y.nxt = 2 ∨ y.nxt ≤ c.lits.length) := fun k hk hka y hy => h.lst.mark k hk y (by simpa [if_neg hka] using hy)
      refine ⟨⟨m.ref, o, m.nxt⟩, ?_, fun e => absurd e (by omega), fun _ => ?_, fun e => absurd e (by omega), .inr (.inl rfl)⟩
      · simp [WS.watch, WS.exam, Ne.symm hxa]
      refine ⟨h.cls.putL hc hp2, h.good, h.ph, ⟨fun k hk y hy => ?_, fun k hk => ?_, fun y c l' e1 e2 => ?_⟩, ?_, ?_, h.snd, ?_, h.neg, h.hl, h.ha, h.hd⟩
      · rw [at?_putL hc hl2]
        by_cases ek : k = a
        · subst ek
          simp only [if_true] at hy
          rw [if_neg (hKR y hy)]
          have := h.lst.mark k hk y (by
            simp only [if_true]
            rcases List.mem_append.1 hy with hy | hy
            · exact List.mem_append_left _ hy
            · exact List.mem_append_right _ (List.mem_cons_of_mem _ hy))
          exact this
        · simp only [if_neg ek] at hy
          rw [hms k ek] at hy
          have hcase : y ∈ s.ms k ∨ (k = (litIndex x).toNat ∧ y = ⟨m.ref, o, j + 1⟩) := by
            by_cases ex : k = (litIndex x).toNat
            · rw [if_pos ex] at hy
              rcases List.mem_append.1 hy with hy | hy
              · exact .inl hy
              · exact .inr ⟨ex, List.mem_singleton.1 hy⟩
            · rw [if_neg ex] at hy
              exact .inl hy
          rcases hcase with hy | ⟨ex, rfl⟩
          · obtain ⟨c, q1, q2, q3, q4, q5⟩ := hold k hk ek y hy
            by_cases er : y.ref = m.ref
            · rw [if_pos er]
              rw [er, hc] at q1
              injection q1 with q1
              subst q1
              refine ⟨_, rfl, ?_, q3.imp id hp2.mem_iff.2, q4, q5.imp id fun q => by show _ ≤ (swapOf ls 1 j).length; omega⟩
              rcases (w1 _).1 q2 with e | e
              · exact (w2 _).2 (.inl e)
              · exfalso
                apply ek
                rw [h.ha, ← e, litIndex_at (by omega)]
                omega
            · rw [if_neg er]
              exact ⟨c, q1, q2, q3, q4, q5⟩
          · rw [if_pos rfl]
            refine ⟨_, rfl, ?_, .inr (hp2.mem_iff.2 hoc), by show 2 ≤ j + 1; omega, .inr (by show j + 1 ≤ (swapOf ls 1 j).length; omega)⟩
            rw [ex, Int.toNat_of_nonneg bx.1, litAt_index]
            exact (w2 x).2 (.inr rfl)
      · by_cases ek : k = a
        · subst ek
          simp only [if_true, List.map_append]
          exact (List.nodup_cons.1 (List.perm_middle.nodup_iff.1 hnda)).2
        · simp only [if_neg ek]
          rw [hms k ek]
          have hn := h.lst.nd k hk
          simp only [if_neg ek] at hn
          by_cases ex : k = (litIndex x).toNat
          · rw [if_pos ex, List.map_append]
            refine List.nodup_append.2 ⟨hn, by simp, fun p hp' q hq e => ?_⟩
            simp only [List.map_cons, List.map_nil, List.mem_singleton] at hq
            subst hq
            obtain ⟨y, hy, e2⟩ := List.mem_map.1 hp'
            obtain ⟨c, q1, q2, _⟩ := hold k hk ek y hy
            rw [e2, e, hc] at q1
            injection q1 with q1
            subst q1
            rw [ex, Int.toNat_of_nonneg bx.1, litAt_index] at q2
            rcases (w1 x).1 q2 with e3 | e3
            · exact hxo e3
            · exact hxl e3
          · rw [if_neg ex]
            exact hn
      · rw [at?_putL hc hl2] at e1
        by_cases er : y = m.ref
        · rw [if_pos er] at e1
          injection e1 with e1
          subst e1
          rcases (w2 l').1 e2 with rfl | rfl
          · obtain ⟨q, q1, q2⟩ := h.lst.all m.ref cl l' hc ((w1 l').2 (.inl rfl))
            simp only [if_neg hoa] at q1
            refine ⟨q, ?_, by rw [er]; exact q2⟩
            simp only [if_neg hoa]
            rw [hms _ hoa, if_neg hox]
            exact q1
          · refine ⟨⟨m.ref, o, j + 1⟩, ?_, er.symm⟩
            simp only [if_neg hxa]
            rw [hms _ hxa, if_pos rfl]
            simp
        · rw [if_neg er] at e1
          obtain ⟨q, q1, q2⟩ := h.lst.all y c l' e1 e2
          refine ⟨q, ?_, q2⟩
          by_cases ek : (litIndex l').toNat = a
          · simp only [if_pos ek] at q1 ⊢
            rcases List.mem_append.1 q1 with q1 | q1
            · exact List.mem_append_left _ q1
            · rcases List.mem_cons.1 q1 with q1 | q1
              · subst q1; exact absurd q2.symm er
              · exact List.mem_append_right _ q1
          · simp only [if_neg ek] at q1 ⊢
            rw [hms _ ek]
            split
            · exact List.mem_append_left _ q1
            · exact q1
      · refine Dn.same h.dn hc hp2 fun y hy hwy => ?_
        rcases (w2 y).1 hwy with rfl | rfl
        · exact (w1 _).2 (.inl rfl)
        · have := (val_neg1 h.good hx0.1).2 (List.mem_of_mem_take hy)
          omega
      · exact Shorts.same h.sh hc hp2
      · intro y hy c e1
        rw [at?_putL hc hl2, if_neg (hKR y (List.mem_append_left _ hy))] at e1
        exact h.kep y hy c e1
    · have hob := hlit o hoc
      have hpl := TS.put_lits h.good (rs := m.ref) (by rw [hph]; exact hob) hv
      have hof : Fol (cs0.map Cl.lits) L0 o := Fol.closed c0.lits hcm o (hperm.mem_iff.1 hoc) fun y hy hne => hfol hall y hy hne
      refine ⟨⟨m.ref, o, m.nxt⟩, hset, fun _ => ?_, fun e => absurd e (by omega), fun e => absurd e (by omega), .inl rfl⟩
      refine h.stay hc hp hw2 (.inr hol) rfl (fun j hj => by simp [WS.exam, hj]) ⟨o, hol, ?_⟩ (h.good.put o m.ref) (by rw [TS.put_ph]; exact h.ph) ⟨[o], hpl⟩ fun x hx => ?_
      · rw [hpl]; simp
      · rw [hpl] at hx
        rcases List.mem_append.1 hx with hx | hx
        · exact h.snd x hx
        · rw [List.mem_singleton.1 hx]; exact hof
    · refine ⟨⟨m.ref, o, m.nxt⟩, hset, fun e => absurd e (by omega), fun e => absurd e (by omega), fun _ => ?_, .inr (.inr rfl)⟩
      refine .inr ⟨c0.lits, hcm, fun y hy => ?_⟩
      by_cases e : y = o
      · subst e
        refine h.snd _ ((val_neg1 h.good (hlit y hoc).1).1 ?_)
        have := valT_le t'.recs y
        omega
      · exact hfol hall y hy e
end

end Go.Proofs.Ytbejjddkndcldaa

namespace Go.Proofs.Ytbejjddkndcldaa
set_option linter.unusedVariables false
set_option linter.unusedSimpArgs false

/-- a trail that grows by literals with reasons -/
def Grw (cs0 : List Cl) (t t' : TS) : Prop := t'.starts = t.starts ∧ ∃ more, t'.recs = t.recs ++ more ∧ ∀ r ∈ more, ∃ c, at? cs0 r.rs = some c ∧ r.l ∈ c.lits
section
variable {cs0 cs cs' : List Cl} {t t' t'' : TS} {s s' s'' : WS} {N a i : Nat} {l z : Int} {L0 : List Int} {K R : List Mk} {m : Mk} {cl : Cl}
theorem Grw.refl (t : TS) : Grw cs0 t t := ⟨rfl, [], by simp, by simp⟩
theorem Grw.trans (h : Grw cs0 t t') (h' : Grw cs0 t' t'') : Grw cs0 t t'' := by
  obtain ⟨a1, m1, a2, a3⟩ := h
  obtain ⟨b1, m2, b2, b3⟩ := h'
  exact ⟨b1.trans a1, m1 ++ m2, by rw [b2, a2, List.append_assoc], fun r hr => (List.mem_append.1 hr).elim (a3 r) (b3 r)⟩
theorem Grw.put {c : Cl} {o r : Int} (hc : at? cs0 r = some c) (ho : o ∈ c.lits) : Grw cs0 t (t.put o r) := by
  unfold TS.put
  split
  · exact ⟨rfl, [⟨o, t.starts.length, r⟩], rfl, fun x hx => by rw [List.mem_singleton] at hx; subst hx; exact ⟨c, hc, ho⟩⟩
  · exact Grw.refl t
theorem Grw.lits (h : Grw cs0 t t') : ∃ more, t'.lits = t.lits ++ more := by
  obtain ⟨_, m, e, _⟩ := h
  exact ⟨m.map Rec.l, by simp [TS.lits, e]⟩
/-- what stays of a propagator, what is counted -/
structure Kps (cs0 : List Cl) (t : TS) (s : WS) (t' : TS) (s' : WS) (d : Nat) : Prop where
  fresh : s'.fresh = s.fresh
  head : s'.head = s.head
  heads : s'.heads = s.heads
  lo : s.vis ≤ s'.vis
  hi : s'.vis ≤ s.vis + d
  grw : Grw cs0 t t'
theorem Kps.refl (t : TS) (s : WS) : Kps cs0 t s t s 0 := ⟨rfl, rfl, rfl, Nat.le_refl _, Nat.le_refl _, Grw.refl t⟩
theorem Kps.trans {d d' : Nat} (h : Kps cs0 t s t' s' d) (h' : Kps cs0 t' s' t'' s'' d') : Kps cs0 t s t'' s'' (d + d') :=
  ⟨h'.fresh.trans h.fresh, h'.head.trans h.head, h'.heads.trans h.heads, Nat.le_trans h.lo h'.lo, by have := h.hi; have := h'.hi; omega, h.grw.trans h'.grw⟩
theorem Kps.more {d d' : Nat} (h : Kps cs0 t s t' s' d) (hd : d ≤ d') : Kps cs0 t s t' s' d' := ⟨h.fresh, h.head, h.heads, h.lo, by have := h.hi; omega, h.grw⟩
theorem Kps.ms {d : Nat} {f : Nat → List Mk} (h : Kps cs0 t s t' s' d) : Kps cs0 t s t' { s' with ms := f } d := ⟨h.fresh, h.head, h.heads, h.lo, h.hi, h.grw⟩
theorem Ex.kps (h : VI N cs0 L0 a l K (m :: R) cs t s) (hc : at? cs m.ref = some cl) (he : Ex a i l m cl cs t s z cs' t' s') : Kps cs0 t s t' s' 1 := by
  obtain ⟨hnd, hlit, c0, hc0, hperm⟩ := h.cls.at hc
  rcases he with ⟨_, _, _, rfl, rfl⟩ | ⟨ls, o, hls, ho, ⟨_, _, _, rfl, rfl⟩ | ⟨_, j, _, _, _, _, rfl, rfl⟩ | ⟨_, _, hv, _, rfl, rfl⟩ | ⟨_, _, _, _, rfl, rfl⟩⟩
  · exact (Kps.refl _ _).more (by omega)
  · exact ⟨rfl, rfl, rfl, by simp [WS.exam], by simp [WS.exam], Grw.refl _⟩
  · exact ⟨rfl, rfl, rfl, by simp [WS.exam, WS.watch], by simp [WS.exam, WS.watch], Grw.refl _⟩
  · refine ⟨rfl, rfl, rfl, by simp [WS.exam], by simp [WS.exam], ?_⟩
    have hp : ls.Perm cl.lits := hls ▸ arr_perm cl.lits l
    by_cases hl : 0 < ls.length
    · exact Grw.put hc0 (hperm.mem_iff.1 (hp.mem_iff.1 (by rw [ho]; exact get_mem hl)))
    · obtain ⟨cl', hc', hw, _⟩ := h.mem
      rw [hc] at hc'
      injection hc' with hc'
      subst hc'
      have := List.length_pos_of_mem hw.mem
      have := hp.length_eq
      omega
  · exact ⟨rfl, rfl, rfl, by simp [WS.exam], by simp [WS.exam], Grw.refl _⟩
theorem VI.congr (h : VI N cs0 L0 a l K R cs t s) (h1 : ∀ j, j ≠ a → s'.ms j = s.ms j) (h2 : s'.head = s.head) : VI N cs0 L0 a l K R cs t s' := by
  have e : (fun i => if i = a then K ++ R else s'.ms i) = fun i => if i = a then K ++ R else s.ms i := by
    funext i
    split
    · rfl
    · rename_i hi; exact h1 i hi
  exact ⟨h.cls, h.good, h.ph, by rw [e]; exact h.lst, by rw [h2]; exact h.dn, h.sh, h.snd, h.kep, h.neg, h.hl, h.ha, by rw [h2]; exact h.hd⟩
theorem nodup_le_total {cs : List Cl} {xs : List Int} (hn : xs.Nodup) (h : ∀ x ∈ xs, ∃ c, at? cs x = some c) : xs.length ≤ total cs := by
  have h1 := nodup_le (total cs) (xs.map Int.toNat) (by
    rw [List.nodup_iff_pairwise_ne, List.pairwise_map]
    refine List.Pairwise.imp_of_mem ?_ (List.nodup_iff_pairwise_ne.1 hn)
    intro x y hx hy hne
    obtain ⟨c, hc⟩ := h x hx
    obtain ⟨d, hd⟩ := h y hy
    have := at?_range hc
    have := at?_range hd
    omega) (fun y hy => by
      obtain ⟨x, hx, rfl⟩ := List.mem_map.1 hy
      obtain ⟨c, hc⟩ := h x hx
      have := at?_range hc
      have := c.size_pos
      omega)
  simpa using h1
theorem Lst.len {ms : Nat → List Mk} (h : Lst N cs ms) {i : Nat} (hi : i < 2 * N) : (ms i).length ≤ total cs := by
  have := nodup_le_total (cs := cs) (h.nd i hi) (fun x hx => by
    obtain ⟨m, hm, rfl⟩ := List.mem_map.1 hx
    obtain ⟨cl, h1, _⟩ := h.mark i hi m hm
    exact ⟨cl, h1⟩)
  simpa using this
theorem VI.lens (h : VI N cs0 L0 a l K R cs t s) (hn : (s.ms a).length ≤ total cs0) {i : Nat} (hi : i < 2 * N) : (s.ms i).length ≤ total cs0 := by
  by_cases e : i = a
  · rw [e]; exact hn
  · have := h.lst.len hi
    simp only [if_neg e] at this
    rw [h.cls.tot] at this
    exact this

/-- between two calls -/
structure PI (N : Nat) (cs0 cs : List Cl) (t : TS) (s : WS) : Prop where
  cls : Cls N cs0 cs
  good : t.Good
  ph : t.ph.length = N
  lst : Lst N cs s.ms
  dn : Dn cs t s.head
  sh : Shorts cs t s.fresh
  fre : ∀ r ∈ s.fresh, ∃ cl, at? cs r = some cl
  hd : s.head ≤ t.lits.length
  lev : s.heads.length ≤ t.starts.length
theorem PI.vi (h : PI N cs0 cs t s) (hf : s.fresh = []) (hs : ∀ x ∈ t.lits, Fol (cs0.map Cl.lits) L0 x) (hl : t.lits[s.head]? = some (-l)) : VI N cs0 L0 (litIndex l).toNat l [] (s.ms (litIndex l).toNat) cs t s := by
  have hm := List.mem_of_getElem? hl
  have hne := lits_ne h.good hm
  have e : (fun i => if i = (litIndex l).toNat then [] ++ s.ms (litIndex l).toNat else s.ms i) = s.ms := by
    funext i
    split
    · rename_i e; rw [e]; rfl
    · rfl
  exact ⟨h.cls, h.good, h.ph, by rw [e]; exact h.lst, h.dn, by have := h.sh; rw [hf] at this; exact this, hs, fun _ hx => (by simp at hx), hm, by have := h.ph; omega, rfl, h.hd⟩
/-- a list gone through to its end -/
theorem VI.fin (h : VI N cs0 L0 a l (s.ms a) [] cs t s) (hf : s.fresh = []) (hl : t.lits[s.head]? = some (-l)) (hlev : s.heads.length ≤ t.starts.length) : PI N cs0 cs t { s with head := s.head + 1 } := by
  have e : (fun i => if i = a then s.ms a ++ [] else s.ms i) = s.ms := by
    funext i
    split
    · rename_i e; rw [e]; simp
    · rfl
  have hlst : Lst N cs s.ms := by have := h.lst; rw [e] at this; exact this
  have hlt := (List.getElem?_eq_some_iff.1 hl).1
  refine ⟨h.cls, h.good, h.ph, hlst, ?_, by rw [show ({ s with head := s.head + 1 } : WS).fresh = [] from hf]; exact h.sh, by rw [show ({ s with head := s.head + 1 } : WS).fresh = [] from hf]; simp, hlt, hlev⟩
  intro r cl l' h1 h2 h3
  show Sat cl.lits t
  have h3' : -l' ∈ t.lits.take (s.head + 1) := h3
  rw [List.take_add_one, hl] at h3'
  rcases List.mem_append.1 h3' with h4 | h4
  · exact h.dn r cl l' h1 h2 h4
  · have h5 : -l' = -l := by simpa using h4
    have h6 : l' = l := by omega
    subst h6
    obtain ⟨m, q1, q2⟩ := hlst.all r cl l' h1 h2
    rw [← h.ha] at q1
    exact h.kep m q1 cl (by rw [q2]; exact h1)
/-- a clause that was a unit, or clashes -/
theorem PI.put (h : PI N cs0 cs t s) {r o : Int} {cl : Cl} (hc : at? cs r = some cl) (ho : o ∈ cl.lits) (hv : valT t.recs o = 0) : PI N cs0 cs (t.put o r) s ∧ (t.put o r).lits = t.lits ++ [o] ∧ Grw cs0 t (t.put o r) := by
  obtain ⟨hnd, hlit, c0, hc0, hperm⟩ := h.cls.at hc
  have hb := hlit o ho
  have hpl := TS.put_lits h.good (rs := r) (by rw [h.ph]; exact hb) hv
  have hsub : ∀ x, x ∈ t.lits → x ∈ (t.put o r).lits := fun x hx => by rw [hpl]; exact List.mem_append_left _ hx
  have hg : Grw cs0 t (t.put o r) := Grw.put hc0 (hperm.mem_iff.1 ho)
  refine ⟨⟨h.cls, h.good.put o r, by rw [TS.put_ph]; exact h.ph, h.lst, ?_, ?_, h.fre, ?_, ?_⟩, hpl, hg⟩
  · intro y c l' e1 e2 e3
    rw [hpl, List.take_append_of_le_length h.hd] at e3
    exact (h.dn y c l' e1 e2 e3).more (fun _ hx => hx) hsub
  · intro y c e1 e2
    exact (h.sh y c e1 e2).imp id fun h => h.more (fun _ hx => hx) hsub
  · rw [hpl, List.length_append]; have := h.hd; omega
  · rw [hg.1]; exact h.lev
end

end Go.Proofs.Ytbejjddkndcldaa
