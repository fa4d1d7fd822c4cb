/- An assignment, and what it does not satisfy: the state as plain mathematics. No program is named here. -/
import Derived.Test.YtllgepabjglnaaaLitMath
import Derived.Test.YtllgepabjglnaaaBits
namespace Go.Proofs.Ytllgepabjglnaaa
set_option linter.unusedVariables false
set_option linter.unusedSimpArgs false

theorem i64_xor_nat (a b : Nat) (ha : a < 4611686018427387904) (hb : b < 4611686018427387904) : bits .xor .i64 (a : Int) (b : Int) = ((a ^^^ b : Nat) : Int) := by
  have e1 : (BitVec.ofInt 64 (a : Int)).toNat = a := by rw [BitVec.ofInt_natCast, BitVec.toNat_ofNat, Nat.mod_eq_of_lt (by omega)]
  have e2 : (BitVec.ofInt 64 (b : Int)).toNat = b := by rw [BitVec.ofInt_natCast, BitVec.toNat_ofNat, Nat.mod_eq_of_lt (by omega)]
  show IntKind.i64.wrap ((BitVec.ofInt 64 (a : Int) ^^^ BitVec.ofInt 64 (b : Int)).toNat : Nat) = _
  rw [BitVec.toNat_xor, e1, e2]
  have h := Nat.xor_lt_two_pow (x := a) (y := b) (n := 62) (by simpa using ha) (by simpa using hb)
  have h2 : (2 : Nat) ^ 62 = 4611686018427387904 := by decide
  rw [IntWalk.i64_in _ ⟨by omega, by omega⟩]

/-- a literal holds -/
def hol (z : List Bool) (x : Int) : Bool := litHolds x z.length fun j => z.getD j false
/-- the variables, combined -/
def xr : List Int → Nat
  | [] => 0
  | x :: r => xr r ^^^ x.natAbs
theorem xr_erase {l : Int} : ∀ {h : List Int}, l ∈ h → xr (h.erase l) = xr h ^^^ l.natAbs
  | [], hm => by cases hm
  | x :: r, hm => by
    by_cases e : x = l
    · subst e
      rw [List.erase_cons_head]
      show xr r = xr r ^^^ x.natAbs ^^^ x.natAbs
      rw [Nat.xor_assoc, Nat.xor_self, Nat.xor_zero]
    · have hm' : l ∈ r := by
        rcases List.mem_cons.1 hm with h | h
        · exact absurd h.symm e
        · exact h
      rw [List.erase_cons_tail (by simpa using e)]
      show xr (r.erase l) ^^^ x.natAbs = xr r ^^^ x.natAbs ^^^ l.natAbs
      rw [xr_erase hm', Nat.xor_assoc, Nat.xor_assoc, Nat.xor_comm l.natAbs]
theorem xr_lt {n : Nat} : ∀ {h : List Int}, (∀ x ∈ h, x.natAbs < 2 ^ n) → xr h < 2 ^ n
  | [], _ => Nat.two_pow_pos n
  | x :: r, hm => Nat.xor_lt_two_pow (xr_lt fun y hy => hm y (List.mem_cons_of_mem _ hy)) (hm x (by simp))
theorem xr_one {h : List Int} (hl : h.length = 1) : ∃ x, h = [x] ∧ xr h = x.natAbs := by
  match h, hl with
  | [x], _ => exact ⟨x, rfl, by simp [xr]⟩

/-- one literal alone holds, which is of that variable -/
def soleOf (v : Nat) (h : List Int) : Bool := h.length == 1 && xr h == v
def brk (hss : List (List Int)) (v : Nat) : Nat := hss.countP (soleOf v)
theorem brk_set {hss : List (List Int)} {i : Nat} (hi : i < hss.length) (h' : List Int) (v : Nat) :
    brk (hss.set i h') v + (if soleOf v (hss.getD i []) = true then 1 else 0) = brk hss v + if soleOf v h' = true then 1 else 0 := by
  unfold brk
  have e : hss.getD i [] = hss[i] := by simp [List.getD, hi]
  rw [List.countP_set hi, e]
  have hle : (if soleOf v hss[i] = true then 1 else 0) ≤ List.countP (soleOf v) hss := by
    split
    · exact List.countP_pos_iff.2 ⟨_, List.getElem_mem hi, by assumption⟩
    · omega
  omega
theorem brk_le (hss : List (List Int)) (v : Nat) : brk hss v ≤ hss.length := List.countP_le_length
theorem brk_pos {hss : List (List Int)} {i v : Nat} (hi : i < hss.length) (hs : soleOf v (hss.getD i []) = true) : 0 < brk hss v := by
  have e : hss.getD i [] = hss[i] := by simp [List.getD, hi]
  exact List.countP_pos_iff.2 ⟨_, List.getElem_mem hi, e ▸ hs⟩

/-- no number stands twice -/
def Inj (r : List Nat) : Prop := ∀ a b x : Nat, r[a]? = some x → r[b]? = some x → a = b
theorem Inj.nodup {r : List Nat} (h : Inj r) : r.Nodup := by
  refine List.pairwise_iff_getElem.2 fun i j hi hj hij e => ?_
  have := h i j r[i] (by simp [hi]) (by simp [hj, ← e])
  omega
/-- the last one comes to a place -/
def leaveK (r : List Nat) (k : Nat) : List Nat := (r.set k (r.getD (r.length - 1) 0)).take (r.length - 1)
theorem leaveK_len (r : List Nat) (k : Nat) : (leaveK r k).length = r.length - 1 := by simp [leaveK]
theorem leaveK_get (r : List Nat) {k : Nat} (hk : k < r.length) (j : Nat) : (leaveK r k)[j]? = if j < r.length - 1 then (if j = k then r[r.length - 1]? else r[j]?) else none := by
  unfold leaveK
  rw [List.getElem?_take]
  split
  · rw [List.getElem?_set]
    by_cases e : k = j
    · subst e
      simp [hk, List.getD, show r.length - 1 < r.length by omega]
    · rw [if_neg e, if_neg (Ne.symm e)]
  · rfl
theorem leaveK_inj {r : List Nat} {k : Nat} (h : Inj r) (hk : k < r.length) : Inj (leaveK r k) := by
  intro a b x ha hb
  rw [leaveK_get r hk] at ha hb
  split at ha
  · split at hb
    · split at ha
      · split at hb
        · omega
        · have := h _ _ _ ha hb; omega
      · split at hb
        · have := h _ _ _ ha hb; omega
        · exact h _ _ _ ha hb
    · cases hb
  · cases ha
theorem mem_leaveK {r : List Nat} {k i : Nat} (h : Inj r) (hk : r[k]? = some i) (x : Nat) : x ∈ leaveK r k ↔ x ∈ r ∧ x ≠ i := by
  have hkl := (List.getElem?_eq_some_iff.1 hk).1
  constructor
  · intro hx
    obtain ⟨j, hj⟩ := List.getElem?_of_mem hx
    rw [leaveK_get r hkl] at hj
    split at hj
    · split at hj
      · refine ⟨List.mem_of_getElem? hj, ?_⟩
        rintro rfl
        have := h _ _ _ hj hk
        omega
      · refine ⟨List.mem_of_getElem? hj, ?_⟩
        rintro rfl
        have := h _ _ _ hj hk
        omega
    · cases hj
  · rintro ⟨hx, hne⟩
    obtain ⟨j, hj⟩ := List.getElem?_of_mem hx
    have hjl := (List.getElem?_eq_some_iff.1 hj).1
    by_cases e : j = r.length - 1
    · have hkn : k ≠ r.length - 1 := by
        rintro rfl
        rw [e, hk] at hj
        injection hj with hj
        exact hne hj.symm
      refine List.mem_of_getElem? (i := k) ?_
      rw [leaveK_get r hkl, if_pos (by omega), if_pos rfl, ← e]
      exact hj
    · have hjk : j ≠ k := by
        rintro rfl
        rw [hk] at hj
        injection hj with hj
        exact hne hj.symm
      refine List.mem_of_getElem? (i := j) ?_
      rw [leaveK_get r hkl, if_pos (by omega), if_neg hjk]
      exact hj
theorem inj_snoc {r : List Nat} {i : Nat} (h : Inj r) (hi : i ∉ r) : Inj (r ++ [i]) := by
  intro a b x ha hb
  have key : ∀ c, (r ++ [i])[c]? = some x → (c < r.length ∧ r[c]? = some x) ∨ (c = r.length ∧ x = i) := by
    intro c hc
    rcases Nat.lt_or_ge c r.length with hl | hl
    · exact .inl ⟨hl, by rwa [List.getElem?_append_left hl] at hc⟩
    · rw [List.getElem?_append_right hl] at hc
      obtain ⟨hz, e⟩ := List.getElem?_eq_some_iff.1 hc
      simp at hz e
      exact .inr ⟨by omega, e.symm⟩
  rcases key a ha with ⟨h1, h2⟩ | ⟨h1, h2⟩
  · rcases key b hb with ⟨h3, h4⟩ | ⟨h3, h4⟩
    · exact h _ _ _ h2 h4
    · exact absurd (h4 ▸ List.mem_of_getElem? h2) hi
  · rcases key b hb with ⟨h3, h4⟩ | ⟨h3, h4⟩
    · exact absurd (h2 ▸ List.mem_of_getElem? h4) hi
    · omega

/-- clauses, what holds of each, and those of which nothing does -/
structure LS where
  cls : List (List Int)
  hss : List (List Int)
  row : List Nat
/-- all is as it must be, of n variables -/
structure LS.Good (s : LS) (n : Nat) : Prop where
  len : s.hss.length = s.cls.length
  nd : ∀ i, (s.hss.getD i []).Nodup
  sub : ∀ i x, x ∈ s.hss.getD i [] → x ∈ s.cls.getD i []
  cnd : ∀ i, (s.cls.getD i []).Nodup
  lits : ∀ i x, x ∈ s.cls.getD i [] → x ≠ 0 ∧ x.natAbs ≤ n
  short : ∀ i, (s.cls.getD i []).length ≤ 100
  few : s.cls.length ≤ 100
  vars : n ≤ 1000
  rinj : Inj s.row
  rmem : ∀ i, i ∈ s.row ↔ i < s.cls.length ∧ s.hss.getD i [] = []
def LS.rowOff (s : LS) (k : Nat) : LS := { s with row := leaveK s.row k }
def LS.rowOn (s : LS) (i : Nat) : LS := { s with row := s.row ++ [i] }
def LS.setH (s : LS) (i : Nat) (h : List Int) : LS := { s with hss := s.hss.set i h }
def LS.gainAt (s : LS) (l : Int) (i : Nat) : LS := (if s.hss.getD i [] = [] then s.rowOff (s.row.idxOf i) else s).setH i (l :: s.hss.getD i [])
def LS.loseAt (s : LS) (l : Int) (i : Nat) : LS := if (s.hss.getD i []).length = 1 then (s.setH i []).rowOn i else s.setH i ((s.hss.getD i []).erase l)
theorem getD_set {α : Type} (d : α) (l : List α) (i j : Nat) (a : α) : (l.set i a).getD j d = if i = j ∧ i < l.length then a else l.getD j d := by
  simp only [List.getD, List.getElem?_set]
  by_cases e : i = j
  · subst e
    by_cases h : i < l.length
    · simp [h]
    · simp [h, List.getElem?_eq_none (Nat.le_of_not_lt h)]
  · simp [e]
theorem gainAt_hss (s : LS) (l : Int) (i : Nat) : (s.gainAt l i).hss = s.hss.set i (l :: s.hss.getD i []) := by
  unfold LS.gainAt LS.setH LS.rowOff; split <;> rfl
theorem gainAt_cls (s : LS) (l : Int) (i : Nat) : (s.gainAt l i).cls = s.cls := by
  unfold LS.gainAt LS.setH LS.rowOff; split <;> rfl
theorem loseAt_cls (s : LS) (l : Int) (i : Nat) : (s.loseAt l i).cls = s.cls := by
  unfold LS.loseAt LS.setH LS.rowOn; split <;> rfl
theorem loseAt_hss {s : LS} {l : Int} {i : Nat} (hl : l ∈ s.hss.getD i []) : (s.loseAt l i).hss = s.hss.set i ((s.hss.getD i []).erase l) := by
  unfold LS.loseAt LS.setH LS.rowOn
  split
  · rename_i h
    obtain ⟨x, hx, _⟩ := xr_one h
    rw [hx] at hl ⊢
    obtain rfl : l = x := by simpa using hl
    simp
  · rfl
section
variable {s : LS} {n : Nat}
theorem LS.Good.lt (h : s.Good n) {i : Nat} {x : Int} (hx : x ∈ s.cls.getD i []) : i < s.cls.length := by
  refine Nat.lt_of_not_le fun hle => ?_
  rw [List.getD, List.getElem?_eq_none hle] at hx
  cases hx
theorem LS.Good.at_ (h : s.Good n) {i : Nat} (hi : i < s.cls.length) (he : s.hss.getD i [] = []) : s.row[s.row.idxOf i]? = some i := by
  have hm := (h.rmem i).2 ⟨hi, he⟩
  have hlt := List.idxOf_lt_length_iff.2 hm
  rw [List.getElem?_eq_getElem hlt, List.getElem_idxOf]
theorem LS.Good.hlen (h : s.Good n) (i : Nat) : (s.hss.getD i []).length ≤ 100 := by
  have h1 := h.short i
  have h2 : ((s.cls.getD i []).filter fun x => (s.hss.getD i []).contains x).Perm (s.hss.getD i []) := by
    refine (List.perm_ext_iff_of_nodup (List.Pairwise.filter _ (h.cnd i)) (h.nd i)).2 fun x => ?_
    simp only [List.mem_filter, List.contains_iff_mem]
    exact ⟨fun hx => hx.2, fun hx => ⟨h.sub i x hx, hx⟩⟩
  rw [← h2.length_eq]
  exact Nat.le_trans (List.length_filter_le _ _) h1
theorem LS.Good.xlt (h : s.Good n) (i : Nat) : xr (s.hss.getD i []) < 1024 := xr_lt (n := 10) fun x hx => by
  have := (h.lits i x (h.sub i x hx)).2
  have := h.vars
  omega
theorem LS.Good.rlen (h : s.Good n) : s.row.length ≤ s.cls.length := by
  have hp : s.row.Perm ((List.range s.cls.length).filter fun i => s.row.contains i) := by
    refine (List.perm_ext_iff_of_nodup h.rinj.nodup (List.Pairwise.filter _ List.nodup_range)).2 fun x => ?_
    simp only [List.mem_filter, List.contains_iff_mem, List.mem_range]
    exact ⟨fun hx => ⟨((h.rmem x).1 hx).1, hx⟩, fun hx => hx.2⟩
  rw [hp.length_eq]
  exact Nat.le_trans (List.length_filter_le _ _) (by simp)
theorem LS.Good.gainAt (h : s.Good n) {l : Int} {i : Nat} (hl : l ∈ s.cls.getD i []) (hn : l ∉ s.hss.getD i []) : (s.gainAt l i).Good n := by
  have hi := h.lt hl
  have hh : ∀ j, (s.gainAt l i).hss.getD j [] = if i = j then l :: s.hss.getD i [] else s.hss.getD j [] := fun j => by
    rw [gainAt_hss, getD_set]
    simp [h.len, hi]
  have hcl := gainAt_cls s l i
  refine ⟨by rw [gainAt_hss, List.length_set, hcl]; exact h.len, fun j => ?_, fun j x hx => ?_, by rw [hcl]; exact h.cnd, by rw [hcl]; exact h.lits, by rw [hcl]; exact h.short, by rw [hcl]; exact h.few, h.vars, ?_, fun j => ?_⟩
  · rw [hh]
    split
    · exact List.nodup_cons.2 ⟨hn, h.nd i⟩
    · exact h.nd j
  · rw [hh] at hx
    rw [hcl]
    split at hx
    · rename_i e
      subst e
      rcases List.mem_cons.1 hx with rfl | hx
      · exact hl
      · exact h.sub _ _ hx
    · exact h.sub _ _ hx
  · unfold LS.gainAt LS.setH
    split
    · rename_i e
      exact leaveK_inj h.rinj (List.getElem?_eq_some_iff.1 (h.at_ hi e)).1
    · exact h.rinj
  · rw [hh, hcl]
    unfold LS.gainAt LS.setH
    split
    · rename_i e
      show j ∈ leaveK s.row _ ↔ _
      rw [mem_leaveK h.rinj (h.at_ hi e), h.rmem]
      by_cases ej : i = j
      · subst ej; simp
      · rw [if_neg ej]
        exact ⟨fun hx => hx.1, fun hx => ⟨hx, Ne.symm ej⟩⟩
    · rename_i e
      show j ∈ s.row ↔ _
      rw [h.rmem]
      by_cases ej : i = j
      · subst ej
        rw [if_pos rfl]
        exact ⟨fun hx => absurd hx.2 e, fun hx => by cases hx.2⟩
      · rw [if_neg ej]
theorem LS.Good.loseAt (h : s.Good n) {l : Int} {i : Nat} (hl : l ∈ s.hss.getD i []) : (s.loseAt l i).Good n := by
  have hi := h.lt (h.sub _ _ hl)
  have hh : ∀ j, (s.loseAt l i).hss.getD j [] = if i = j then (s.hss.getD i []).erase l else s.hss.getD j [] := fun j => by
    rw [loseAt_hss hl, getD_set]
    simp [h.len, hi]
  have hcl := loseAt_cls s l i
  refine ⟨by rw [loseAt_hss hl, List.length_set, hcl]; exact h.len, fun j => ?_, fun j x hx => ?_, by rw [hcl]; exact h.cnd, by rw [hcl]; exact h.lits, by rw [hcl]; exact h.short, by rw [hcl]; exact h.few, h.vars, ?_, fun j => ?_⟩
  · rw [hh]
    split
    · exact (h.nd i).erase _
    · exact h.nd j
  · rw [hh] at hx
    rw [hcl]
    split at hx
    · rename_i e
      subst e
      exact h.sub _ _ (List.mem_of_mem_erase hx)
    · exact h.sub _ _ hx
  · unfold LS.loseAt LS.setH LS.rowOn
    split
    · exact inj_snoc h.rinj fun hm => by
        have := ((h.rmem i).1 hm).2
        rw [this] at hl
        cases hl
    · exact h.rinj
  · rw [hh, hcl]
    have hle := List.length_erase_of_mem hl
    have hne : s.hss.getD i [] ≠ [] := fun e => by rw [e] at hl; cases hl
    unfold LS.loseAt LS.setH LS.rowOn
    split
    · rename_i e1
      show j ∈ s.row ++ [i] ↔ _
      rw [List.mem_append, h.rmem]
      by_cases ej : i = j
      · subst ej
        rw [if_pos rfl]
        exact ⟨fun _ => ⟨hi, List.eq_nil_of_length_eq_zero (by omega)⟩, fun _ => .inr (by simp)⟩
      · rw [if_neg ej]
        simp [Ne.symm ej]
    · rename_i e1
      show j ∈ s.row ↔ _
      rw [h.rmem]
      by_cases ej : i = j
      · subst ej
        rw [if_pos rfl]
        constructor
        · rintro ⟨_, h2⟩
          exact absurd h2 hne
        · rintro ⟨_, h2⟩
          rw [h2, List.length_nil] at hle
          have : (s.hss.getD i []).length ≠ 0 := fun e => hne (List.eq_nil_of_length_eq_zero e)
          omega
      · rw [if_neg ej]
end

/-- one after another -/
def LS.gains (s : LS) (l : Int) (is : List Nat) : LS := is.foldl (fun s i => s.gainAt l i) s
def LS.loses (s : LS) (l : Int) (is : List Nat) : LS := is.foldl (fun s i => s.loseAt l i) s
theorem gains_snoc (s : LS) (l : Int) (is : List Nat) (i : Nat) : s.gains l (is ++ [i]) = (s.gains l is).gainAt l i := by simp [LS.gains]
theorem loses_snoc (s : LS) (l : Int) (is : List Nat) (i : Nat) : s.loses l (is ++ [i]) = (s.loses l is).loseAt l i := by simp [LS.loses]
theorem gains_spec {s : LS} {n : Nat} (h : s.Good n) {l : Int} : ∀ (m : Nat) (is : List Nat), is.length = m → is.Nodup → (∀ i ∈ is, l ∈ s.cls.getD i [] ∧ l ∉ s.hss.getD i []) →
    (s.gains l is).Good n ∧ (s.gains l is).cls = s.cls ∧ ∀ i, (s.gains l is).hss.getD i [] = if i ∈ is then l :: s.hss.getD i [] else s.hss.getD i []
  | 0, is, hm, _, _ => by
    obtain rfl := List.eq_nil_of_length_eq_zero hm
    exact ⟨h, rfl, fun i => by simp [LS.gains]⟩
  | m + 1, is, hm, hnd, hall => by
    obtain ⟨js, j, rfl⟩ : ∃ js j, is = js ++ [j] := ⟨is.dropLast, is.getLast (by rintro rfl; simp at hm), (List.dropLast_concat_getLast _).symm⟩
    obtain ⟨n1, _, n3⟩ := List.nodup_append.1 hnd
    obtain ⟨g1, g2, g3⟩ := gains_spec h m js (by simpa using hm) n1 fun i hi => hall i (List.mem_append_left _ hi)
    have hj := hall j (by simp)
    have hjn : j ∉ js := fun hmj => n3 j hmj j (by simp) rfl
    have e3 := g3 j
    rw [if_neg hjn] at e3
    rw [gains_snoc]
    have hlj : l ∈ (s.gains l js).cls.getD j [] := by rw [g2]; exact hj.1
    refine ⟨g1.gainAt hlj (by rw [e3]; exact hj.2), by rw [gainAt_cls, g2], fun i => ?_⟩
    rw [gainAt_hss, getD_set, e3, g3 i, g1.len]
    have hlt := g1.lt hlj
    by_cases e : j = i
    · subst e
      rw [if_pos ⟨rfl, hlt⟩, if_pos (by simp)]
    · rw [if_neg (fun x => e x.1)]
      simp [Ne.symm e]
theorem loses_spec {s : LS} {n : Nat} (h : s.Good n) {l : Int} : ∀ (m : Nat) (is : List Nat), is.length = m → is.Nodup → (∀ i ∈ is, l ∈ s.hss.getD i []) →
    (s.loses l is).Good n ∧ (s.loses l is).cls = s.cls ∧ ∀ i, (s.loses l is).hss.getD i [] = if i ∈ is then (s.hss.getD i []).erase l else s.hss.getD i []
  | 0, is, hm, _, _ => by
    obtain rfl := List.eq_nil_of_length_eq_zero hm
    exact ⟨h, rfl, fun i => by simp [LS.loses]⟩
  | m + 1, is, hm, hnd, hall => by
    obtain ⟨js, j, rfl⟩ : ∃ js j, is = js ++ [j] := ⟨is.dropLast, is.getLast (by rintro rfl; simp at hm), (List.dropLast_concat_getLast _).symm⟩
    obtain ⟨n1, _, n3⟩ := List.nodup_append.1 hnd
    obtain ⟨g1, g2, g3⟩ := loses_spec h m js (by simpa using hm) n1 fun i hi => hall i (List.mem_append_left _ hi)
    have hj := hall j (by simp)
    have hjn : j ∉ js := fun hmj => n3 j hmj j (by simp) rfl
    have e3 := g3 j
    rw [if_neg hjn] at e3
    have hlj : l ∈ (s.loses l js).hss.getD j [] := by rw [e3]; exact hj
    rw [loses_snoc]
    refine ⟨g1.loseAt hlj, by rw [loseAt_cls, g2], fun i => ?_⟩
    rw [loseAt_hss hlj, getD_set, e3, g3 i, g1.len]
    have hlt := g1.lt (g1.sub _ _ hlj)
    by_cases e : j = i
    · subst e
      rw [if_pos ⟨rfl, hlt⟩, if_pos (by simp)]
    · rw [if_neg (fun x => e x.1)]
      simp [Ne.symm e]

/-- the clauses that have a literal -/
def hav (cls : List (List Int)) (l : Int) : List Nat := (List.range cls.length).filter fun i => (cls.getD i []).contains l
theorem mem_hav {cls : List (List Int)} {l : Int} {i : Nat} : i ∈ hav cls l ↔ l ∈ cls.getD i [] := by
  unfold hav
  rw [List.mem_filter, List.mem_range, List.contains_iff_mem]
  refine ⟨fun h => h.2, fun h => ⟨Nat.lt_of_not_le fun hle => ?_, h⟩⟩
  rw [List.getD, List.getElem?_eq_none hle] at h
  cases h
theorem hav_nodup (cls : List (List Int)) (l : Int) : (hav cls l).Nodup := List.Pairwise.filter _ List.nodup_range
theorem hav_len (cls : List (List Int)) (l : Int) : (hav cls l).length ≤ cls.length := Nat.le_trans (List.length_filter_le _ _) (by simp)
theorem hav_snoc (cls : List (List Int)) (c : List Int) (l : Int) : hav (cls ++ [c]) l = hav cls l ++ if c.contains l then [cls.length] else [] := by
  unfold hav
  rw [List.length_append, show [c].length = 1 from rfl, List.range_succ, List.filter_append]
  congr 1
  · refine List.filter_congr fun i hi => ?_
    have := List.mem_range.1 hi
    simp [List.getD, List.getElem?_append_left this]
  · rw [List.filter_cons]
    simp [List.getD]

/-- what holds of each clause is what an assignment makes hold -/
def LS.At (s : LS) (z : List Bool) : Prop := ∀ i x, x ∈ s.hss.getD i [] ↔ x ∈ s.cls.getD i [] ∧ hol z x = true
/-- the value of a variable, turned -/
def turn (z : List Bool) (v : Nat) : List Bool := z.set (v - 1) (!z.getD (v - 1) false)
theorem turn_len (z : List Bool) (v : Nat) : (turn z v).length = z.length := by simp [turn]
theorem hol_pos {z : List Bool} {v : Nat} (h1 : 1 ≤ v) (h2 : v ≤ z.length) : hol z v = z.getD (v - 1) false := by
  have := litHolds_pos (z := fun j => z.getD j false) (show v - 1 < z.length by omega)
  rw [show ((v - 1 : Nat) : Int) + 1 = v by omega] at this
  exact this
theorem hol_neg {z : List Bool} {v : Nat} (h1 : 1 ≤ v) (h2 : v ≤ z.length) : hol z (-(v : Int)) = !z.getD (v - 1) false := by
  have := litHolds_neg (z := fun j => z.getD j false) (show v - 1 < z.length by omega)
  rw [show ((v - 1 : Nat) : Int) + 1 = v by omega] at this
  exact this
theorem lit_cases {x : Int} (h : x ≠ 0) : ∃ v : Nat, 1 ≤ v ∧ v = x.natAbs ∧ (x = v ∨ x = -(v : Int)) := ⟨x.natAbs, by omega, rfl, by omega⟩
theorem hol_opp {z : List Bool} {x : Int} (h : x ≠ 0) (hx : x.natAbs ≤ z.length) : hol z (-x) = !hol z x := by
  obtain ⟨v, h1, h2, rfl | rfl⟩ := lit_cases h
  · rw [hol_pos h1 (by omega), hol_neg h1 (by omega)]
  · rw [Int.neg_neg, hol_pos h1 (by omega), hol_neg h1 (by omega), Bool.not_not]
theorem getD_turn {z : List Bool} {v j : Nat} (h1 : 1 ≤ v) (h2 : v ≤ z.length) : (turn z v).getD j false = if j = v - 1 then !z.getD j false else z.getD j false := by
  unfold turn
  rw [getD_set]
  by_cases e : v - 1 = j
  · subst e
    rw [if_pos ⟨rfl, by omega⟩, if_pos rfl]
  · rw [if_neg (fun h => e h.1), if_neg (Ne.symm e)]
theorem hol_turn {z : List Bool} {v : Nat} (h1 : 1 ≤ v) (h2 : v ≤ z.length) {x : Int} (hx : x ≠ 0) (hxn : x.natAbs ≤ z.length) : hol (turn z v) x = if x.natAbs = v then !hol z x else hol z x := by
  obtain ⟨u, g1, g2, e⟩ := lit_cases hx
  have hl := turn_len z v
  rcases e with rfl | rfl
  · rw [hol_pos g1 (by omega), hol_pos g1 (by omega), getD_turn h1 h2]
    by_cases e : u = v
    · rw [if_pos (by omega), if_pos (by omega)]
    · rw [if_neg (by omega), if_neg (by omega)]
  · rw [hol_neg g1 (by omega), hol_neg g1 (by omega), getD_turn h1 h2]
    by_cases e : u = v
    · rw [if_pos (by omega), if_pos (by omega)]
    · rw [if_neg (by omega), if_neg (by omega)]
theorem turn_turn {z : List Bool} {v : Nat} (h1 : 1 ≤ v) (h2 : v ≤ z.length) : turn (turn z v) v = z := by
  apply List.ext_getElem?
  intro j
  have hl := turn_len z v
  have hl2 := turn_len (turn z v) v
  by_cases hj : j < z.length
  · have e := getD_turn (z := turn z v) (v := v) (j := j) h1 (by omega)
    rw [getD_turn h1 h2] at e
    simp only [List.getD, List.getElem?_eq_getElem hj, List.getElem?_eq_getElem (show j < (turn (turn z v) v).length by omega), Option.getD_some] at e ⊢
    rw [e]
    split <;> simp
  · rw [List.getElem?_eq_none (by omega), List.getElem?_eq_none (by omega)]
theorem turn_comm {z : List Bool} {v u : Nat} (h1 : 1 ≤ v) (h2 : v ≤ z.length) (h3 : 1 ≤ u) (h4 : u ≤ z.length) : turn (turn z v) u = turn (turn z u) v := by
  apply List.ext_getElem?
  intro j
  have hl := turn_len z v
  have hl2 := turn_len (turn z v) u
  have hl3 := turn_len z u
  have hl4 := turn_len (turn z u) v
  by_cases hj : j < z.length
  · have e := getD_turn (z := turn z v) (v := u) (j := j) h3 (by omega)
    have e' := getD_turn (z := turn z u) (v := v) (j := j) h1 (by omega)
    rw [getD_turn h1 h2] at e
    rw [getD_turn h3 h4] at e'
    have e3 : (turn (turn z v) u).getD j false = (turn (turn z u) v).getD j false := by
      rw [e, e']
      split <;> split <;> rfl
    simp only [List.getD, List.getElem?_eq_getElem (show j < (turn (turn z u) v).length by omega), List.getElem?_eq_getElem (show j < (turn (turn z v) u).length by omega), Option.getD_some] at e3 ⊢
    rw [e3]
  · rw [List.getElem?_eq_none (by omega), List.getElem?_eq_none (by omega)]

/-- the literal of a variable that holds -/
def holder (z : List Bool) (v : Nat) : Int := if z.getD (v - 1) false = true then (v : Int) else -(v : Int)
theorem holder_abs (z : List Bool) (v : Nat) : (holder z v).natAbs = v := by unfold holder; split <;> omega
theorem hol_holder {z : List Bool} {v : Nat} (h1 : 1 ≤ v) (h2 : v ≤ z.length) : hol z (holder z v) = true := by
  unfold holder
  split
  · rename_i h; rw [hol_pos h1 h2, h]
  · rename_i h; rw [hol_neg h1 h2]; simpa using h
theorem holder_turn {z : List Bool} {v : Nat} (h1 : 1 ≤ v) (h2 : v ≤ z.length) : holder (turn z v) v = -holder z v := by
  unfold holder
  rw [getD_turn h1 h2, if_pos rfl]
  cases z.getD (v - 1) false <;> simp
/-- a variable, turned -/
def LS.lost (s : LS) (z : List Bool) (v : Nat) : LS := s.loses (holder z v) (hav s.cls (holder z v))
def LS.flip (s : LS) (z : List Bool) (v : Nat) : LS := (s.lost z v).gains (-holder z v) (hav s.cls (-holder z v))
section
variable {s : LS} {z : List Bool} {v : Nat}
theorem lost_spec (h : s.Good z.length) (ha : s.At z) (h1 : 1 ≤ v) (h2 : v ≤ z.length) : (s.lost z v).Good z.length ∧ (s.lost z v).cls = s.cls ∧ ∀ i, (s.lost z v).hss.getD i [] = (s.hss.getD i []).erase (holder z v) := by
  obtain ⟨g1, g2, g3⟩ := loses_spec h (l := holder z v) _ (hav s.cls (holder z v)) rfl (hav_nodup _ _) fun i hi => (ha i _).2 ⟨mem_hav.1 hi, hol_holder h1 h2⟩
  refine ⟨g1, g2, fun i => (g3 i).trans ?_⟩
  split
  · rfl
  · rename_i hn
    rw [List.erase_of_not_mem]
    intro hm
    exact hn (mem_hav.2 (h.sub _ _ hm))
theorem lost_not (h : s.Good z.length) (ha : s.At z) (h1 : 1 ≤ v) (h2 : v ≤ z.length) (i : Nat) : -holder z v ∉ (s.lost z v).hss.getD i [] := by
  obtain ⟨g1, g2, g3⟩ := lost_spec h ha h1 h2
  rw [g3]
  intro hm
  have := ((ha i _).1 (List.mem_of_mem_erase hm)).2
  have habs := holder_abs z v
  rw [hol_opp (by omega) (by omega), hol_holder h1 h2] at this
  cases this
theorem flip_spec (h : s.Good z.length) (ha : s.At z) (h1 : 1 ≤ v) (h2 : v ≤ z.length) : (s.flip z v).Good (turn z v).length ∧ (s.flip z v).cls = s.cls ∧ (s.flip z v).At (turn z v) := by
  obtain ⟨g1, g2, g3⟩ := lost_spec h ha h1 h2
  have habs := holder_abs z v
  have hnot := lost_not h ha h1 h2
  obtain ⟨k1, k2, k3⟩ := gains_spec g1 (l := -holder z v) _ (hav s.cls (-holder z v)) rfl (hav_nodup _ _) fun i hi => ⟨by rw [g2]; exact mem_hav.1 hi, hnot i⟩
  refine ⟨by rw [turn_len]; exact k1, k2.trans g2, fun i x => ?_⟩
  show x ∈ ((s.lost z v).gains (-holder z v) (hav s.cls (-holder z v))).hss.getD i [] ↔ x ∈ ((s.lost z v).gains (-holder z v) (hav s.cls (-holder z v))).cls.getD i [] ∧ _
  rw [k3, k2, g2, g3]
  have hmem : x ∈ (s.hss.getD i []).erase (holder z v) ↔ x ≠ holder z v ∧ x ∈ s.cls.getD i [] ∧ hol z x = true := by rw [(h.nd i).mem_erase_iff, ha]
  by_cases hx : x ∈ s.cls.getD i []
  · have hl := h.lits i x hx
    rw [hol_turn h1 h2 hl.1 hl.2]
    by_cases e : x.natAbs = v
    · rw [if_pos e]
      have hcase : x = holder z v ∨ x = -holder z v := by omega
      rcases hcase with hc | hc
      · subst hc
        have hne : holder z v ≠ -holder z v := by omega
        rw [hol_holder h1 h2]
        split
        · simp only [List.mem_cons, hmem]
          simp [hne]
        · rw [hmem]; simp
      · subst hc
        have hop : hol z (-holder z v) = false := by rw [hol_opp (by omega) (by omega), hol_holder h1 h2]; rfl
        rw [if_pos (mem_hav.2 hx), hop]
        exact ⟨fun _ => ⟨hx, rfl⟩, fun _ => by simp⟩
    · rw [if_neg e]
      have hne : x ≠ holder z v := by omega
      have hne2 : x ≠ -holder z v := by omega
      split
      · simp only [List.mem_cons, hmem]
        simp [hne, hne2]
      · rw [hmem]; simp [hne]
  · constructor
    · intro hm
      split at hm
      · rename_i hi
        rcases List.mem_cons.1 hm with e | hm
        · exact absurd (e ▸ mem_hav.1 hi) hx
        · exact absurd (hmem.1 hm).2.1 hx
      · exact absurd (hmem.1 hm).2.1 hx
    · rintro ⟨hm, _⟩
      exact absurd hm hx
/-- how many of a clause's literals hold -/
theorem at_len (h : s.Good z.length) (ha : s.At z) (i : Nat) : (s.hss.getD i []).length = ((s.cls.getD i []).filter (hol z)).length := by
  refine List.Perm.length_eq ((List.perm_ext_iff_of_nodup (h.nd i) (List.Pairwise.filter _ (h.cnd i))).2 fun x => ?_)
  rw [ha, List.mem_filter]
end

/-- what is remembered of the best one -/
structure BS where
  flips : Nat
  fewest : Nat
  since : List Nat
  best : Option (List Bool)
def undo (z : List Bool) (vs : List Nat) : List Bool := vs.foldl turn z
def BS.of (b : BS) (z : List Bool) : List Bool := match b.best with
  | some a => a
  | none => undo z b.since
/-- how what is remembered and an assignment fit -/
structure BS.Good (b : BS) (z : List Bool) : Prop where
  vars : ∀ v ∈ b.since, 1 ≤ v ∧ v ≤ z.length
  few : b.best = none → b.since.length < z.length ∨ b.since = []
  most : b.since.length ≤ z.length
  len : ∀ a, b.best = some a → a.length = z.length ∧ 0 < z.length
/-- a variable was turned, and z is what came of it, with u clauses that are not satisfied -/
def BS.next (b : BS) (u v : Nat) (z : List Bool) : BS :=
  if u < b.fewest then { b with flips := b.flips + 1, fewest := u, since := [], best := none }
  else match b.best with
    | some _ => { b with flips := b.flips + 1 }
    | none => { b with flips := b.flips + 1, since := b.since ++ [v], best := if z.length ≤ b.since.length + 1 then some (undo z (b.since ++ [v])) else none }
theorem undo_len : ∀ (vs : List Nat) (z : List Bool), (undo z vs).length = z.length
  | [], _ => rfl
  | v :: vs, z => by
    show (undo (turn z v) vs).length = _
    rw [undo_len, turn_len]
theorem undo_turn {v : Nat} : ∀ (vs : List Nat) (z : List Bool), 1 ≤ v → v ≤ z.length → (∀ u ∈ vs, 1 ≤ u ∧ u ≤ z.length) → undo (turn z v) vs = turn (undo z vs) v
  | [], _, _, _, _ => rfl
  | u :: vs, z, h1, h2, h => by
    have hu := h u (by simp)
    show undo (turn (turn z v) u) vs = turn (undo (turn z u) vs) v
    rw [turn_comm h1 h2 hu.1 hu.2]
    exact undo_turn vs (turn z u) h1 (by rw [turn_len]; exact h2) fun x hx => by rw [turn_len]; exact h x (by simp [hx])
theorem next_of {b : BS} {z : List Bool} {u v : Nat} (h : b.Good z) (h1 : 1 ≤ v) (h2 : v ≤ z.length) : (b.next u v (turn z v)).of (turn z v) = if u < b.fewest then turn z v else b.of z := by
  unfold BS.next
  split
  · rfl
  · unfold BS.of
    rcases hb : b.best with _ | a
    · have e : undo (turn z v) (b.since ++ [v]) = undo z b.since := by
        rw [undo, List.foldl_append]
        show turn (undo (turn z v) b.since) v = _
        rw [undo_turn _ _ h1 h2 h.vars, turn_turn h1 (by rw [undo_len]; exact h2)]
      simp only
      split
      · rename_i heq
        split at heq
        · injection heq with heq
          rw [← heq]; exact e
        · cases heq
      · exact e
    · simp [hb]
theorem next_good {b : BS} {z : List Bool} {u v : Nat} (h : b.Good z) (h1 : 1 ≤ v) (h2 : v ≤ z.length) (hf : b.best = none → b.since.length < z.length) : (b.next u v (turn z v)).Good (turn z v) := by
  have hl := turn_len z v
  unfold BS.next
  split
  · exact ⟨(fun x hx => by cases hx), (fun _ => .inr rfl), Nat.zero_le _, (fun a ha => by cases ha)⟩
  · rcases hb : b.best with _ | a
    · simp only
      have hlt := hf hb
      refine ⟨fun x hx => ?_, fun hn => ?_, by rw [hl]; simp; omega, fun a ha => ?_⟩
      · rw [hl]
        rcases List.mem_append.1 hx with hx | hx
        · exact h.vars x hx
        · obtain rfl : x = v := by simpa using hx
          exact ⟨h1, h2⟩
      · simp only at hn
        split at hn
        · cases hn
        · rename_i hh
          left
          simp
          omega
      · simp only at ha
        split at ha
        · injection ha with ha
          subst ha
          rw [undo_len]
          exact ⟨rfl, by omega⟩
        · cases ha
    · simp only
      refine ⟨fun x hx => by rw [hl]; exact h.vars x hx, fun hn => by simp [hb] at hn, by rw [hl]; exact h.most, fun a' ha => by rw [hl]; exact h.len a' (hb.trans ha)⟩
theorem next_fewest {b : BS} {z : List Bool} {u v : Nat} : (b.next u v z).fewest = if u < b.fewest then u else b.fewest := by
  unfold BS.next
  split
  · rfl
  · rcases b.best with _ | a <;> rfl
theorem next_flips {b : BS} {z : List Bool} {u v : Nat} : (b.next u v z).flips = b.flips + 1 := by
  unfold BS.next
  split
  · rfl
  · rcases b.best with _ | a <;> rfl
end Go.Proofs.Ytllgepabjglnaaa
