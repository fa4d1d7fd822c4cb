/- What holds of a store between and within its searches. -/
import Derived.Test.YthcpfaahcncfjaaGreatDoorExam07
namespace Go.Proofs.YthcpfaahcncfjaaGreatDoor
open Go.RowKit
set_option linter.unusedVariables false
set_option linter.unusedSimpArgs false

/-- a clause's literals, and where it waits -/
structure Clw (V : Nat) (x : CX) : Prop where
  lt : ∀ l, l ∈ x.lits → Lt7 V l
  len : x.lits.length ≤ 1000000000
  two : 2 ≤ x.lits.length → x.w0 ∈ x.lits ∧ x.w1 ∈ x.lits ∧ x.w0 ≠ x.w1 ∧ x.tried < x.lits.length
/-- it waits at this index -/
def Waits (x : CX) (j : Nat) : Prop := 2 ≤ x.lits.length ∧ (ix x.w0 = j ∨ ix x.w1 = j)
/-- the clauses, their literals alone -/
def SX.live (X : SX) : List Nat := X.ps.filter fun p => !(X.C p).gone
def SX.cs (X : SX) : List (List Int) := X.live.map fun p => (X.C p).lits
theorem SX.mem_live {X : SX} {p : Nat} : p ∈ X.live ↔ p ∈ X.ps ∧ (X.C p).gone = false := by simp [SX.live]
theorem SX.mem_cs {X : SX} {p : Nat} (h : p ∈ X.ps) (hg : (X.C p).gone = false) : (X.C p).lits ∈ X.cs := List.mem_map.2 ⟨p, SX.mem_live.2 ⟨h, hg⟩, rfl⟩
/-- a pile of clauses: all that wait at this index and are not gone, and no others that do not wait there -/
def InPile (X : SX) (P : List Nat) (j : Nat) : Prop := P.Nodup ∧ (∀ p, p ∈ P → p ∈ X.ps ∧ Waits (X.C p) j) ∧ ∀ p, p ∈ X.ps → (X.C p).gone = false → Waits (X.C p) j → p ∈ P
/-- what was found, as a row of bools and as a list -/
structure Fw (X : SX) (fo : List Bool) : Prop where
  flen : fo.length = 2 * X.V
  tie : ∀ l, Lt7 X.V l → (fo.getD (ix l) false = true ↔ l ∈ X.fd)
  nd : X.fd.Nodup
  lt : ∀ l, l ∈ X.fd → Lt7 X.V l
  con : ∀ l, l ∈ X.fd → -l ∉ X.fd
/-- while the clauses that wait at l are gone through: those kept, those to come -/
structure Mid8 (X : SX) (fo : List Bool) (L : List Int) (E : Int → Prop) (l : Int) (kept rest : List Nat) (b : Bool) : Prop where
  cl : ∀ p, p ∈ X.ps → Clw X.V (X.C p)
  plen : X.ps.length ≤ 1000000000
  pile : ∀ j, j < 2 * X.V → j ≠ ix l → InPile X (X.pss.getD j []) j
  here : InPile X (kept ++ rest) (ix l)
  fw : Fw X fo
  neg : -l ∈ X.fd
  sound : ∀ x, x ∈ X.fd → Fol X.cs L x
  eF : ∀ x, E x → x ∈ X.fd
  watch : b = true → ∀ p, p ∈ X.ps → (X.C p).gone = false → 2 ≤ (X.C p).lits.length → (E (-(X.C p).w0) ∨ (p ∉ rest ∧ (X.C p).w0 = l) → (X.C p).w1 ∈ X.fd) ∧ (E (-(X.C p).w1) ∨ (p ∉ rest ∧ (X.C p).w1 = l) → (X.C p).w0 ∈ X.fd)
  clash : b = false → Clash X.cs L

theorem nodup_len7 : ∀ {a b : List Nat}, a.Nodup → (∀ x, x ∈ a → x ∈ b) → a.length ≤ b.length
  | [], _, _, _ => Nat.zero_le _
  | x :: a, b, hn, hs => by
    have hx : x ∈ b := hs x (by simp)
    rw [List.nodup_cons] at hn
    have h2 := nodup_len7 (a := a) (b := b.erase x) hn.2 fun y hy => by
      have hne : y ≠ x := fun e => hn.1 (e ▸ hy)
      exact (List.mem_erase_of_ne hne).2 (hs y (by simp [hy]))
    have h3 := List.length_erase_of_mem hx
    have h4 := List.length_pos_of_mem hx
    simp only [List.length_cons]
    omega
theorem Fw.len {X : SX} {fo : List Bool} (h : Fw X fo) : X.fd.length ≤ 2 * X.V := by
  have hn : (X.fd.map ix).Nodup := by
    refine List.pairwise_map.2 (List.Pairwise.imp_of_mem ?_ h.nd)
    intro a b ha hb hne e
    exact hne (ix_inj (h.lt a ha) (h.lt b hb) e)
  have := nodup_len7 (b := List.range (2 * X.V)) hn fun x hx => by
    obtain ⟨l, hl, rfl⟩ := List.mem_map.1 hx
    exact List.mem_range.2 (ix_eq (h.lt l hl)).2
  simpa using this
theorem free_iff {X : SX} {fo : List Bool} (h : Fw X fo) {o x : Int} (hx : Lt7 X.V x) : freeB fo o x = true ↔ x ≠ o ∧ -x ∉ X.fd := by
  unfold freeB
  rw [Bool.and_eq_true, decide_eq_true_eq, Bool.not_eq_true', ← h.tie _ hx.neg]
  simp
/-- a literal more that was found -/
theorem Fw.add {X X' : SX} {fo : List Bool} {o : Int} (h : Fw X fo) (hV : X'.V = X.V) (ho : Lt7 X.V o) (h1 : o ∉ X.fd) (h2 : -o ∉ X.fd) (hfd : X'.fd = X.fd ++ [o]) : Fw X' (fo.set (ix o) true) := by
  have hlt := (ix_eq ho).2
  refine ⟨by rw [List.length_set, hV]; exact h.flen, fun l hl => ?_, ?_, fun l hl => ?_, fun l hl hn => ?_⟩
  · rw [hV] at hl
    rw [hfd, List.mem_append, List.mem_singleton]
    by_cases e : l = o
    · subst e
      rw [getD_set_same (by rw [h.flen]; exact hlt)]
      simp
    · rw [getD_set_other (fun e2 => e (ix_inj hl ho e2.symm)), h.tie l hl]
      simp [e]
  · rw [hfd]
    exact List.nodup_append.2 ⟨h.nd, by simp, fun a ha b hb => by rw [List.mem_singleton] at hb; rw [hb]; exact fun e => h1 (e ▸ ha)⟩
  · rw [hV]
    rw [hfd] at hl
    rcases List.mem_append.1 hl with hl | hl
    · exact h.lt l hl
    · rw [List.mem_singleton.1 hl]; exact ho
  · rw [hfd] at hl hn
    rcases List.mem_append.1 hl with hl | hl <;> rcases List.mem_append.1 hn with hn | hn
    · exact h.con l hl hn
    · rw [List.mem_singleton] at hn
      exact h2 (by rw [← hn, Int.neg_neg]; exact hl)
    · rw [List.mem_singleton.1 hl] at hn; exact h2 hn
    · rw [List.mem_singleton] at hl hn
      obtain ⟨q0, q1, q2⟩ := ho
      omega
/-- it waits at l, and at another one -/
theorem other_of_waits {V : Nat} {x : CX} {l : Int} (h : Clw V x) (hl : Lt7 V l) (hw : Waits x (ix l)) : otherOf x l ∈ x.lits ∧ otherOf x l ≠ l ∧ l ∈ x.lits ∧ ((x.w0 = l ∧ x.w1 = otherOf x l) ∨ (x.w0 = otherOf x l ∧ x.w1 = l)) := by
  obtain ⟨h2, hor⟩ := hw
  obtain ⟨a, b, c, _⟩ := h.two h2
  unfold otherOf
  rcases hor with e | e
  · have e' := ix_inj (h.lt _ a) hl e
    rw [if_pos e']
    exact ⟨b, fun e2 => c (e'.trans e2.symm), e' ▸ a, .inl ⟨e', rfl⟩⟩
  · have e' := ix_inj (h.lt _ b) hl e
    have hne : x.w0 ≠ l := fun e2 => c (e2.trans e'.symm)
    rw [if_neg hne]
    exact ⟨a, hne, e' ▸ b, .inr ⟨rfl, e'⟩⟩
end Go.Proofs.YthcpfaahcncfjaaGreatDoor
