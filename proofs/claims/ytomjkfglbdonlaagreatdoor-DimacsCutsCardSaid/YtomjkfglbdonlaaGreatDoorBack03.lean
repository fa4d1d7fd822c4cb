/- Formulas are printed as the document says, and come back. -/
import Derived.Test.YtomjkfglbdonlaaGreatDoorFit03
import Derived.Test.YtomjkfglbdonlaaGreatDoorTold
import Derived.Test.YtomjkfglbdonlaaGreatDoorBackMath
import Derived.Test.YtomjkfglbdonlaaGreatDoorRawForm
import Derived.Test.YtomjkfglbdonlaaGreatDoorLaw02
import Derived.Test.YtomjkfglbdonlaaGreatDoorOpenRaw
namespace Go.Proofs.YtomjkfglbdonlaaGreatDoor
open Go.RowKit
set_option linter.unusedSimpArgs false
set_option linter.unusedVariables false
set_option linter.unnecessarySimpa false

/-- how long a formula's text is at most -/
theorem form_len {V : Int} {cls : List (List Int)} (hV0 : -9223372036854775808 ≤ V) (hV1 : V ≤ 9223372036854775807) (hn : cls.length ≤ 9223372036854775807) (h : ∀ c ∈ cls, ∀ l ∈ c, -9223372036854775808 ≤ l ∧ l ≤ 9223372036854775807) :
    (formText V cls).length ≤ 60 + 22 * litCount cls + 2 * cls.length := by
  have h1 := Lib.itoa_length_le V hV0 hV1
  have h2 := Lib.itoa_length_le cls.length (by omega) (by omega)
  have h3 : ∀ c : List Int, (∀ l ∈ c, -9223372036854775808 ≤ l ∧ l ≤ 9223372036854775807) → (litsText c).length ≤ 22 * c.length := by
    intro c
    induction c with
    | nil => intro _; simp [litsText]
    | cons l c ih =>
      intro hc
      have h4 := Lib.itoa_length_le l (hc l (by simp)).1 (hc l (by simp)).2
      have h5 := ih (fun x hx => hc x (by simp [hx]))
      have e : litsText (l :: c) = Lib.itoa l ++ [32] ++ litsText c := by unfold litsText; simp
      rw [e]; simp; omega
  have h6 : ∀ cls : List (List Int), (∀ c ∈ cls, ∀ l ∈ c, -9223372036854775808 ≤ l ∧ l ≤ 9223372036854775807) → (clausesText cls).length ≤ 22 * litCount cls + 2 * cls.length := by
    intro cls
    induction cls with
    | nil => intro _; simp [clausesText]
    | cons c cls ih =>
      intro hc
      have h4 := h3 c (hc c (by simp))
      have h5 := ih (fun x hx => hc x (by simp [hx]))
      have e : clausesText (c :: cls) = litsText c ++ [48, 10] ++ clausesText cls := by unfold clausesText clauseText; simp
      have e2 : litCount (c :: cls) = c.length + litCount cls := by unfold litCount; simp
      rw [e, e2]; simp; omega
  have h7 := h6 cls h
  unfold formText headText
  simp only [List.length_append, List.length_cons, List.length_nil]
  omega

/-- the formula that a statement makes of raw numbers: all that its text needs -/
structure RawOk (F width k : Nat) (cls : List (List Int)) : Prop where
  few : cls.length ≤ k
  lits : litCount cls + cls.length ≤ 10 * k
  ok : ∀ c ∈ cls, ClauseOk F c
  bd : ∀ c ∈ cls, ∀ l ∈ c, -9223372036854775808 ≤ l ∧ l ≤ 9223372036854775807
  at_ : ∀ j i, -9223372036854775808 ≤ (cls.getD j []).getD i 0 ∧ (cls.getD j []).getD i 0 ≤ 9223372036854775807
  len : ∀ j, (cls.getD j []).length ≤ 10 * k
theorem rawOk {F width k : Nat} {nss : List (List Int)} (hF : F ≤ 100000) (h : light nss k = true) : RawOk F width k (rawForm F width nss) := by
  obtain ⟨h1, h2⟩ := light_iff.1 h
  have hl := rawForm_len F width nss
  have hc := rawForm_count F width nss
  have hmem : ∀ c ∈ rawForm F width nss, ∃ ns, c = rawClause F width ns := fun c hc => by
    unfold rawForm at hc
    obtain ⟨ns, _, rfl⟩ := List.mem_map.1 hc
    exact ⟨ns, rfl⟩
  have hok : ∀ c ∈ rawForm F width nss, ∀ l ∈ c, l ≠ 0 ∧ -(F : Int) ≤ l ∧ l ≤ F := fun c hc l hl => by
    obtain ⟨ns, rfl⟩ := hmem c hc
    have := rawClause_bd hl
    exact ⟨this.2.1, this.2.2.1, this.2.2.2⟩
  have hgm : ∀ j, (rawForm F width nss).getD j [] = [] ∨ (rawForm F width nss).getD j [] ∈ rawForm F width nss := fun j => by
    rcases Nat.lt_or_ge j (rawForm F width nss).length with h | h
    · right; rw [List.getD, List.getElem?_eq_getElem h]; exact List.getElem_mem h
    · left; rw [List.getD, List.getElem?_eq_none h]; rfl
  refine ⟨by omega, by omega, fun c hc l hl => ?_, fun c hc l hl => ?_, fun j i => ?_, fun j => ?_⟩
  · have := hok c hc l hl; exact ⟨this.1, by omega⟩
  · have := hok c hc l hl; omega
  · rcases hgm j with e | hm
    · rw [e]; simp
    · rcases Nat.lt_or_ge i ((rawForm F width nss).getD j []).length with h | h
      · have hmem2 : ((rawForm F width nss).getD j []).getD i 0 ∈ (rawForm F width nss).getD j [] := by
          generalize (rawForm F width nss).getD j [] = cj at h
          rw [List.getD, List.getElem?_eq_getElem h]; exact List.getElem_mem h
        have := hok _ hm _ hmem2
        omega
      · generalize (rawForm F width nss).getD j [] = cj at h
        rw [List.getD, List.getElem?_eq_none h]; simp
  · rcases Nat.lt_or_ge j (rawForm F width nss).length with h | h
    · have h9 : ((rawForm F width nss).getD j []).length ≤ litCount (rawForm F width nss) := by
        have h8 := litCount_take h
        have h7 := litCount_take_le (rawForm F width nss) (j + 1)
        omega
      omega
    · rw [List.getD, List.getElem?_eq_none h]; simp
theorem RawOk.text {F width k : Nat} {cls : List (List Int)} (h : RawOk F width k cls) (hF : F ≤ 100000) (hk : k ≤ 1000) : (formText F cls).length ≤ 60 + 240 * k := by
  have h1 := form_len (V := F) (cls := cls) (by omega) (by omega) (by have := h.few; omega) h.bd
  have h2 := h.lits
  have h3 := h.few
  omega
theorem RawOk.back {F width k : Nat} {cls : List (List Int)} (h : RawOk F width k cls) (hF : F ≤ 100000) (hk : k ≤ 1000) : parseOf (formText F cls) = .ok F cls :=
  parse_back (by omega) (by omega) (by have := h.few; omega) h.ok (by have := h.lits; omega)

theorem light_rows {nss : List (List Int)} {k : Nat} (h : light nss k = true) (j : Nat) : (nss.getD j []).length ≤ 10 * k := by
  have h1 := (light_iff.1 h).1
  rcases Nat.lt_or_ge j nss.length with hj | hj
  · have h8 := litCount_take hj
    have h7 := litCount_take_le nss (j + 1)
    omega
  · rw [List.getD, List.getElem?_eq_none hj]; simp

theorem raw_nat03 {u : Int} (h : (Lit.int .u8 u).wf = true) : ∃ v : Nat, u = v ∧ v ≤ 255 := by
  have := bounds_u8 h
  exact ⟨u.toNat, by omega, by omega⟩
theorem raw_rows03 {nss : List (List Int)} (m : ∀ j, (nss.getD j []).length * 2 ≤ 140737488351232) (h : ∀ j i, (Lit.int .i16 ((nss.getD j []).getD i 0)).wf = true) :
    (∀ j, (nss.getD j []).length ≤ 140737488355328) ∧ ∀ j k, -32768 ≤ (nss.getD j []).getD k 0 ∧ (nss.getD j []).getD k 0 ≤ 32767 :=
  ⟨fun j => by have := m j; omega, fun j k => by have := bounds_i16 (h j k); omega⟩
end Go.Proofs.YtomjkfglbdonlaaGreatDoor
