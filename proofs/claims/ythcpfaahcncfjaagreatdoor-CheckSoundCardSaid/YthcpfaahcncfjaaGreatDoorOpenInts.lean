/- A row of numbers that came in, as a list. -/
import Derived.Test.YthcpfaahcncfjaaGreatDoorOpen
import Derived.Test.YthcpfaahcncfjaaGreatDoorOpenRaw
namespace Go.Proofs.YthcpfaahcncfjaaGreatDoor
open Go.ChangeShapes Go.WideShapes Go.ChangeAt Go.RowKit Go.Deep
set_option linter.unusedVariables false

theorem kints_of {H : Type} {enc : TypeId × Value → H} {P : Program} {W : World} {t e : TypeId} {k : IntKind} {r : Reach} {base : Nat} {v : Value} {d : DataW H} {p : List MemPlace}
    (ht : P.underlying t = some (.slice e)) (he : P.underlying e = some (.int k)) (hc : P.cellsOf e = 1) (hv : Value.okWide P W r base t v)
    (h : DataW.Trod enc P W 0 (fun _ => true) true t v d p) : ∃ (A : Option Addr) (c : Nat) (ns : List Int), v = .slice A ns.length c ∧ ns.length ≤ 9223372036854775807 ∧ (∀ j, (Lit.int k (ns.getD j 0)).wf = true) ∧ KInts k W W.heap.size A ns := by
  obtain ⟨a, len, cap, z, rfl, h1, h2, h3, h4⟩ := isInts_of ht he hc hv h
  have hg : ∀ j, j < len → ((List.range len).map z).getD j 0 = z j := fun j hj => by simp [List.getD, hj]
  have hl : ((List.range len).map z).length = len := by simp
  have hmx : maxLen = 9223372036854775807 := by decide
  refine ⟨a, cap, (List.range len).map z, by rw [hl], by rw [hl]; omega, fun j => ?_, fun hp => ?_⟩
  · rcases Nat.lt_or_ge j len with hj | hj
    · rw [hg j hj]; exact h3 j (by omega)
    · rw [List.getD, List.getElem?_eq_none (by rw [hl]; exact hj)]; exact wf_zero k
  · rw [hl] at hp
    obtain ⟨b, off, e, hb, hcl⟩ := h4 (by omega)
    exact ⟨b, off, e, hb, fun j hj => by rw [hl] at hj; rw [hcl j (by omega)]; simp only [hg j hj]⟩
theorem kints_cap {H : Type} {enc : TypeId × Value → H} {P : Program} {W : World} {t e : TypeId} {k : IntKind} {r : Reach} {base : Nat} {v : Value} {d : DataW H} {p : List MemPlace}
    (ht : P.underlying t = some (.slice e)) (he : P.underlying e = some (.int k)) (hc : P.cellsOf e = 1) (hv : Value.okWide P W r base t v)
    (h : DataW.Trod enc P W 0 (fun _ => true) true t v d p) : ∃ (A : Option Addr) (c : Nat) (ns : List Int), v = .slice A ns.length c ∧ ns.length ≤ c ∧ ns.length ≤ 9223372036854775807 ∧ (∀ j, (Lit.int k (ns.getD j 0)).wf = true) ∧ KInts k W W.heap.size A ns := by
  obtain ⟨A, c, ns, hv', h1, h2, h3⟩ := kints_of ht he hc hv h
  obtain ⟨a, len, cap, z, hv2, h4, _⟩ := isInts_of ht he hc hv h
  rw [hv'] at hv2
  injection hv2 with _ e2 e3
  exact ⟨A, c, ns, hv', by omega, h1, h2, h3⟩
end Go.Proofs.YthcpfaahcncfjaaGreatDoor
