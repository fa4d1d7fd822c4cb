/- A statement on clauses in normal form, proved: a clause in one form has just the literals of the clause, rising, each once; of every input, under the rows' own conditions. -/
import Derived.Test.YtkncndddednipaaRows
import Derived.Test.YtkncndddednipaaClauses04
import Derived.Test.YtkncndddednipaaOpen04
namespace Go.Proofs.Ytkncndddednipaa
open Go.ChangeShapes Go.WideShapes Go.ChangeAt Go.RowKit
set_option linter.unusedVariables false

theorem own : ownKnob Try.prog.godebug = none := by kernel_rfl
theorem laidOut : laidOutB Try.prog = true := by kernel_rfl

set_option maxRecDepth 100000 in
theorem normClauses_lifted (os : Os) (started : os.Started) (H : Type) (enc : TypeId × Value → H) :
    ReturnsInHanded {} Try.checked os 3 .any (Rows.normClausesSpec.pre6 enc Try.prog Try.f3 Rows.normClausesRow.domain false) (Rows.normClausesSpec.post enc Try.prog Try.f3 false true false false) := by
  refine returnsInHanded_of_change_sized (C := Try.checked) own started (by kernel_rfl) Try.func3
    (ChangeSpec.witness6 (enc := enc) (C := Try.checked) false ⟨#[], #[.slice none 0 0, .slice none 0 0], []⟩ 8 (by kernel_rfl) (by kernel_rfl) (by kernel_rfl) (by kernel_rfl)) ?_
  intro W base args ds gs before hval0 hW _ hsz _
  refine law_contract (fn := Try.f3) laidOut (by kernel_rfl) (by kernel_rfl) (Try.underlying4) rfl ?_ hW ?_
  · intro ds h
    match ds, h with
    | [_, _], _ => rfl
  · intro p hA
    have hval : ∀ (j : Nat) t v, Try.f3.params[j]? = some t → args[j]? = some v → Value.okWide Try.prog W .any base t v := hval0
    rw [Try.params3] at hA hval
    obtain ⟨v0, vs0, d0, ds0, p0, q0, hargs, rfl, rfl, h0, r0⟩ := trodAll_cons hA
    obtain ⟨v1, vs1, d1, ds1, p1, q1, rfl, rfl, rfl, h1, r1⟩ := trodAll_cons r0
    obtain ⟨rfl, rfl, rfl⟩ := trodAll_nil r1
    obtain rfl : args = #[v0, v1] := by cases args; simp_all
    have hs0 : Sz Try.prog 22 d0 := sz_arg hsz (j := 0) rfl rfl
    obtain ⟨a0, len0, cap0, z0, rfl, w0, l0⟩ := isIntsSz_of Try.underlying22 Try.underlying49 (by kernel_rfl) (by kernel_rfl) (hval 0 _ v0 rfl rfl) h0 hs0
    have hs1 : Sz Try.prog 22 d1 := sz_arg hsz (j := 1) rfl rfl
    obtain ⟨a1, len1, cap1, z1, rfl, w1, l1⟩ := isIntsSz_of Try.underlying22 Try.underlying49 (by kernel_rfl) (by kernel_rfl) (hval 1 _ v1 rfl rfl) h1 hs1
    exact clauses_raw a0 a1 len0 cap0 len1 cap1 z0 z1 W w0 w1 l0 l1

theorem normClauses_holds : Rows.NormClausesSaid :=
  OpenClaim.holds_of_wide 3 Try.f3 rfl rfl rfl rfl rfl rfl rfl ⟨rfl, rfl, rfl, rfl, rfl⟩ rfl rfl rfl rfl rfl (by kernel_rfl) Try.func3 (by kernel_rfl)
    (of_decide_eq_true (by kernel_rfl)) (by unfold Func.isWrapper; first | (rw [if_pos (by decide +kernel)]; kernel_rfl) | (rw [if_neg (by decide +kernel)]; exact ⟨rfl, rfl⟩))
    (fun os started H enc _ => normClauses_lifted os started H enc)
end Go.Proofs.Ytkncndddednipaa
