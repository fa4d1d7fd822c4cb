/- A statement on clauses in normal form, proved: a clause without a literal has all others, two that are resolved have all of both but the literal and its negation, and what satisfies both satisfies that; of every input, under the rows' own conditions. -/
import Derived.Test.YtkncndddednipaaRows
import Derived.Test.YtkncndddednipaaResolves04
import Derived.Test.YtkncndddednipaaOpen04
namespace Go.Proofs.Ytkncndddednipaa
open Go.ChangeShapes Go.WideShapes Go.ChangeAt Go.RowKit
set_option linter.unusedVariables false

theorem own : ownKnob Try.prog.godebug = none := by kernel_rfl
theorem laidOut : laidOutB Try.prog = true := by kernel_rfl

set_option maxRecDepth 100000 in
theorem normResolves_lifted (os : Os) (started : os.Started) (H : Type) (enc : TypeId × Value → H) :
    ReturnsInHanded {} Try.checked os 5 .any (Rows.normResolvesSpec.pre6 enc Try.prog Try.f5 Rows.normResolvesRow.domain false) (Rows.normResolvesSpec.post enc Try.prog Try.f5 false true false false) := by
  refine returnsInHanded_of_change_sized (C := Try.checked) own started (by kernel_rfl) Try.func5
    (ChangeSpec.witness6 (enc := enc) (C := Try.checked) false ⟨#[], #[.slice none 0 0, .slice none 0 0, .int .u16 0], []⟩ 8 (by kernel_rfl) (by kernel_rfl) (by kernel_rfl) (by kernel_rfl)) ?_
  intro W base args ds gs before hval0 hW _ hsz _
  refine law_contract (fn := Try.f5) laidOut (by kernel_rfl) (by kernel_rfl) (Try.underlying4) rfl ?_ hW ?_
  · intro ds h
    match ds, h with
    | [_, _, _], _ => rfl
  · intro p hA
    have hval : ∀ (j : Nat) t v, Try.f5.params[j]? = some t → args[j]? = some v → Value.okWide Try.prog W .any base t v := hval0
    rw [Try.params5] at hA hval
    obtain ⟨v0, vs0, d0, ds0, p0, q0, hargs, rfl, rfl, h0, r0⟩ := trodAll_cons hA
    obtain ⟨v1, vs1, d1, ds1, p1, q1, rfl, rfl, rfl, h1, r1⟩ := trodAll_cons r0
    obtain ⟨v2, vs2, d2, ds2, p2, q2, rfl, rfl, rfl, h2, r2⟩ := trodAll_cons r1
    obtain ⟨rfl, rfl, rfl⟩ := trodAll_nil r2
    obtain rfl : args = #[v0, v1, v2] := by cases args; simp_all
    have hs0 : Sz Try.prog 22 d0 := sz_arg hsz (j := 0) rfl rfl
    obtain ⟨a0, len0, cap0, z0, rfl, w0, l0⟩ := isIntsSz_of Try.underlying22 Try.underlying49 (by kernel_rfl) (by kernel_rfl) (hval 0 _ v0 rfl rfl) h0 hs0
    have hs1 : Sz Try.prog 22 d1 := sz_arg hsz (j := 1) rfl rfl
    obtain ⟨a1, len1, cap1, z1, rfl, w1, l1⟩ := isIntsSz_of Try.underlying22 Try.underlying49 (by kernel_rfl) (by kernel_rfl) (hval 1 _ v1 rfl rfl) h1 hs1
    obtain ⟨a2, rfl, rfl, rfl, w2⟩ := open_int Try.underlying34 (hval 2 _ v2 rfl rfl) h2
    exact resolves_raw a0 a1 len0 cap0 len1 cap1 z0 z1 a2 W w0 w1 l0 l1 w2

theorem normResolves_holds : Rows.NormResolvesSaid :=
  OpenClaim.holds_of_wide 5 Try.f5 rfl rfl rfl rfl rfl rfl rfl ⟨rfl, rfl, rfl, rfl, rfl⟩ rfl rfl rfl rfl rfl (by kernel_rfl) Try.func5 (by kernel_rfl)
    (of_decide_eq_true (by kernel_rfl)) (by unfold Func.isWrapper; first | (rw [if_pos (by decide +kernel)]; kernel_rfl) | (rw [if_neg (by decide +kernel)]; exact ⟨rfl, rfl⟩))
    (fun os started H enc _ => normResolves_lifted os started H enc)
end Go.Proofs.Ytkncndddednipaa
