/- The statement on ways that may be, proved: they are just those of the document, and an assignment of another length is refused; of every input, under the rows' own conditions. -/
import Derived.Test.YtllgepabjglnaaaRows
import Derived.Test.YtllgepabjglnaaaRights15
import Derived.Test.YtllgepabjglnaaaOpenRaw
namespace Go.Proofs.Ytllgepabjglnaaa
open Go.ChangeShapes Go.WideShapes Go.ChangeAt Go.RowKit
open Go.Joins
set_option linter.unusedVariables false

theorem own : ownKnob Try.prog.godebug = none := by kernel_rfl
theorem laidOut : laidOutB Try.prog = true := by kernel_rfl

set_option maxRecDepth 100000 in
theorem walkRights_lifted (os : Os) (started : os.Started) (H : Type) (enc : TypeId × Value → H) :
    ReturnsInHanded {} Try.checked os 6 .any (Rows.walkRightsSpec.pre6 enc Try.prog Try.f6 Rows.walkRightsRow.domain false) (Rows.walkRightsSpec.post enc Try.prog Try.f6 false true false false) := by
  refine returnsInHanded_of_change_sized (C := Try.checked) own started (by kernel_rfl) Try.func6
    (ChangeSpec.witness6 (enc := enc) (C := Try.checked) false ⟨#[], #[.agg #[.int .i64 0, .int .i64 0, .int .i64 0], .agg #[.int .u8 0, .slice none 0 0]], []⟩ 8 (by kernel_rfl) (by kernel_rfl) (by kernel_rfl) (by kernel_rfl)) ?_
  intro W base args ds gs before hval0 hW _ hsz _
  refine law_contract (fn := Try.f6) laidOut (by kernel_rfl) (by kernel_rfl) (Try.underlying4) rfl ?_ hW ?_
  · intro ds h
    match ds, h with
    | [_, _], _ => rfl
  · intro p hA
    have hval : ∀ (j : Nat) t v, Try.f6.params[j]? = some t → args[j]? = some v → Value.okWide Try.prog W .any base t v := hval0
    rw [Try.params6] at hA hval
    obtain ⟨v0, vs0, d0, ds0, p0, q0, hargs, rfl, rfl, h0, r0⟩ := trodAll_cons hA
    obtain ⟨v1, vs1, d1, ds1, p1, q1, rfl, rfl, rfl, h1, r1⟩ := trodAll_cons r0
    obtain ⟨rfl, rfl, rfl⟩ := trodAll_nil r1
    obtain rfl : args = #[v0, v1] := by cases args; simp_all
    obtain ⟨a0, b0, e0, rfl, w0, wb0, wc0⟩ := triple_of Try.underlying63 Try.underlying3 (by kernel_rfl) (by kernel_rfl) (hval 0 _ v0 rfl rfl) h0
    have hs1 : Sz Try.prog 24 d1 := sz_arg hsz (j := 1) rfl rfl
    obtain ⟨x1, y1, zx1, zy1, n1, rfl, rfl, _, hx1, hy1⟩ := open_agg2 Try.underlying24 (by kernel_rfl) (by kernel_rfl) (hval 1 _ v1 rfl rfl) h1
    obtain ⟨u1, e1, _, wu1⟩ := DataW.trod_int Try.underlying5 hx1
    simp at e1
    subst e1
    obtain ⟨A1, c1, nss1, rfl, l1, m1, wn1, w1⟩ := krows_of Try.underlying22 Try.underlying69 Try.underlying70 (by kernel_rfl) (by kernel_rfl) (by kernel_rfl) (by kernel_rfl) hy1 (sz_agg2 hs1 Try.underlying24).2
    exact rights15_raw a0 b0 e0 u1 nss1 A1 c1 W wu1 l1 m1 wn1 w1

theorem walkRights_holds : Rows.WalkRightsSaid :=
  OpenClaim.holds_of_wide 6 Try.f6 rfl rfl rfl rfl rfl rfl rfl ⟨rfl, rfl, rfl, rfl, rfl⟩ rfl rfl rfl rfl rfl (by kernel_rfl) Try.func6 (by kernel_rfl)
    (of_decide_eq_true (by kernel_rfl)) (by unfold Func.isWrapper; first | (rw [if_pos (by decide +kernel)]; kernel_rfl) | (rw [if_neg (by decide +kernel)]; exact ⟨rfl, rfl⟩))
    (fun os started H enc _ => walkRights_lifted os started H enc)
end Go.Proofs.Ytllgepabjglnaaa
