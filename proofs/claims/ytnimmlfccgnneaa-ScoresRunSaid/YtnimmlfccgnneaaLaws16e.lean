/- A statement on a heap of variables by their scores, proved: variables rise, are taken and put back, in whatever order, and the first one is always that of the greatest score; of every input, under the row's own conditions. -/
import Derived.Test.YtnimmlfccgnneaaRows
import Derived.Test.YtnimmlfccgnneaaRun16
namespace Go.Proofs.Ytnimmlfccgnneaa
open Go.ChangeShapes Go.WideShapes Go.ChangeAt Go.RowKit
set_option linter.unusedVariables false

theorem own : ownKnob Try.prog.godebug = none := by kernel_rfl
theorem laidOut : laidOutB Try.prog = true := by kernel_rfl

set_option maxRecDepth 100000 in
theorem scoresRun_lifted (os : Os) (started : os.Started) (H : Type) (enc : TypeId × Value → H) :
    ReturnsInHanded {} Try.checked os 3 .any (Rows.scoresRunSpec.pre6 enc Try.prog Try.f3 Rows.scoresRunRow.domain false) (Rows.scoresRunSpec.post enc Try.prog Try.f3 false true false false) := by
  refine returnsInHanded_of_change_sized (C := Try.checked) own started (by kernel_rfl) Try.func3
    (ChangeSpec.witness6 (enc := enc) (C := Try.checked) false ⟨#[], #[.int .u8 0, .slice none 0 0], []⟩ 8 (by kernel_rfl) (by kernel_rfl) (by kernel_rfl) (by kernel_rfl)) ?_
  intro W base args ds gs before hval0 hW _ hsz _
  refine law_contract (fn := Try.f3) laidOut (by kernel_rfl) (by kernel_rfl) (Try.underlying4) rfl ?_ hW ?_
  · intro ds h
    match ds, h with
    | [_, _], _ => rfl
  · intro p hA
    have hval : ∀ (j : Nat) t v, Try.f3.params[j]? = some t → args[j]? = some v → Value.okWide Try.prog W .any base t v := hval0
    rw [Try.params3] at hA hval
    obtain ⟨v0, vs0, d0, ds0, p0, q0, hargs, rfl, rfl, h0, r0⟩ := trodAll_cons hA
    obtain ⟨v1, vs1, d1, ds1, p1, q1, rfl, rfl, rfl, h1, r1⟩ := trodAll_cons r0
    obtain ⟨rfl, rfl, rfl⟩ := trodAll_nil r1
    obtain rfl : args = #[v0, v1] := by cases args; simp_all
    obtain ⟨a0, rfl, rfl, rfl, w0⟩ := open_int Try.underlying5 (hval 0 _ v0 rfl rfl) h0
    have hs1 : Sz Try.prog 22 d1 := sz_arg hsz (j := 1) rfl rfl
    obtain ⟨A1', L1', C1', rfl⟩ := okWide_slice Try.underlying22 (hval 1 _ v1 rfl rfl)
    obtain ⟨fu1, hf1⟩ := h1
    obtain ⟨A1, c1, dd1, e1, l1, k1, w1⟩ := deeds_of (y := (d1, p1)) (by simpa [Value.cells] using hf1) hs1
    rw [e1]
    exact run_raw a0 A1 c1 dd1 W w0 k1 w1

theorem scoresRun_holds : Rows.ScoresRunSaid :=
  OpenClaim.holds_of_wide 3 Try.f3 rfl rfl rfl rfl rfl rfl rfl ⟨rfl, rfl, rfl, rfl, rfl⟩ rfl rfl rfl rfl rfl (by kernel_rfl) Try.func3 (by kernel_rfl)
    (of_decide_eq_true (by kernel_rfl)) (by unfold Func.isWrapper; first | (rw [if_pos (by decide +kernel)]; kernel_rfl) | (rw [if_neg (by decide +kernel)]; exact ⟨rfl, rfl⟩))
    (fun os started H enc _ => scoresRun_lifted os started H enc)
end Go.Proofs.Ytnimmlfccgnneaa
