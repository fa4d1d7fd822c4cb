/- A statement on the store of clauses, proved: all clauses that are there are told by their refs, rising; of every input, under the row's own conditions. -/
import Derived.Test.YtnjcegjcaaplgaaRows
import Derived.Test.YtnjcegjcaaplgaaOpen05c
namespace Go.Proofs.Ytnjcegjcaaplgaa
open Go.ChangeShapes Go.WideShapes Go.ChangeAt Go.RowKit
set_option linter.unusedVariables false

theorem own : ownKnob Try.prog.godebug = none := by kernel_rfl
theorem laidOut : laidOutB Try.prog = true := by kernel_rfl

set_option maxRecDepth 100000 in
theorem arenaAll_lifted (os : Os) (started : os.Started) (H : Type) (enc : TypeId × Value → H) :
    ReturnsInHanded {} Try.checked os 3 .any (Rows.arenaAllSpec.pre6 enc Try.prog Try.f3 Rows.arenaAllRow.domain false) (Rows.arenaAllSpec.post enc Try.prog Try.f3 false true false false) := by
  refine returnsInHanded_of_change_sized (C := Try.checked) own started (by kernel_rfl) Try.func3
    (ChangeSpec.witness6 (enc := enc) (C := Try.checked) false ⟨#[], #[.slice none 0 0, .int .u8 0, .int .u8 0], []⟩ 8 (by kernel_rfl) (by kernel_rfl) (by kernel_rfl) (by kernel_rfl)) ?_
  intro W base args ds gs before hval0 hW _ hsz _
  refine law_contract (fn := Try.f3) laidOut (by kernel_rfl) (by kernel_rfl) (Try.underlying4) rfl ?_ hW ?_
  · intro ds h
    match ds, h with
    | [_, _, _], _ => rfl
  · intro p hA
    have hval : ∀ (j : Nat) t v, Try.f3.params[j]? = some t → args[j]? = some v → Value.okWide Try.prog W .any base t v := hval0
    rw [Try.params3] at hA hval
    obtain ⟨v0, vs0, d0, ds0, p0, q0, hargs, rfl, rfl, h0, r0⟩ := trodAll_cons hA
    obtain ⟨v1, vs1, d1, ds1, p1, q1, rfl, rfl, rfl, h1, r1⟩ := trodAll_cons r0
    obtain ⟨v2, vs2, d2, ds2, p2, q2, rfl, rfl, rfl, h2, r2⟩ := trodAll_cons r1
    obtain ⟨rfl, rfl, rfl⟩ := trodAll_nil r2
    obtain rfl : args = #[v0, v1, v2] := by cases args; simp_all
    have hs0 : Sz Try.prog 22 d0 := sz_arg hsz (j := 0) rfl rfl
    obtain ⟨A0', L0', C0', rfl⟩ := okWide_slice Try.underlying22 (hval 0 _ v0 rfl rfl)
    obtain ⟨fu0, hf0⟩ := h0
    obtain ⟨A0, c0, dd0, e0, l0, k0, w0⟩ := deeds_of (y := (d0, p0)) (by simpa [Value.cells] using hf0) hs0
    rw [e0]
    obtain ⟨a1, rfl, rfl, rfl, w1⟩ := open_int Try.underlying5 (hval 1 _ v1 rfl rfl) h1
    obtain ⟨a2, rfl, rfl, rfl, w2⟩ := open_int Try.underlying5 (hval 2 _ v2 rfl rfl) h2
    exact alls_raw A0 c0 dd0 a1 a2 W l0 k0 w0 w1 w2

theorem arenaAll_holds : Rows.ArenaAllSaid :=
  OpenClaim.holds_of_wide 3 Try.f3 rfl rfl rfl rfl rfl rfl rfl ⟨rfl, rfl, rfl, rfl, rfl⟩ rfl rfl rfl rfl rfl (by kernel_rfl) Try.func3 (by kernel_rfl)
    (of_decide_eq_true (by kernel_rfl)) (by unfold Func.isWrapper; first | (rw [if_pos (by decide +kernel)]; kernel_rfl) | (rw [if_neg (by decide +kernel)]; exact ⟨rfl, rfl⟩))
    (fun os started H enc _ => arenaAll_lifted os started H enc)
end Go.Proofs.Ytnjcegjcaaplgaa
