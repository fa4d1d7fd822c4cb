/- The statement on what is counted, proved: what is looked at is counted, and never falls; without clauses nothing follows, whatever is decided; of every input, under the rows' own conditions. -/
import Derived.Test.YtfmcgodgflpggaaRows
import Derived.Test.YtfmcgodgflpggaaVisits13
import Derived.Test.YtfmcgodgflpggaaOpenRaw
namespace Go.Proofs.Ytfmcgodgflpggaa
open Go.ChangeShapes Go.WideShapes Go.ChangeAt Go.RowKit
open Go.Joins
set_option linter.unusedVariables false

theorem own : ownKnob Try.prog.godebug = none := by kernel_rfl
theorem laidOut : laidOutB Try.prog = true := by kernel_rfl

set_option maxRecDepth 100000 in
theorem watchVisits_lifted (os : Os) (started : os.Started) (H : Type) (enc : TypeId × Value → H) :
    ReturnsInHanded {} Try.checked os 6 .any (Rows.watchVisitsSpec.pre6 enc Try.prog Try.f6 Rows.watchVisitsRow.domain false) (Rows.watchVisitsSpec.post enc Try.prog Try.f6 false true false false) := by
  refine returnsInHanded_of_change_sized (C := Try.checked) own started (by kernel_rfl) Try.func6
    (ChangeSpec.witness6 (enc := enc) (C := Try.checked) false ⟨#[], #[.agg #[.int .u8 0, .slice none 0 0], .slice none 0 0], []⟩ 8 (by kernel_rfl) (by kernel_rfl) (by kernel_rfl) (by kernel_rfl)) ?_
  intro W base args ds gs before hval0 hW _ hsz _
  refine law_contract (fn := Try.f6) laidOut (by kernel_rfl) (by kernel_rfl) (Try.underlying4) rfl ?_ hW ?_
  · intro ds h
    match ds, h with
    | [_, _], _ => rfl
  · intro p hA
    have hval : ∀ (j : Nat) t v, Try.f6.params[j]? = some t → args[j]? = some v → Value.okWide Try.prog W .any base t v := hval0
    rw [Try.params6] at hA hval
    obtain ⟨v0, vs0, d0, ds0, p0, q0, hargs, rfl, rfl, h0, r0⟩ := trodAll_cons hA
    obtain ⟨v1, vs1, d1, ds1, p1, q1, rfl, rfl, rfl, h1, r1⟩ := trodAll_cons r0
    obtain ⟨rfl, rfl, rfl⟩ := trodAll_nil r1
    obtain rfl : args = #[v0, v1] := by cases args; simp_all
    have hs0 : Sz Try.prog 24 d0 := sz_arg hsz (j := 0) rfl rfl
    obtain ⟨x0, y0, zx0, zy0, n0, rfl, rfl, _, hx0, hy0⟩ := open_agg2 Try.underlying24 (by kernel_rfl) (by kernel_rfl) (hval 0 _ v0 rfl rfl) h0
    obtain ⟨u0, e0, _, wu0⟩ := DataW.trod_int Try.underlying5 hx0
    simp at e0
    subst e0
    obtain ⟨A0, c0, nss0, rfl, l0, m0, wn0, w0⟩ := krows_of Try.underlying22 Try.underlying60 Try.underlying61 (by kernel_rfl) (by kernel_rfl) (by kernel_rfl) (by kernel_rfl) hy0 (sz_agg2 hs0 Try.underlying24).2
    obtain ⟨a1, len1, cap1, z1, rfl, w1⟩ := isInts_of Try.underlying50 Try.underlying51 (by kernel_rfl) (hval 1 _ v1 rfl rfl) h1
    exact visits13_raw u0 nss0 A0 c0 W a1 len1 cap1 z1 wu0 l0 m0 wn0 w0 w1

theorem watchVisits_holds : Rows.WatchVisitsSaid :=
  OpenClaim.holds_of_wide 6 Try.f6 rfl rfl rfl rfl rfl rfl rfl ⟨rfl, rfl, rfl, rfl, rfl⟩ rfl rfl rfl rfl rfl (by kernel_rfl) Try.func6 (by kernel_rfl)
    (of_decide_eq_true (by kernel_rfl)) (by unfold Func.isWrapper; first | (rw [if_pos (by decide +kernel)]; kernel_rfl) | (rw [if_neg (by decide +kernel)]; exact ⟨rfl, rfl⟩))
    (fun os started H enc _ => watchVisits_lifted os started H enc)
end Go.Proofs.Ytfmcgodgflpggaa
