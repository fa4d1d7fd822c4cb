/- Of headers, what the document says: of every row of words and every two numbers, under the row's own conditions, where the library's listed variables read as the program's text lays them. -/
import Derived.Test.YtnjcegjcaaplgaaGreatDoorHeadsRaw
import Derived.Test.YtnjcegjcaaplgaaGreatDoorHandle
import Derived.Test.YtnjcegjcaaplgaaGreatDoorNumDoor
import Derived.Test.YtnjcegjcaaplgaaGreatDoorDoor
import Derived.Test.YtnjcegjcaaplgaaGreatDoorCards
import Derived.Test.YtnjcegjcaaplgaaGreatDoorTie
import Derived.SevenTiedAt
import Derived.ChangeMaps5
namespace Go.Proofs.YtnjcegjcaaplgaaGreatDoor
open Go.ChangeShapes Go.WideShapes Go.ChangeAt Go.RowKit
open Go.Joins
set_option linter.unusedVariables false

/-- a world in which all that the row lists lies -/
noncomputable def dimacsHeaders_holding (os : Os) : World := { World.holding Tryz.prog os ⟨#[], #[], []⟩ with heap := (World.holding Tryz.prog os ⟨#[], #[], []⟩).heap.modify 0 fun
      | .cells _ t frozen => .cells #[.iface 83 (.agg #[.pointer (some ⟨9, 30, none⟩)])] t frozen
      | o => o }
noncomputable def dimacsHeaders_plain : List (String × DataW Unit) := Rows.dimacsHeadersRow.laid.filter fun x => x.2.handleName?.isNone
noncomputable def dimacsHeaders_world (os : Os) : World := (dimacsHeaders_holding os).layVars Tryz.prog dimacsHeaders_plain

set_option maxRecDepth 100000 in
theorem dimacsHeaders_row (os : Os) (started : os.Started) (H : Type) (enc : TypeId × Value → H) (F : Stop.Interp) :
    ReturnsInHanded {} Tryz.checked os 3 .any ((OpenSpec.ofChange Rows.dimacsHeadersSpec).preRow enc Tryz.prog Tryz.f3 Rows.dimacsHeadersRow.domain false Rows.dimacsHeadersRow.laid) (((OpenSpec.ofChange Rows.dimacsHeadersSpec).at F).post enc Tryz.prog Tryz.f3 false true false false) := by
  obtain ⟨x, hx⟩ := Option.isSome_iff_exists.1 (show (DataW.whole enc Tryz.prog ((dimacsHeaders_world os).forCall (fun _ _ => 0) ⟨#[], #[.slice none 0 0, .agg #[.int .u32 0, .int .u32 0]], []⟩).memory Tryz.f3.params.toList Rows.dimacsHeadersSpec.vars false #[.slice none 0 0, .agg #[.int .u32 0, .int .u32 0]].toList 8).isSome = true by kernel_rfl)
  refine returnsInHanded_of_row (C := Tryz.checked) (s := OpenSpec.ofChange Rows.dimacsHeadersSpec) own started (by kernel_rfl) Tryz.func3
    (witness_row_shaped (enc := enc) (C := Tryz.checked) false (dimacsHeaders_world os) #[.slice none 0 0, .agg #[.int .u32 0, .int .u32 0]] rfl (World.shaped_of_ZipB (by kernel_rfl) (by kernel_rfl)) (by kernel_rfl)
      (OpenSpec.preRow_of_cond 8 hx rfl (fun k hk => by cases hk) (by kernel_rfl) (laidMetH_of_parts (laidMet_over (w0 := dimacsHeaders_holding os) (laid := dimacsHeaders_plain) _ (by kernel_rfl) (by kernel_rfl)) (by kernel_rfl)))) ?_
  intro W base args ds gs before hval0 hW _ _ hsz hL hSh _
  refine law_contract (s := Rows.dimacsHeadersSpec) (fn := Tryz.f3) laidOut (by kernel_rfl) (by kernel_rfl) (Tryz.underlying4) rfl ?_ hW ?_
  · intro ds h
    match ds, h with
    | [_, _], _ => rfl
  · intro p hA
    have hL2 := laidH_parts hL (x := ("errors.errorType", DataW.iface "internal/reflectlite.rtype" (.agg [.ptr (.lit (.string [101, 114, 114, 111, 114]))]))) (List.mem_filter.2 ⟨(by first | exact .head _ | exact .tail _ (.head _) | exact .tail _ (.tail _ (.head _)) | exact .tail _ (.tail _ (.tail _ (.head _))) | exact .tail _ (.tail _ (.tail _ (.tail _ (.head _)))) | exact .tail _ (.tail _ (.tail _ (.tail _ (.tail _ (.head _))))) | exact .tail _ (.tail _ (.tail _ (.tail _ (.tail _ (.tail _ (.head _)))))) | exact .tail _ (.tail _ (.tail _ (.tail _ (.tail _ (.tail _ (.tail _ (.head _)))))))), rfl⟩)
    have hP := hL2.1
    have hH := handle_cell hL2.2 (List.mem_filter.2 ⟨(by first | exact .head _ | exact .tail _ (.head _) | exact .tail _ (.tail _ (.head _)) | exact .tail _ (.tail _ (.tail _ (.head _))) | exact .tail _ (.tail _ (.tail _ (.tail _ (.head _)))) | exact .tail _ (.tail _ (.tail _ (.tail _ (.tail _ (.head _))))) | exact .tail _ (.tail _ (.tail _ (.tail _ (.tail _ (.tail _ (.head _)))))) | exact .tail _ (.tail _ (.tail _ (.tail _ (.tail _ (.tail _ (.tail _ (.head _)))))))), rfl⟩)
    have hT := Lib.laidMet.reads hP (n := "internal/strconv.uint64pow10") (d := Lib.tabData .u64 Lib.pow10Tab) (List.mem_filter.2 ⟨.tail _ (.tail _ (.head _)), rfl⟩)
    obtain ⟨m, hE⟩ := env_of hSh hT
    have hX := numErrs_of (Lib.laidMet.reads hP (n := "strconv.ErrSyntax") (d := .iface "*errors.errorString" (.ptr (.agg [.lit (.string [105, 110, 118, 97, 108, 105, 100, 32, 115, 121, 110, 116, 97, 120])]))) (List.mem_filter.2 ⟨.tail _ (.tail _ (.tail _ (.tail _ (.tail _ (.tail _ (.head _)))))), rfl⟩)) (Lib.laidMet.reads hP (n := "strconv.ErrRange") (d := .iface "*errors.errorString" (.ptr (.agg [.lit (.string [118, 97, 108, 117, 101, 32, 111, 117, 116, 32, 111, 102, 32, 114, 97, 110, 103, 101])]))) (List.mem_filter.2 ⟨.tail _ (.tail _ (.tail _ (.tail _ (.tail _ (.head _))))), rfl⟩))
    have hval : ∀ (j : Nat) t v, Tryz.f3.params[j]? = some t → args[j]? = some v → Value.okWide Tryz.prog W .any base t v := hval0
    rw [Tryz.params3] at hA hval
    obtain ⟨v0, vs0, d0, ds0, p0, q0, hargs, rfl, rfl, h0, r0⟩ := trodAll_cons hA
    obtain ⟨v1, vs1, d1, ds1, p1, q1, rfl, rfl, rfl, h1, r1⟩ := trodAll_cons r0
    obtain ⟨rfl, rfl, rfl⟩ := trodAll_nil r1
    obtain rfl : args = #[v0, v1] := by cases args; simp_all
    have hs0 : Sz Tryz.prog 22 d0 := sz_arg hsz (j := 0) rfl rfl
    obtain ⟨A0, c0, ws0, rfl, l0, m0, s0⟩ := strs_of Tryz.underlying22 Tryz.underlying9 (by kernel_rfl) (by kernel_rfl) (hval 0 _ v0 rfl rfl) h0 hs0
    obtain ⟨x1, y1, rfl, wx1, wy1⟩ := pair_of Tryz.underlying24 Tryz.underlying23 (by kernel_rfl) (by kernel_rfl) (hval 1 _ v1 rfl rfl) h1
    exact heads_raw ws0 A0 c0 x1 y1 m W l0 m0 wx1 wy1 s0 hE hX hH

theorem dimacsHeaders_said : Rows.DimacsHeadersSaid :=
  OpenClaim.holds_of_cond 3 Tryz.f3 rfl rfl rfl rfl rfl rfl rfl ⟨rfl, rfl, rfl, rfl, rfl⟩ rfl rfl rfl rfl rfl (by kernel_rfl) Tryz.func3 (by kernel_rfl)
    (of_decide_eq_true (by kernel_rfl)) (by unfold Func.isWrapper; first | (rw [if_pos (by decide +kernel)]; kernel_rfl) | (rw [if_neg (by decide +kernel)]; exact ⟨rfl, rfl⟩))
    (fun os started H enc _ F => by rw [OpenClaim.pre_eq_preRow]; exact dimacsHeaders_row os started H enc F)

theorem dimacsHeaders_plain_at (f : FuncId) (fn : Func) (hf : Tryz.pinned.checked.prog.funcNamed "bradawl/bradawllaw03.DimacsHeaders" = some f) (hfn : Tryz.pinned.checked.prog.funcs[f]? = some fn) :
    true = Tryz.pinned.checked.prog.looks [] ∧ ∀ (j : Nat) t, fn.params[j]? = some t → Tryz.pinned.checked.prog.wantsStandIn t = false := by
  obtain rfl : f = 3 := Option.some.inj ((show Tryz.prog.funcNamed "bradawl/bradawllaw03.DimacsHeaders" = some 3 by kernel_rfl).symm.trans hf) |>.symm
  obtain rfl : fn = Tryz.f3 := (Option.some.inj (Tryz.func3.symm.trans hfn)).symm
  refine ⟨by kernel_rfl, fun j t ht => ?_⟩
  rw [Tryz.params3] at ht
  have hm : t ∈ [22, 24] := by simpa using Array.mem_of_getElem? ht
  have hall : ([22, 24].all fun u => !Tryz.prog.wantsStandIn u) = true := by kernel_rfl
  exact (show Tryz.prog.wantsStandIn t = false by simpa using List.all_eq_true.1 hall t hm)

theorem dimacsHeaders_card : Rows.DimacsHeadersCardSaid :=
  Claim7.holds_tied_plain_at .later [] _ _ _ _ dimacsHeaders_said (fun _ h => by cases h) (by kernel_rfl) (fun _ h => by cases h) dimacsHeaders_row_tie rfl ⟨rfl, rfl⟩ (by kernel_rfl) rfl dimacsHeaders_plain_at (by kernel_rfl)
end Go.Proofs.YtnjcegjcaaplgaaGreatDoor
