/- A text that lacks some at its end is no longer that formula, but for blanks: of every input, under the row's own conditions, where the library's listed variables read as the program's text lays them. -/
import Derived.Test.YtomjkfglbdonlaaGreatDoorCuts03
import Derived.Test.YtomjkfglbdonlaaGreatDoorHandle
import Derived.Test.YtomjkfglbdonlaaGreatDoorNumDoor
import Derived.Test.YtomjkfglbdonlaaGreatDoorDoor
import Derived.Test.YtomjkfglbdonlaaGreatDoorCards
import Derived.Test.YtomjkfglbdonlaaGreatDoorTie
import Derived.SevenTiedAt
namespace Go.Proofs.YtomjkfglbdonlaaGreatDoor
open Go.ChangeShapes Go.WideShapes Go.ChangeAt Go.RowKit
open Go.Joins
set_option linter.unusedVariables false

/-- a world in which all that the row lists lies -/
noncomputable def dimacsCuts_holding (os : Os) : World := { World.holding Tryz.prog os ⟨#[], #[], []⟩ with heap := (World.holding Tryz.prog os ⟨#[], #[], []⟩).heap.modify 0 fun
      | .cells _ t frozen => .cells #[.iface 93 (.agg #[.pointer (some ⟨9, 30, none⟩)])] t frozen
      | o => o }
noncomputable def dimacsCuts_plain : List (String × DataW Unit) := Rows.dimacsCutsRow.laid.filter fun x => x.2.handleName?.isNone
noncomputable def dimacsCuts_world (os : Os) : World := (dimacsCuts_holding os).layVars Tryz.prog dimacsCuts_plain

set_option maxRecDepth 100000 in
theorem dimacsCuts_row (os : Os) (started : os.Started) (H : Type) (enc : TypeId × Value → H) (F : Stop.Interp) :
    ReturnsInHanded {} Tryz.checked os 4 .any ((OpenSpec.ofChange Rows.dimacsCutsSpec).preRow enc Tryz.prog Tryz.f4 Rows.dimacsCutsRow.domain false Rows.dimacsCutsRow.laid) (((OpenSpec.ofChange Rows.dimacsCutsSpec).at F).post enc Tryz.prog Tryz.f4 false true false false) := by
  obtain ⟨x, hx⟩ := Option.isSome_iff_exists.1 (show (DataW.whole enc Tryz.prog ((dimacsCuts_world os).forCall (fun _ _ => 0) ⟨#[], #[.agg #[.int .u8 0, .slice none 0 0], .int .i64 0], []⟩).memory Tryz.f4.params.toList Rows.dimacsCutsSpec.vars false #[.agg #[.int .u8 0, .slice none 0 0], .int .i64 0].toList 8).isSome = true by kernel_rfl)
  refine returnsInHanded_of_row (C := Tryz.checked) (s := OpenSpec.ofChange Rows.dimacsCutsSpec) own started (by kernel_rfl) Tryz.func4
    (witness_row_shaped (enc := enc) (C := Tryz.checked) false (dimacsCuts_world os) #[.agg #[.int .u8 0, .slice none 0 0], .int .i64 0] rfl (World.shaped_of_ZipB (by kernel_rfl) (by kernel_rfl)) (by kernel_rfl)
      (OpenSpec.preRow_of_cond 8 hx rfl (fun k hk => by cases hk) (by kernel_rfl) (laidMetH_of_parts (laidMet_over (w0 := dimacsCuts_holding os) (laid := dimacsCuts_plain) _ (by kernel_rfl) (by kernel_rfl)) (by kernel_rfl)))) ?_
  intro W base args ds gs before hval0 hW _ _ hsz hL hSh _
  refine law_contract (s := Rows.dimacsCutsSpec) (fn := Tryz.f4) laidOut (by kernel_rfl) (by kernel_rfl) (Tryz.underlying4) rfl ?_ hW ?_
  · intro ds h
    match ds, h with
    | [_, _], _ => rfl
  · intro p hA
    have hL2 := laidH_parts hL (x := ("errors.errorType", DataW.iface "internal/reflectlite.rtype" (.agg [.ptr (.lit (.string [101, 114, 114, 111, 114]))]))) (List.mem_filter.2 ⟨(by first | exact .head _ | exact .tail _ (.head _) | exact .tail _ (.tail _ (.head _)) | exact .tail _ (.tail _ (.tail _ (.head _))) | exact .tail _ (.tail _ (.tail _ (.tail _ (.head _)))) | exact .tail _ (.tail _ (.tail _ (.tail _ (.tail _ (.head _))))) | exact .tail _ (.tail _ (.tail _ (.tail _ (.tail _ (.tail _ (.head _)))))) | exact .tail _ (.tail _ (.tail _ (.tail _ (.tail _ (.tail _ (.tail _ (.head _)))))))), rfl⟩)
    have hP := hL2.1
    have hH := handle_cell hL2.2 (List.mem_filter.2 ⟨(by first | exact .head _ | exact .tail _ (.head _) | exact .tail _ (.tail _ (.head _)) | exact .tail _ (.tail _ (.tail _ (.head _))) | exact .tail _ (.tail _ (.tail _ (.tail _ (.head _)))) | exact .tail _ (.tail _ (.tail _ (.tail _ (.tail _ (.head _))))) | exact .tail _ (.tail _ (.tail _ (.tail _ (.tail _ (.tail _ (.head _)))))) | exact .tail _ (.tail _ (.tail _ (.tail _ (.tail _ (.tail _ (.tail _ (.head _)))))))), rfl⟩)
    have hT := Lib.laidMet.reads hP (n := "internal/strconv.uint64pow10") (d := Lib.tabData .u64 Lib.pow10Tab) (List.mem_filter.2 ⟨.tail _ (.tail _ (.head _)), rfl⟩)
    obtain ⟨m, hE⟩ := env_of hSh hT
    have hX := numErrs_of (Lib.laidMet.reads hP (n := "strconv.ErrSyntax") (d := .iface "*errors.errorString" (.ptr (.agg [.lit (.string [105, 110, 118, 97, 108, 105, 100, 32, 115, 121, 110, 116, 97, 120])]))) (List.mem_filter.2 ⟨.tail _ (.tail _ (.tail _ (.tail _ (.tail _ (.tail _ (.head _)))))), rfl⟩)) (Lib.laidMet.reads hP (n := "strconv.ErrRange") (d := .iface "*errors.errorString" (.ptr (.agg [.lit (.string [118, 97, 108, 117, 101, 32, 111, 117, 116, 32, 111, 102, 32, 114, 97, 110, 103, 101])]))) (List.mem_filter.2 ⟨.tail _ (.tail _ (.tail _ (.tail _ (.tail _ (.head _))))), rfl⟩))
    have hval : ∀ (j : Nat) t v, Tryz.f4.params[j]? = some t → args[j]? = some v → Value.okWide Tryz.prog W .any base t v := hval0
    rw [Tryz.params4] at hA hval
    obtain ⟨v0, vs0, d0, ds0, p0, q0, hargs, rfl, rfl, h0, r0⟩ := trodAll_cons hA
    obtain ⟨v1, vs1, d1, ds1, p1, q1, rfl, rfl, rfl, h1, r1⟩ := trodAll_cons r0
    obtain ⟨rfl, rfl, rfl⟩ := trodAll_nil r1
    obtain rfl : args = #[v0, v1] := by cases args; simp_all
    have hs0 : Sz Tryz.prog 46 d0 := sz_arg hsz (j := 0) rfl rfl
    obtain ⟨x0, y0, zx0, zy0, n0, rfl, rfl, _, hx0, hy0⟩ := open_agg2 Tryz.underlying46 (by kernel_rfl) (by kernel_rfl) (hval 0 _ v0 rfl rfl) h0
    obtain ⟨u0, e0, _, wu0⟩ := DataW.trod_int Tryz.underlying5 hx0
    simp at e0
    subst e0
    obtain ⟨A0, c0, nss0, rfl, l0, m0, wn0, w0⟩ := krows_of Tryz.underlying44 Tryz.underlying79 Tryz.underlying80 (by kernel_rfl) (by kernel_rfl) (by kernel_rfl) (by kernel_rfl) hy0 (sz_agg2 hs0 Tryz.underlying46).2
    obtain ⟨a1, rfl, rfl, rfl, w1⟩ := open_int Tryz.underlying3 (hval 1 _ v1 rfl rfl) h1
    exact cuts_raw u0 nss0 A0 c0 a1 m W wu0 l0 m0 wn0 w0 hE hX hH

theorem dimacsCuts_said : Rows.DimacsCutsSaid :=
  OpenClaim.holds_of_cond 4 Tryz.f4 rfl rfl rfl rfl rfl rfl rfl ⟨rfl, rfl, rfl, rfl, rfl⟩ rfl rfl rfl rfl rfl (by kernel_rfl) Tryz.func4 (by kernel_rfl)
    (of_decide_eq_true (by kernel_rfl)) (by unfold Func.isWrapper; first | (rw [if_pos (by decide +kernel)]; kernel_rfl) | (rw [if_neg (by decide +kernel)]; exact ⟨rfl, rfl⟩))
    (fun os started H enc _ F => by rw [OpenClaim.pre_eq_preRow]; exact dimacsCuts_row os started H enc F)

theorem dimacsCuts_plain_at (f : FuncId) (fn : Func) (hf : Tryz.pinned.checked.prog.funcNamed "bradawl/bradawllaw03.DimacsCuts" = some f) (hfn : Tryz.pinned.checked.prog.funcs[f]? = some fn) :
    true = Tryz.pinned.checked.prog.looks [] ∧ ∀ (j : Nat) t, fn.params[j]? = some t → Tryz.pinned.checked.prog.wantsStandIn t = false := by
  obtain rfl : f = 4 := Option.some.inj ((show Tryz.prog.funcNamed "bradawl/bradawllaw03.DimacsCuts" = some 4 by kernel_rfl).symm.trans hf) |>.symm
  obtain rfl : fn = Tryz.f4 := (Option.some.inj (Tryz.func4.symm.trans hfn)).symm
  refine ⟨by kernel_rfl, fun j t ht => ?_⟩
  rw [Tryz.params4] at ht
  have hm : t ∈ [46, 3] := by simpa using Array.mem_of_getElem? ht
  have hall : ([46, 3].all fun u => !Tryz.prog.wantsStandIn u) = true := by kernel_rfl
  exact (show Tryz.prog.wantsStandIn t = false by simpa using List.all_eq_true.1 hall t hm)

theorem dimacsCuts_card : Rows.DimacsCutsCardSaid :=
  Claim7.holds_tied_plain_at .later [] _ _ _ _ dimacsCuts_said (fun _ h => by cases h) (by kernel_rfl) (fun _ h => by cases h) dimacsCuts_row_tie rfl ⟨rfl, rfl⟩ (by kernel_rfl) rfl dimacsCuts_plain_at (by kernel_rfl)
end Go.Proofs.YtomjkfglbdonlaaGreatDoor
