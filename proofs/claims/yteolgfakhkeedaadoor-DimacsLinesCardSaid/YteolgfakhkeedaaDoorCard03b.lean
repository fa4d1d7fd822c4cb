/- A wrong word is told with the line in which it stands: of every input, under the row's own conditions, where the library's listed variables read as the program's text lays them. -/
import Derived.Test.YteolgfakhkeedaaDoorLines03
import Derived.Test.YteolgfakhkeedaaDoorHandle
import Derived.Test.YteolgfakhkeedaaDoorDoor
import Derived.Test.YteolgfakhkeedaaDoorCards
import Derived.Test.YteolgfakhkeedaaDoorTie
import Derived.SevenTiedAt
namespace Go.Proofs.YteolgfakhkeedaaDoor
open Go.ChangeShapes Go.WideShapes Go.ChangeAt Go.RowKit
open Go.Joins
set_option linter.unusedVariables false

/-- a world in which all that the row lists lies -/
noncomputable def dimacsLines_holding (os : Os) : World := { World.holding Tryd.prog os ⟨#[], #[], []⟩ with heap := (World.holding Tryd.prog os ⟨#[], #[], []⟩).heap.modify 0 fun
      | .cells _ t frozen => .cells #[.iface 89 (.agg #[.pointer (some ⟨7, 33, none⟩)])] t frozen
      | o => o }
noncomputable def dimacsLines_plain : List (String × DataW Unit) := Rows.dimacsLinesRow.laid.filter fun x => x.2.handleName?.isNone
noncomputable def dimacsLines_world (os : Os) : World := (dimacsLines_holding os).layVars Tryd.prog dimacsLines_plain

set_option maxRecDepth 100000 in
theorem dimacsLines_row (os : Os) (started : os.Started) (H : Type) (enc : TypeId × Value → H) (F : Stop.Interp) :
    ReturnsInHanded {} Tryd.checked os 5 .any ((OpenSpec.ofChange Rows.dimacsLinesSpec).preRow enc Tryd.prog Tryd.f5 Rows.dimacsLinesRow.domain false Rows.dimacsLinesRow.laid) (((OpenSpec.ofChange Rows.dimacsLinesSpec).at F).post enc Tryd.prog Tryd.f5 false true false false) := by
  obtain ⟨x, hx⟩ := Option.isSome_iff_exists.1 (show (DataW.whole enc Tryd.prog ((dimacsLines_world os).forCall (fun _ _ => 0) ⟨#[], #[.agg #[.int .u8 0, .slice none 0 0], .int .u8 0, .int .u8 0], []⟩).memory Tryd.f5.params.toList Rows.dimacsLinesSpec.vars false #[.agg #[.int .u8 0, .slice none 0 0], .int .u8 0, .int .u8 0].toList 8).isSome = true by kernel_rfl)
  refine returnsInHanded_of_row (C := Tryd.checked) (s := OpenSpec.ofChange Rows.dimacsLinesSpec) own started (by kernel_rfl) Tryd.func5
    (witness_row_shaped (enc := enc) (C := Tryd.checked) false (dimacsLines_world os) #[.agg #[.int .u8 0, .slice none 0 0], .int .u8 0, .int .u8 0] rfl (World.shaped_of_ZipB (by kernel_rfl) (by kernel_rfl)) (by kernel_rfl)
      (OpenSpec.preRow_of_cond 8 hx rfl (fun k hk => by cases hk) (by kernel_rfl) (laidMetH_of_parts (laidMet_over (w0 := dimacsLines_holding os) (laid := dimacsLines_plain) _ (by kernel_rfl) (by kernel_rfl)) (by kernel_rfl)))) ?_
  intro W base args ds gs before hval0 hW _ _ hsz hL hSh _
  refine law_contract (s := Rows.dimacsLinesSpec) (fn := Tryd.f5) laidOut (by kernel_rfl) (by kernel_rfl) (Tryd.underlying4) rfl ?_ hW ?_
  · intro ds h
    match ds, h with
    | [_, _, _], _ => rfl
  · intro p hA
    have hL2 := laidH_parts hL (x := ("errors.errorType", DataW.iface "internal/reflectlite.rtype" (.agg [.ptr (.lit (.string [101, 114, 114, 111, 114]))]))) (List.mem_filter.2 ⟨(by first | exact .head _ | exact .tail _ (.head _) | exact .tail _ (.tail _ (.head _)) | exact .tail _ (.tail _ (.tail _ (.head _))) | exact .tail _ (.tail _ (.tail _ (.tail _ (.head _)))) | exact .tail _ (.tail _ (.tail _ (.tail _ (.tail _ (.head _))))) | exact .tail _ (.tail _ (.tail _ (.tail _ (.tail _ (.tail _ (.head _)))))) | exact .tail _ (.tail _ (.tail _ (.tail _ (.tail _ (.tail _ (.tail _ (.head _)))))))), rfl⟩)
    have hP := hL2.1
    have hH := handle_cell hL2.2 (List.mem_filter.2 ⟨(by first | exact .head _ | exact .tail _ (.head _) | exact .tail _ (.tail _ (.head _)) | exact .tail _ (.tail _ (.tail _ (.head _))) | exact .tail _ (.tail _ (.tail _ (.tail _ (.head _)))) | exact .tail _ (.tail _ (.tail _ (.tail _ (.tail _ (.head _))))) | exact .tail _ (.tail _ (.tail _ (.tail _ (.tail _ (.tail _ (.head _)))))) | exact .tail _ (.tail _ (.tail _ (.tail _ (.tail _ (.tail _ (.tail _ (.head _)))))))), rfl⟩)
    have hT := Lib.laidMet.reads hP (n := "internal/strconv.uint64pow10") (d := Lib.tabData .u64 Lib.pow10Tab) (List.mem_filter.2 ⟨.tail _ (.tail _ (.head _)), rfl⟩)
    obtain ⟨m, hE⟩ := env_of hSh hT
    have hval : ∀ (j : Nat) t v, Tryd.f5.params[j]? = some t → args[j]? = some v → Value.okWide Tryd.prog W .any base t v := hval0
    rw [Tryd.params5] at hA hval
    obtain ⟨v0, vs0, d0, ds0, p0, q0, hargs, rfl, rfl, h0, r0⟩ := trodAll_cons hA
    obtain ⟨v1, vs1, d1, ds1, p1, q1, rfl, rfl, rfl, h1, r1⟩ := trodAll_cons r0
    obtain ⟨v2, vs2, d2, ds2, p2, q2, rfl, rfl, rfl, h2, r2⟩ := trodAll_cons r1
    obtain ⟨rfl, rfl, rfl⟩ := trodAll_nil r2
    obtain rfl : args = #[v0, v1, v2] := by cases args; simp_all
    have hs0 : Sz Tryd.prog 24 d0 := sz_arg hsz (j := 0) rfl rfl
    obtain ⟨x0, y0, zx0, zy0, n0, rfl, rfl, _, hx0, hy0⟩ := open_agg2 Tryd.underlying24 (by kernel_rfl) (by kernel_rfl) (hval 0 _ v0 rfl rfl) h0
    obtain ⟨u0, e0, _, wu0⟩ := DataW.trod_int Tryd.underlying5 hx0
    simp at e0
    subst e0
    obtain ⟨A0, c0, nss0, rfl, l0, m0, wn0, w0⟩ := krows_of Tryd.underlying22 Tryd.underlying53 Tryd.underlying54 (by kernel_rfl) (by kernel_rfl) (by kernel_rfl) (by kernel_rfl) hy0 (sz_agg2 hs0 Tryd.underlying24).2
    obtain ⟨a1, rfl, rfl, rfl, w1⟩ := open_int Tryd.underlying5 (hval 1 _ v1 rfl rfl) h1
    obtain ⟨a2, rfl, rfl, rfl, w2⟩ := open_int Tryd.underlying5 (hval 2 _ v2 rfl rfl) h2
    exact lines_raw u0 nss0 A0 c0 a1 a2 m W wu0 l0 m0 wn0 w0 w1 w2 hE hH

theorem dimacsLines_said : Rows.DimacsLinesSaid :=
  OpenClaim.holds_of_cond 5 Tryd.f5 rfl rfl rfl rfl rfl rfl rfl ⟨rfl, rfl, rfl, rfl, rfl⟩ rfl rfl rfl rfl rfl (by kernel_rfl) Tryd.func5 (by kernel_rfl)
    (of_decide_eq_true (by kernel_rfl)) (by unfold Func.isWrapper; first | (rw [if_pos (by decide +kernel)]; kernel_rfl) | (rw [if_neg (by decide +kernel)]; exact ⟨rfl, rfl⟩))
    (fun os started H enc _ F => by rw [OpenClaim.pre_eq_preRow]; exact dimacsLines_row os started H enc F)

theorem dimacsLines_plain_at (f : FuncId) (fn : Func) (hf : Tryd.pinned.checked.prog.funcNamed "bradawl/bradawllaw03.DimacsLines" = some f) (hfn : Tryd.pinned.checked.prog.funcs[f]? = some fn) :
    true = Tryd.pinned.checked.prog.looks [] ∧ ∀ (j : Nat) t, fn.params[j]? = some t → Tryd.pinned.checked.prog.wantsStandIn t = false := by
  obtain rfl : f = 5 := Option.some.inj ((show Tryd.prog.funcNamed "bradawl/bradawllaw03.DimacsLines" = some 5 by kernel_rfl).symm.trans hf) |>.symm
  obtain rfl : fn = Tryd.f5 := (Option.some.inj (Tryd.func5.symm.trans hfn)).symm
  refine ⟨by kernel_rfl, fun j t ht => ?_⟩
  rw [Tryd.params5] at ht
  have hm : t ∈ [24, 5, 5] := by simpa using Array.mem_of_getElem? ht
  have hall : ([24, 5, 5].all fun u => !Tryd.prog.wantsStandIn u) = true := by kernel_rfl
  exact (show Tryd.prog.wantsStandIn t = false by simpa using List.all_eq_true.1 hall t hm)

theorem dimacsLines_card : Rows.DimacsLinesCardSaid :=
  Claim7.holds_tied_plain_at .later [] _ _ _ _ dimacsLines_said (fun _ h => by cases h) (by kernel_rfl) (fun _ h => by cases h) dimacsLines_row_tie rfl ⟨rfl, rfl⟩ (by kernel_rfl) rfl dimacsLines_plain_at (by kernel_rfl)
end Go.Proofs.YteolgfakhkeedaaDoor
