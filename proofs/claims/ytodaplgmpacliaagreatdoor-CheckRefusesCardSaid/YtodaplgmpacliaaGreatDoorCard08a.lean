/- A proof with a literal that is none of the formula's is refused, as are texts and bytes that are none: of every input, under the row's own conditions, where the library's listed variables read as the program's text lays them. -/
import Derived.Test.YtodaplgmpacliaaGreatDoorRefusesAll8
import Derived.Test.YtodaplgmpacliaaGreatDoorDoor8
import Derived.Test.YtodaplgmpacliaaGreatDoorCards
import Derived.Test.YtodaplgmpacliaaGreatDoorTie
import Derived.SevenTiedAt
import Derived.ChangeMaps5
namespace Go.Proofs.YtodaplgmpacliaaGreatDoor
open Go.ChangeShapes Go.WideShapes Go.ChangeAt Go.RowKit
open Go.Joins
set_option linter.unusedVariables false

noncomputable def checkRefuses_world (os : Os) : World := World.laidAll Tryz.prog os Rows.checkRefusesRow.laid

set_option maxRecDepth 100000 in
theorem checkRefuses_row (os : Os) (started : os.Started) (H : Type) (enc : TypeId × Value → H) (F : Stop.Interp) :
    ReturnsInHanded {} Tryz.checked os 6 .any ((OpenSpec.ofChange Rows.checkRefusesSpec).preRow enc Tryz.prog Tryz.f6 Rows.checkRefusesRow.domain false Rows.checkRefusesRow.laid) (((OpenSpec.ofChange Rows.checkRefusesSpec).at F).post enc Tryz.prog Tryz.f6 false true false false) := by
  obtain ⟨x, hx⟩ := Option.isSome_iff_exists.1 (show (DataW.whole enc Tryz.prog ((checkRefuses_world os).forCall (fun _ _ => 0) ⟨#[], #[.agg #[.int .u8 0, .slice none 0 0], .slice none 0 0, .slice none 0 0], []⟩).memory Tryz.f6.params.toList Rows.checkRefusesSpec.vars false #[.agg #[.int .u8 0, .slice none 0 0], .slice none 0 0, .slice none 0 0].toList 8).isSome = true by kernel_rfl)
  refine returnsInHanded_of_row (C := Tryz.checked) (s := OpenSpec.ofChange Rows.checkRefusesSpec) own started (by kernel_rfl) Tryz.func6
    (witness_row_shaped (enc := enc) (C := Tryz.checked) false (checkRefuses_world os) #[.agg #[.int .u8 0, .slice none 0 0], .slice none 0 0, .slice none 0 0] (World.laidAll_os _ _ _) (World.shaped_of_ZipB (by kernel_rfl) (by kernel_rfl)) (by kernel_rfl)
      (OpenSpec.preRow_of_cond 8 hx rfl (fun k hk => by cases hk) (by kernel_rfl) (by rw [MakeChecks.laidMetH_plain _ _ _ (by kernel_rfl)]; exact laidMet_laidAll _ (by kernel_rfl) (by kernel_rfl)))) ?_
  intro W base args ds gs before hval0 hW _ _ hsz hL hSh _
  refine law_contract (s := Rows.checkRefusesSpec) (fn := Tryz.f6) laidOut (by kernel_rfl) (by kernel_rfl) (Tryz.underlying4) rfl ?_ hW ?_
  · intro ds h
    match ds, h with
    | [_, _, _], _ => rfl
  · intro p hA
    rw [MakeChecks.laidMetH_plain _ _ _ (by kernel_rfl)] at hL
    have hP := hL
    have hT := Lib.laidMet.reads hP (n := "internal/strconv.uint64pow10") (d := Lib.tabData .u64 Lib.pow10Tab) (.tail _ (.tail _ (.head _)))
    obtain ⟨m, hE⟩ := env_of hSh hT
    have hX := numErrs_of (Lib.laidMet.reads hP (n := "strconv.ErrSyntax") (d := .iface "*errors.errorString" (.ptr (.agg [.lit (.string [105, 110, 118, 97, 108, 105, 100, 32, 115, 121, 110, 116, 97, 120])]))) (.tail _ (.tail _ (.tail _ (.tail _ (.head _)))))) (Lib.laidMet.reads hP (n := "strconv.ErrRange") (d := .iface "*errors.errorString" (.ptr (.agg [.lit (.string [118, 97, 108, 117, 101, 32, 111, 117, 116, 32, 111, 102, 32, 114, 97, 110, 103, 101])]))) (.tail _ (.tail _ (.tail _ (.head _)))))
    have hval : ∀ (j : Nat) t v, Tryz.f6.params[j]? = some t → args[j]? = some v → Value.okWide Tryz.prog W .any base t v := hval0
    rw [Tryz.params6] at hA hval
    obtain ⟨v0, vs0, d0, ds0, p0, q0, hargs, rfl, rfl, h0, r0⟩ := trodAll_cons hA
    obtain ⟨v1, vs1, d1, ds1, p1, q1, rfl, rfl, rfl, h1, r1⟩ := trodAll_cons r0
    obtain ⟨v2, vs2, d2, ds2, p2, q2, rfl, rfl, rfl, h2, r2⟩ := trodAll_cons r1
    obtain ⟨rfl, rfl, rfl⟩ := trodAll_nil r2
    obtain rfl : args = #[v0, v1, v2] := by cases args; simp_all
    have hs0 : Sz Tryz.prog 24 d0 := sz_arg hsz (j := 0) rfl rfl
    obtain ⟨x0, y0, zx0, zy0, n0, rfl, rfl, _, hx0, hy0⟩ := open_agg2 Tryz.underlying24 (by kernel_rfl) (by kernel_rfl) (hval 0 _ v0 rfl rfl) h0
    obtain ⟨u0, e0, _, wu0⟩ := DataW.trod_int Tryz.underlying5 hx0
    simp at e0
    subst e0
    obtain ⟨A0, c0, nss0, rfl, l0, m0, wn0, w0⟩ := krows_of Tryz.underlying22 Tryz.underlying52 Tryz.underlying70 (by kernel_rfl) (by kernel_rfl) (by kernel_rfl) (by kernel_rfl) hy0 (sz_agg2 hs0 Tryz.underlying24).2
    obtain ⟨A1, c1, gs1, rfl, l1, wn1, w1⟩ := kints_of Tryz.underlying55 Tryz.underlying3 (by kernel_rfl) (hval 1 _ v1 rfl rfl) h1
    obtain ⟨A2, c2, gs2, rfl, lc2, l2, wn2, w2⟩ := kints_cap Tryz.underlying47 Tryz.underlying5 (by kernel_rfl) (hval 2 _ v2 rfl rfl) h2
    exact refuses_raw u0 nss0 A0 c0 gs1 A1 c1 gs2 A2 c2 m W wu0 l0 m0 wn0 w0 w1 l1 wn1 w2 wn2 lc2 l2 (tab7_of hT) ⟨hE, hX⟩

theorem checkRefuses_said : Rows.CheckRefusesSaid :=
  OpenClaim.holds_of_cond 6 Tryz.f6 rfl rfl rfl rfl rfl rfl rfl ⟨rfl, rfl, rfl, rfl, rfl⟩ rfl rfl rfl rfl rfl (by kernel_rfl) Tryz.func6 (by kernel_rfl)
    (of_decide_eq_true (by kernel_rfl)) (by unfold Func.isWrapper; first | (rw [if_pos (by decide +kernel)]; kernel_rfl) | (rw [if_neg (by decide +kernel)]; exact ⟨rfl, rfl⟩))
    (fun os started H enc _ F => by rw [OpenClaim.pre_eq_preRow]; exact checkRefuses_row os started H enc F)

theorem checkRefuses_plain_at (f : FuncId) (fn : Func) (hf : Tryz.pinned.checked.prog.funcNamed "bradawl/bradawllaw08.CheckRefuses" = some f) (hfn : Tryz.pinned.checked.prog.funcs[f]? = some fn) :
    true = Tryz.pinned.checked.prog.looks [] ∧ ∀ (j : Nat) t, fn.params[j]? = some t → Tryz.pinned.checked.prog.wantsStandIn t = false := by
  obtain rfl : f = 6 := Option.some.inj ((show Tryz.prog.funcNamed "bradawl/bradawllaw08.CheckRefuses" = some 6 by kernel_rfl).symm.trans hf) |>.symm
  obtain rfl : fn = Tryz.f6 := (Option.some.inj (Tryz.func6.symm.trans hfn)).symm
  refine ⟨by kernel_rfl, fun j t ht => ?_⟩
  rw [Tryz.params6] at ht
  have hm : t ∈ [24, 55, 47] := by simpa using Array.mem_of_getElem? ht
  have hall : ([24, 55, 47].all fun u => !Tryz.prog.wantsStandIn u) = true := by kernel_rfl
  exact (show Tryz.prog.wantsStandIn t = false by simpa using List.all_eq_true.1 hall t hm)

theorem checkRefuses_card : Rows.CheckRefusesCardSaid :=
  Claim7.holds_tied_plain_at .later [] _ _ _ _ checkRefuses_said (fun _ h => by cases h) (by kernel_rfl) (fun _ h => by cases h) checkRefuses_row_tie rfl ⟨rfl, rfl⟩ (by kernel_rfl) rfl checkRefuses_plain_at (by kernel_rfl)
end Go.Proofs.YtodaplgmpacliaaGreatDoor
