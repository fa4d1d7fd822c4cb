/- Two proofs' texts, and bytes, one behind the other are those of both: of every two lists of steps, under the row's own conditions, where the library's listed variables read as the program's text lays them. -/
import Derived.Test.YtdehlikmefpgnaaDoorJoins06
import Derived.Test.YtdehlikmefpgnaaDoorOpen06
import Derived.Test.YtdehlikmefpgnaaDoorDoor6
import Derived.Test.YtdehlikmefpgnaaDoorCards
import Derived.Test.YtdehlikmefpgnaaDoorTie
import Derived.SevenTiedAt
import Derived.ChangeMaps5
namespace Go.Proofs.YtdehlikmefpgnaaDoor
open Go.ChangeShapes Go.WideShapes Go.ChangeAt Go.RowKit
open Go.Joins
set_option linter.unusedVariables false

noncomputable def dratJoins_world (os : Os) : World := World.laidAll Tryd.prog os Rows.dratJoinsRow.laid

set_option maxRecDepth 100000 in
theorem dratJoins_row (os : Os) (started : os.Started) (H : Type) (enc : TypeId × Value → H) (F : Stop.Interp) :
    ReturnsInHanded {} Tryd.checked os 8 .any ((OpenSpec.ofChange Rows.dratJoinsSpec).preRow enc Tryd.prog Tryd.f8 Rows.dratJoinsRow.domain false Rows.dratJoinsRow.laid) (((OpenSpec.ofChange Rows.dratJoinsSpec).at F).post enc Tryd.prog Tryd.f8 false true false false) := by
  obtain ⟨x, hx⟩ := Option.isSome_iff_exists.1 (show (DataW.whole enc Tryd.prog ((dratJoins_world os).forCall (fun _ _ => 0) ⟨#[], #[.slice none 0 0, .slice none 0 0], []⟩).memory Tryd.f8.params.toList Rows.dratJoinsSpec.vars false #[.slice none 0 0, .slice none 0 0].toList 8).isSome = true by kernel_rfl)
  refine returnsInHanded_of_row (C := Tryd.checked) (s := OpenSpec.ofChange Rows.dratJoinsSpec) own started (by kernel_rfl) Tryd.func8
    (witness_row_shaped (enc := enc) (C := Tryd.checked) false (dratJoins_world os) #[.slice none 0 0, .slice none 0 0] (World.laidAll_os _ _ _) (World.shaped_of_ZipB (by kernel_rfl) (by kernel_rfl)) (by kernel_rfl)
      (OpenSpec.preRow_of_cond 8 hx rfl (fun k hk => by cases hk) (by kernel_rfl) (by rw [MakeChecks.laidMetH_plain _ _ _ (by kernel_rfl)]; exact laidMet_laidAll _ (by kernel_rfl) (by kernel_rfl)))) ?_
  intro W base args ds gs before hval0 hW _ _ hsz hL hSh _
  refine law_contract (s := Rows.dratJoinsSpec) (fn := Tryd.f8) laidOut (by kernel_rfl) (by kernel_rfl) (Tryd.underlying4) rfl ?_ hW ?_
  · intro ds h
    match ds, h with
    | [_, _], _ => rfl
  · intro p hA
    rw [MakeChecks.laidMetH_plain _ _ _ (by kernel_rfl)] at hL
    have hP := hL
    have hT := Lib.laidMet.reads hP (n := "internal/strconv.uint64pow10") (d := Lib.tabData .u64 Lib.pow10Tab) (.tail _ (.tail _ (.head _)))
    obtain ⟨m, hE⟩ := env_of hSh hT
    have hX := numErrs_of (Lib.laidMet.reads hP (n := "strconv.ErrSyntax") (d := .iface "*errors.errorString" (.ptr (.agg [.lit (.string [105, 110, 118, 97, 108, 105, 100, 32, 115, 121, 110, 116, 97, 120])]))) (.tail _ (.tail _ (.tail _ (.tail _ (.head _)))))) (Lib.laidMet.reads hP (n := "strconv.ErrRange") (d := .iface "*errors.errorString" (.ptr (.agg [.lit (.string [118, 97, 108, 117, 101, 32, 111, 117, 116, 32, 111, 102, 32, 114, 97, 110, 103, 101])]))) (.tail _ (.tail _ (.tail _ (.head _)))))
    have hval : ∀ (j : Nat) t v, Tryd.f8.params[j]? = some t → args[j]? = some v → Value.okWide Tryd.prog W .any base t v := hval0
    rw [Tryd.params8] at hA hval
    obtain ⟨v0, vs0, d0, ds0, p0, q0, hargs, rfl, rfl, h0, r0⟩ := trodAll_cons hA
    obtain ⟨v1, vs1, d1, ds1, p1, q1, rfl, rfl, rfl, h1, r1⟩ := trodAll_cons r0
    obtain ⟨rfl, rfl, rfl⟩ := trodAll_nil r1
    obtain rfl : args = #[v0, v1] := by cases args; simp_all
    have hs0 : Sz Tryd.prog 22 d0 := sz_arg hsz (j := 0) rfl rfl
    obtain ⟨A0, c0, xs0, rfl, l0, m0, wn0, w0⟩ := ksteps_of Tryd.underlying22 Tryd.underlying48 (by kernel_rfl) rfl rfl (by kernel_rfl) (by kernel_rfl) Tryd.underlying4 Tryd.underlying46 Tryd.underlying21 (by kernel_rfl) (by kernel_rfl) (by kernel_rfl) (hval 0 _ v0 rfl rfl) h0 hs0
    have hs1 : Sz Tryd.prog 22 d1 := sz_arg hsz (j := 1) rfl rfl
    obtain ⟨A1, c1, xs1, rfl, l1, m1, wn1, w1⟩ := ksteps_of Tryd.underlying22 Tryd.underlying48 (by kernel_rfl) rfl rfl (by kernel_rfl) (by kernel_rfl) Tryd.underlying4 Tryd.underlying46 Tryd.underlying21 (by kernel_rfl) (by kernel_rfl) (by kernel_rfl) (hval 1 _ v1 rfl rfl) h1 hs1
    exact joins6_any xs0 xs1 c0 c1 A0 A1 m W ⟨hE, hX⟩ w0 (by omega) (fun j => by have := m0 j; omega) (fun j i => bounds_i32 (wn0 j i)) w1 (by omega) (fun j => by have := m1 j; omega) (fun j i => bounds_i32 (wn1 j i))

theorem dratJoins_said : Rows.DratJoinsSaid :=
  OpenClaim.holds_of_cond 8 Tryd.f8 rfl rfl rfl rfl rfl rfl rfl ⟨rfl, rfl, rfl, rfl, rfl⟩ rfl rfl rfl rfl rfl (by kernel_rfl) Tryd.func8 (by kernel_rfl)
    (of_decide_eq_true (by kernel_rfl)) (by unfold Func.isWrapper; first | (rw [if_pos (by decide +kernel)]; kernel_rfl) | (rw [if_neg (by decide +kernel)]; exact ⟨rfl, rfl⟩))
    (fun os started H enc _ F => by rw [OpenClaim.pre_eq_preRow]; exact dratJoins_row os started H enc F)

theorem dratJoins_plain_at (f : FuncId) (fn : Func) (hf : Tryd.pinned.checked.prog.funcNamed "bradawl/bradawllaw06.DratJoins" = some f) (hfn : Tryd.pinned.checked.prog.funcs[f]? = some fn) :
    true = Tryd.pinned.checked.prog.looks [] ∧ ∀ (j : Nat) t, fn.params[j]? = some t → Tryd.pinned.checked.prog.wantsStandIn t = false := by
  obtain rfl : f = 8 := Option.some.inj ((show Tryd.prog.funcNamed "bradawl/bradawllaw06.DratJoins" = some 8 by kernel_rfl).symm.trans hf) |>.symm
  obtain rfl : fn = Tryd.f8 := (Option.some.inj (Tryd.func8.symm.trans hfn)).symm
  refine ⟨by kernel_rfl, fun j t ht => ?_⟩
  rw [Tryd.params8] at ht
  have hm : t ∈ [22, 22] := by simpa using Array.mem_of_getElem? ht
  have hall : ([22, 22].all fun u => !Tryd.prog.wantsStandIn u) = true := by kernel_rfl
  exact (show Tryd.prog.wantsStandIn t = false by simpa using List.all_eq_true.1 hall t hm)

theorem dratJoins_card : Rows.DratJoinsCardSaid :=
  Claim7.holds_tied_plain_at .later [] _ _ _ _ dratJoins_said (fun _ h => by cases h) (by kernel_rfl) (fun _ h => by cases h) dratJoins_row_tie rfl ⟨rfl, rfl⟩ (by kernel_rfl) rfl dratJoins_plain_at (by kernel_rfl)
end Go.Proofs.YtdehlikmefpgnaaDoor
