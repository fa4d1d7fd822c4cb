/- The clauses of a store that have a literal are told in their order, each in normal form, and each the caller's own: of every input, under the row's own conditions, where the library's listed tables read as the program's text lays them. -/
import Derived.Test.YtlkgicaajenhaaaDoorWith7Law
import Derived.Test.YtlkgicaajenhaaaDoorDoor7
import Derived.Test.YtlkgicaajenhaaaDoorCards
import Derived.Test.YtlkgicaajenhaaaDoorTie
import Derived.SevenTiedAt
import Derived.ChangeMaps5
namespace Go.Proofs.YtlkgicaajenhaaaDoor
open Go.ChangeShapes Go.WideShapes Go.ChangeAt Go.RowKit
open Go.Joins
set_option linter.unusedVariables false

noncomputable def rupWith_world (os : Os) : World := World.laidAll Tryd.prog os Rows.rupWithRow.laid

set_option maxRecDepth 100000 in
theorem rupWith_row (os : Os) (started : os.Started) (H : Type) (enc : TypeId × Value → H) (F : Stop.Interp) :
    ReturnsInHanded {} Tryd.checked os 6 .any ((OpenSpec.ofChange Rows.rupWithSpec).preRow enc Tryd.prog Tryd.f6 Rows.rupWithRow.domain false Rows.rupWithRow.laid) (((OpenSpec.ofChange Rows.rupWithSpec).at F).post enc Tryd.prog Tryd.f6 false true false false) := by
  obtain ⟨x, hx⟩ := Option.isSome_iff_exists.1 (show (DataW.whole enc Tryd.prog ((rupWith_world os).forCall (fun _ _ => 0) ⟨#[], #[.agg #[.int .u8 0, .slice none 0 0], .int .i16 0, .int .u8 0], []⟩).memory Tryd.f6.params.toList Rows.rupWithSpec.vars false #[.agg #[.int .u8 0, .slice none 0 0], .int .i16 0, .int .u8 0].toList 8).isSome = true by kernel_rfl)
  refine returnsInHanded_of_row (C := Tryd.checked) (s := OpenSpec.ofChange Rows.rupWithSpec) own started (by kernel_rfl) Tryd.func6
    (witness_row_shaped (enc := enc) (C := Tryd.checked) false (rupWith_world os) #[.agg #[.int .u8 0, .slice none 0 0], .int .i16 0, .int .u8 0] (World.laidAll_os _ _ _) (World.shaped_of_ZipB (by kernel_rfl) (by kernel_rfl)) (by kernel_rfl)
      (OpenSpec.preRow_of_cond 8 hx rfl (fun k hk => by cases hk) (by kernel_rfl) (by rw [MakeChecks.laidMetH_plain _ _ _ (by kernel_rfl)]; exact laidMet_laidAll _ (by kernel_rfl) (by kernel_rfl)))) ?_
  intro W base args ds gs before hval0 hW _ _ hsz hL hSh _
  refine law_contract (s := Rows.rupWithSpec) (fn := Tryd.f6) laidOut (by kernel_rfl) (by kernel_rfl) (Tryd.underlying4) rfl ?_ hW ?_
  · intro ds h
    match ds, h with
    | [_, _, _], _ => rfl
  · intro p hA
    rw [MakeChecks.laidMetH_plain _ _ _ (by kernel_rfl)] at hL
    have hP := hL
    have hT := Lib.laidMet.reads hP (n := "internal/strconv.uint64pow10") (d := Lib.tabData .u64 Lib.pow10Tab) (.tail _ (.tail _ (.head _)))
    obtain ⟨m, hE⟩ := env_of hSh hT
    have hval : ∀ (j : Nat) t v, Tryd.f6.params[j]? = some t → args[j]? = some v → Value.okWide Tryd.prog W .any base t v := hval0
    rw [Tryd.params6] at hA hval
    obtain ⟨v0, vs0, d0, ds0, p0, q0, hargs, rfl, rfl, h0, r0⟩ := trodAll_cons hA
    obtain ⟨v1, vs1, d1, ds1, p1, q1, rfl, rfl, rfl, h1, r1⟩ := trodAll_cons r0
    obtain ⟨v2, vs2, d2, ds2, p2, q2, rfl, rfl, rfl, h2, r2⟩ := trodAll_cons r1
    obtain ⟨rfl, rfl, rfl⟩ := trodAll_nil r2
    obtain rfl : args = #[v0, v1, v2] := by cases args; simp_all
    have hs0 : Sz Tryd.prog 24 d0 := sz_arg hsz (j := 0) rfl rfl
    obtain ⟨x0, y0, zx0, zy0, n0, rfl, rfl, _, hx0, hy0⟩ := open_agg2 Tryd.underlying24 (by kernel_rfl) (by kernel_rfl) (hval 0 _ v0 rfl rfl) h0
    obtain ⟨u0, e0, _, wu0⟩ := DataW.trod_int Tryd.underlying5 hx0
    simp at e0
    subst e0
    obtain ⟨A0, c0, nss0, rfl, l0, m0, wn0, w0⟩ := krows_of Tryd.underlying22 Tryd.underlying25 Tryd.underlying51 (by kernel_rfl) (by kernel_rfl) (by kernel_rfl) (by kernel_rfl) hy0 (sz_agg2 hs0 Tryd.underlying24).2
    obtain ⟨a1, rfl, rfl, rfl, w1⟩ := open_int Tryd.underlying51 (hval 1 _ v1 rfl rfl) h1
    obtain ⟨a2, rfl, rfl, rfl, w2⟩ := open_int Tryd.underlying5 (hval 2 _ v2 rfl rfl) h2
    exact with_raw u0 nss0 A0 c0 a1 a2 W wu0 l0 m0 wn0 w0 w1 w2 hE.2

theorem rupWith_said : Rows.RupWithSaid :=
  OpenClaim.holds_of_cond 6 Tryd.f6 rfl rfl rfl rfl rfl rfl rfl ⟨rfl, rfl, rfl, rfl, rfl⟩ rfl rfl rfl rfl rfl (by kernel_rfl) Tryd.func6 (by kernel_rfl)
    (of_decide_eq_true (by kernel_rfl)) (by unfold Func.isWrapper; first | (rw [if_pos (by decide +kernel)]; kernel_rfl) | (rw [if_neg (by decide +kernel)]; exact ⟨rfl, rfl⟩))
    (fun os started H enc _ F => by rw [OpenClaim.pre_eq_preRow]; exact rupWith_row os started H enc F)

theorem rupWith_plain_at (f : FuncId) (fn : Func) (hf : Tryd.pinned.checked.prog.funcNamed "bradawl/bradawllaw07.RupWith" = some f) (hfn : Tryd.pinned.checked.prog.funcs[f]? = some fn) :
    false = Tryd.pinned.checked.prog.looks [] ∧ ∀ (j : Nat) t, fn.params[j]? = some t → Tryd.pinned.checked.prog.wantsStandIn t = false := by
  obtain rfl : f = 6 := Option.some.inj ((show Tryd.prog.funcNamed "bradawl/bradawllaw07.RupWith" = some 6 by kernel_rfl).symm.trans hf) |>.symm
  obtain rfl : fn = Tryd.f6 := (Option.some.inj (Tryd.func6.symm.trans hfn)).symm
  refine ⟨by kernel_rfl, fun j t ht => ?_⟩
  rw [Tryd.params6] at ht
  have hm : t ∈ [24, 51, 5] := by simpa using Array.mem_of_getElem? ht
  have hall : ([24, 51, 5].all fun u => !Tryd.prog.wantsStandIn u) = true := by kernel_rfl
  exact (show Tryd.prog.wantsStandIn t = false by simpa using List.all_eq_true.1 hall t hm)

theorem rupWith_card : Rows.RupWithCardSaid :=
  Claim7.holds_tied_plain_at .later [] _ _ _ _ rupWith_said (fun _ h => by cases h) (by kernel_rfl) (fun _ h => by cases h) rupWith_row_tie rfl ⟨rfl, rfl⟩ (by kernel_rfl) rfl rupWith_plain_at (by kernel_rfl)
end Go.Proofs.YtlkgicaajenhaaaDoor
