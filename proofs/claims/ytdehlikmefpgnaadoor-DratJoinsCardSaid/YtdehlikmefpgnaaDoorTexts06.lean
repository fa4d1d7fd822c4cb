/- Any text is a proof just if it is its text; others are refused. -/
import Derived.Test.YtdehlikmefpgnaaDoorFit06
namespace Go.Proofs.YtdehlikmefpgnaaDoor
open Go.RowKit
set_option linter.unusedSimpArgs false
set_option linter.unusedVariables false
set_option linter.unnecessarySimpa false

theorem getD_out {xs : List Int} {j : Nat} (h : xs.length ≤ j) : xs.getD j 0 = 0 := by rw [List.getD, List.getElem?_eq_none h]; rfl
theorem wide_of_right {ps : List Stp} (h : stpsRight ps = true) (hl : ps.length ≤ 1099511627776) (hx : ∀ j, (ps.getD j stp0).2.length ≤ 1099511627776) : WideSteps ps := by
  refine ⟨hl, fun k => ⟨hx k, fun j => ?_⟩⟩
  by_cases hj : j < (ps.getD k stp0).2.length
  · by_cases hk : k < ps.length
    · have := isLit_iff.1 (right_getD h k j hk hj)
      omega
    · rw [show ps.getD k stp0 = stp0 by rw [List.getD, List.getElem?_eq_none (by omega)]; rfl] at hj
      exact absurd hj (Nat.not_lt_zero j)
  · rw [getD_out (by omega)]; omega

set_option maxRecDepth 100000 in
set_option maxHeartbeats 4000000 in
theorem texts6_any (s : List UInt8) (m : Int) (w : World) (hE : EnvN m w) (hs : s.length ≤ 9223372036854775807) :
    Calls Tryd.prog 4 #[.string ⟨s.toArray⟩] w fun e w' => e = .returned (.bool true) ∧ Below w.heap.size w w' := by
  have FT := Lib.hid (fit06_any m w hE)
  have HE := Lib.hid hE
  have hsz : (⟨s.toArray⟩ : ByteArray).size = s.length := by show s.toArray.size = _; simp
  clear hE
  go_enter Tryd.func4, Tryd.ntmps4
  go_wp2_with fail
  refine FT.out.mono ?_
  rintro e w1 ⟨rfl, hb1⟩
  have HB1 := Lib.hid hb1
  have HE1 := Lib.hid (HE.out.same hb1)
  have hs1 := hb1.size
  clear FT hb1
  by_cases hlong : 2000 < s.length
  · go_wp2
    go_ret
    exact ⟨rfl, HB1.out⟩
  · have PT := Lib.hid (parseText_any s m w1 (by omega) HE1.out)
    go_wp2_with fail
    refine PT.out.mono ?_
    rintro e w2 ⟨hb2, hcase⟩
    have HB2 := Lib.hid (HB1.out.trans (hb2.mono hs1))
    have HE2 := Lib.hid (HE1.out.same hb2)
    have hs2 := hb2.size
    clear hb2 PT
    rcases hcase with ⟨ps, A, c, rfl, h1, h2⟩ | ⟨rfl, h1⟩
    · rcases h1 with ⟨_, hr, ht⟩
      have hst := h2.steps
      have htl : (txtOf ps).length ≤ 2000 := by rw [ht]; omega
      have hpl : ps.length ≤ 2000 := by have := (txt_lens (ps := ps)).1; omega
      have hwd := wide_of_right hr (by omega) (fun j => by have := (txt_lens (ps := ps)).2 j; omega)
      have RI := Lib.hid (right6_any ps w2.heap.size c A w2 hst (Nat.le_refl _) hwd)
      have TX := Lib.hid (fun w3 (hb3 : Below w2.heap.size w2 w3) => text6_any ps m w2.heap.size c A w3 (hst.below hb3) hb3.size hr (HE2.out.same hb3) (by omega))
      rw [hr] at RI
      rw [ht] at TX
      clear hr ht hst hwd h2
      go_wp2_with fail
      refine RI.out.mono ?_
      rintro e w3 ⟨rfl, hb3⟩
      have HB3 := Lib.hid (HB2.out.trans (hb3.mono HB2.out.size))
      have TX3 := Lib.hid (TX.out w3 hb3)
      clear hb3 RI TX
      go_wp2_with fail
      refine TX3.out.mono ?_
      rintro e w4 ⟨rfl, hb4⟩
      have HB4 := Lib.hid (HB3.out.trans (hb4.mono HB3.out.size))
      clear hb4 TX3
      go_wp2
      go_ret
      exact ⟨by simp, HB4.out⟩
    · go_wp2
      go_ret
      exact ⟨rfl, HB2.out⟩
theorem texts6_str (b : ByteArray) (m : Int) (w : World) (hE : EnvN m w) (hs : b.size ≤ maxLen) :
    Calls Tryd.prog 4 #[.string b] w fun e w' => e = .returned (.bool true) ∧ Below w.heap.size w w' := by
  obtain ⟨⟨s⟩⟩ := b
  refine texts6_any s m w hE ?_
  have h1 : (⟨⟨s⟩⟩ : ByteArray).size = s.length := rfl
  unfold maxLen at hs
  omega
end Go.Proofs.YtdehlikmefpgnaaDoor
