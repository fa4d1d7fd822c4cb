/- A proof is one just if all its literals are literals. -/
import Derived.Test.YtdehlikmefpgnaaDoorFit06
namespace Go.Proofs.YtdehlikmefpgnaaDoor
open Go.RowKit
set_option linter.unusedSimpArgs false
set_option linter.unusedVariables false
set_option linter.unnecessarySimpa false

set_option maxRecDepth 100000 in
set_option maxHeartbeats 4000000 in
theorem rights6_any (xs : List Int) (d : Bool) (c : Nat) (A : Option Addr) (m : Int) (w : World) (hE : EnvN m w) (h : Ints w w.heap.size A xs) (hl : xs.length ≤ 9223372036854775807) (hx : ∀ k, -9223372036854775808 ≤ xs.getD k 0 ∧ xs.getD k 0 ≤ 9223372036854775807) :
    Calls Tryd.prog 7 #[.slice A xs.length c, .bool d] w fun e w' => e = .returned (.bool true) ∧ Below w.heap.size w w' := by
  have FT := Lib.hid (fit06_any m w hE)
  have H := Lib.hid h
  have HX := Lib.hid hx
  clear hE h hx
  go_enter Tryd.func7, Tryd.ntmps7
  go_wp2_with fail
  refine FT.out.mono ?_
  rintro e w1 ⟨rfl, hb1⟩
  have HB1 := Lib.hid hb1
  have hs1 := hb1.size
  clear FT
  by_cases hlong : 100 < xs.length
  · clear hb1
    go_wp2
    go_ret
    exact ⟨rfl, HB1.out⟩
  · obtain ⟨w2, hw2⟩ : ∃ w2, w2 = w1.alloc (.cells #[.bool d, .slice A xs.length c, .bool false, .slice none 0 0] 42) := ⟨_, rfl⟩
    have hbk : Blk w2 w1.heap.size 42 #[.bool d, .slice A xs.length c, .bool false, .slice none 0 0] := by rw [hw2]; exact Blk.new w1 _ _
    have hb2 : Below w1.heap.size w1 w2 := by rw [hw2]; exact (Below.refl _ _).alloc (Nat.le_refl _) _
    have hs2 : w2.heap.size = w1.heap.size + 1 := by rw [hw2]; simp
    have hi : Ints w2 w2.heap.size A xs := Cells.more (Cells.below (Cells.below H.out hb1) (hb2.mono hs1)) (by omega)
    have hst : Steps w2 w2.heap.size (some ⟨w1.heap.size, 0, none⟩) [(d, xs), (false, [])] := fun _ => by
      refine ⟨w1.heap.size, 0, rfl, by omega, fun j hj => ?_⟩
      have hj2 : j = 0 ∨ j = 1 := by simp at hj; omega
      rcases hj2 with rfl | rfl
      · exact ⟨A, c, hbk.cell 0, hbk.cell 1, hi⟩
      · exact ⟨none, 0, hbk.cell 2, hbk.cell 3, fun h => absurd h (by simp)⟩
    have hwd : WideSteps [(d, xs), (false, [])] := ⟨by simp, fun k => by
      rcases k with _ | _ | k
      · exact ⟨by simp [List.getD]; omega, HX.out⟩
      · exact ⟨by simp [List.getD], fun j => by simp [List.getD]⟩
      · exact ⟨by simp [List.getD], fun j => by simp [List.getD]⟩⟩
    have R1 := Lib.hid (rightProof_any [(d, xs), (false, [])] w2.heap.size 2 (some ⟨w1.heap.size, 0, none⟩) w2 hst (Nat.le_refl _) hwd)
    have R2 := Lib.hid (fun w3 (hb3 : Below w2.heap.size w2 w3) => right6_any [(d, xs), (false, [])] w2.heap.size 2 (some ⟨w1.heap.size, 0, none⟩) w3 (hst.below hb3) hb3.size hwd)
    have HB2 := Lib.hid (HB1.out.trans (hb2.mono hs1))
    have HS2 := Lib.hid hs2
    generalize stpsRight [(d, xs), (false, [])] = q at R1 R2
    clear hbk hb2 hs2 hi hst hwd hb1
    rw [hw2] at R1
    go_wp2_with fail
    refine R1.out.mono ?_
    rw [← hw2]
    rintro e w3 ⟨rfl, hb3⟩
    have HB3 := Lib.hid hb3
    clear hw2
    go_wp2_with fail
    refine (R2.out w3 hb3).mono ?_
    rintro e w4 ⟨rfl, hb4⟩
    have HB4 := Lib.hid (HB2.out.trans ((hb3.trans (hb4.mono hb3.size)).mono HB2.out.size))
    clear hb3 hb4
    go_wp2
    go_ret
    exact ⟨by simp, HB4.out⟩
end Go.Proofs.YtdehlikmefpgnaaDoor
