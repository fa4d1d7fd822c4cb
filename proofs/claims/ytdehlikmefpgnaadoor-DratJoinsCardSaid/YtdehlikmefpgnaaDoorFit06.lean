/- The anchor of the sixth layer's statements. -/
import Derived.Test.YtdehlikmefpgnaaDoorLaw06b
namespace Go.Proofs.YtdehlikmefpgnaaDoor
open Go.RowKit
set_option linter.unusedSimpArgs false
set_option linter.unusedVariables false
set_option linter.unnecessarySimpa false

theorem bin_self {ps : List Stp} {r : Option (List Stp)} {k : Int} (hr : stpsRight ps = true) (h : BinIs (binOf ps) (r, k)) : r = some ps ∧ k = 0 := by
  rcases h with ⟨qs, h1, h2⟩ | ⟨h1, _⟩ | h1
  · exact ⟨by rw [binOf_inj h1 hr h2], rfl⟩
  · exact absurd rfl (h1 ps hr)
  · exact absurd (List.append_nil (binOf ps)).symm (h1 ps [] hr)
theorem txt_self {ps : List Stp} {r : Option (List Stp)} {k : Int} (hr : stpsRight ps = true) (h : TxtIs (txtOf ps) (r, k)) : r = some ps ∧ k = 0 := by
  rcases h with ⟨qs, h1, h2⟩ | h1
  · exact ⟨by rw [txtOf_inj h1 hr h2], rfl⟩
  · exact absurd rfl (h1 ps hr)

theorem own_cap {w : World} {base e n c : Nat} {A : Option Addr} {xs : List Value} (h : w.ownsRow base e 1 (.slice A n c) n xs) : n ≤ c := by
  obtain ⟨A', c', e1, h2, _⟩ := own_slice h
  injection e1 with _ _ e2
  omega
/-- a step that has just been laid -/
theorem ints_of_blk {w : World} {g B t : Nat} {xs : List Int} {cs : Array Value} (h : Blk w g t cs) (hg : g < B) (hc : ∀ j, j < xs.length → cs[j]? = some (.int .i64 (xs.getD j 0))) : Ints w B (some ⟨g, 0, none⟩) xs := fun _ =>
  ⟨g, 0, rfl, hg, fun j hj => by rw [Nat.zero_add, h.cell]; exact hc j hj⟩
theorem steps_of_blk {w : World} {g B t c : Nat} {d : Bool} {A : Option Addr} {xs : List Int} (h : Blk w g t #[.bool d, .slice A xs.length c]) (hg : g < B) (hi : Ints w B A xs) : Steps w B (some ⟨g, 0, none⟩) [(d, xs)] := fun _ => by
  refine ⟨g, 0, rfl, hg, fun j hj => ?_⟩
  obtain rfl : j = 0 := by simp at hj; omega
  exact ⟨A, c, h.cell 0, h.cell 1, hi⟩

abbrev fp : List Stp := [(true, [63, -8193])]
theorem fp_right : stpsRight fp = true := by decide
theorem fp_bin : binOf fp = [100, 126, 131, 128, 1, 0] := by
  have h1 : nb 126 = [126] := nb_low (by decide)
  have h2 : nb 16387 = [131, 128, 1] := by rw [nb_high (by decide), nb_high (by decide), nb_low (by decide)]; decide
  show 100 :: ((nb (litNum 63).toNat ++ (nb (litNum (-8193)).toNat ++ [])) ++ [0]) ++ [] = _
  rw [show (litNum 63).toNat = 126 by decide, show (litNum (-8193)).toNat = 16387 by decide, h1, h2]
  rfl
theorem fp_txt : txtOf fp = [100, 32, 54, 51, 32, 45, 56, 49, 57, 51, 32, 48, 10] := by
  have h1 : Lib.itoa 63 = [54, 51] := by
    rw [show (63 : Int) = ((63 : Nat) : Int) from rfl, Lib.itoa_nonneg, Lib.decDigits_two (by decide) (by decide)]; decide
  have h2 : Lib.itoa (-8193) = [45, 56, 49, 57, 51] := by
    rw [show (-8193 : Int) = -((8193 : Nat) : Int) from rfl, Lib.itoa_neg 8193 (by decide), Lib.decDigits, dif_neg (by decide), Lib.decDigits, dif_neg (by decide), Lib.decDigits_two (by decide) (by decide)]; decide
  show ([100, 32] ++ ((Lib.itoa 63 ++ [32]) ++ ((Lib.itoa (-8193) ++ [32]) ++ []) ++ [48]) ++ [10]) ++ [] = _
  rw [h1, h2]
  rfl
theorem fp_wide : WideSteps fp := ⟨by decide, fun k => by
  match k with
  | 0 => exact ⟨by decide, fun j => by match j with | 0 => decide | 1 => decide | j + 2 => simp [List.getD]⟩
  | k + 1 => exact ⟨by simp [List.getD], fun j => by simp [List.getD]⟩⟩
theorem fp_lens : ∀ j, (fp.getD j stp0).2.length ≤ 1099511627776 := fun j => (fp_wide.2 j).1

set_option maxRecDepth 100000 in
set_option maxHeartbeats 4000000 in
theorem fit06_any (m : Int) (w : World) (hE : EnvN m w) :
    Calls Tryd.prog 10 #[] w fun e w' => e = .returned (.bool true) ∧ Below w.heap.size w w' := by
  have HE := Lib.hid hE
  obtain ⟨w2, hw2⟩ : ∃ w2, w2 = (w.alloc (.cells #[.int .i64 63, .int .i64 (-8193)] 3)).alloc (.cells #[.bool true, .slice (some ⟨w.heap.size, 0, none⟩) 2 2] 42) := ⟨_, rfl⟩
  have hb2 : Below w.heap.size w w2 := by rw [hw2]; exact ((Below.refl _ _).alloc (Nat.le_refl _) _).alloc (by simp) _
  have hs2 : w2.heap.size = w.heap.size + 2 := by rw [hw2]; simp
  have hi : Ints w2 (w.heap.size + 2) (some ⟨w.heap.size, 0, none⟩) [63, -8193] := by
    have hbk : Blk w2 w.heap.size 3 #[.int .i64 63, .int .i64 (-8193)] := by rw [hw2]; exact (Blk.new w _ _).alloc _
    exact ints_of_blk hbk (by omega) (fun j hj => by match j, hj with | 0, _ => rfl | 1, _ => rfl)
  have hst : Steps w2 (w.heap.size + 2) (some ⟨w.heap.size + 1, 0, none⟩) fp := by
    have hbk : Blk w2 (w.heap.size + 1) 42 #[.bool true, .slice (some ⟨w.heap.size, 0, none⟩) 2 2] := by
      have := Blk.new (w.alloc (.cells #[.int .i64 63, .int .i64 (-8193)] 3)) 42 #[.bool true, .slice (some ⟨w.heap.size, 0, none⟩) 2 2]
      rw [hw2]; simpa using this
    exact steps_of_blk hbk (by omega) hi
  have BI := Lib.hid (binary_any fp (w.heap.size + 2) 1 (some ⟨w.heap.size + 1, 0, none⟩) w2 hst (by omega) fp_right (by decide) (by rw [fp_bin]; decide))
  have HST := Lib.hid hst
  have HB2 := Lib.hid hb2
  clear hE hb2 hi hst
  rw [hw2] at BI
  go_enter Tryd.func10, Tryd.ntmps10
  go_wp2_with fail
  refine BI.out.mono ?_
  rw [← hw2]
  rintro e w3 ⟨A3, c3, rfl, hown3, hb3⟩
  rw [fp_bin] at hown3 ⊢
  have hby3 := bytes_of_own hown3
  have hc3 : ([100, 126, 131, 128, 1, 0] : List UInt8).length ≤ c3 := own_cap hown3
  have PB := Lib.hid (parseBinary_any _ w3.heap.size c3 A3 w3 hby3 (Nat.le_refl _) hc3 (by decide))
  have HB3 := Lib.hid hb3
  have HBY3 := Lib.hid hby3
  have HS2 := Lib.hid hs2
  clear hown3 hby3 hb3 hw2 hs2 BI
  go_wp2_with fail
  refine PB.out.mono ?_
  rintro e w4 ⟨hb4, hcase⟩
  have hq : ∃ (A : Option Addr) (c : Nat), e = .returned (.tuple #[.slice A fp.length c, .int .i64 0]) ∧ Steps w4 w4.heap.size A fp := by
    rcases hcase with ⟨ps, A, c, rfl, h1, h2⟩ | ⟨k, rfl, h1, h2⟩
    · rw [← fp_bin] at h1
      obtain ⟨h3, _⟩ := bin_self fp_right h1
      injection h3 with h3
      subst h3
      exact ⟨A, c, rfl, h2.steps⟩
    · rw [← fp_bin] at h1
      exact absurd (bin_self fp_right h1).2 h2
  obtain ⟨A4, c4, rfl, hst4⟩ := hq
  have HB4 := Lib.hid hb4
  have HST4 := Lib.hid hst4
  have HB04 := Lib.hid ((HB2.out.trans (HB3.out.mono (by have := HS2.out; omega))).trans (hb4.mono (by have := HB2.out.size; have := HB3.out.size; omega)))
  have PT := Lib.hid (parseText_any [100, 32, 54, 51, 32, 45, 56, 49, 57, 51, 32, 48, 10] m w4 (by decide) (HE.out.same HB04.out))
  clear hb4 hst4 hcase PB
  go_wp2_with fail
  refine PT.out.mono ?_
  rintro e w5 ⟨hb5, hcase⟩
  have hq : ∃ (A : Option Addr) (c : Nat), e = .returned (.tuple #[.slice A fp.length c, .int .i64 0]) ∧ Steps w5 w5.heap.size A fp := by
    rcases hcase with ⟨ps, A, c, rfl, h1, h2⟩ | ⟨rfl, h1⟩
    · rw [← fp_txt] at h1
      obtain ⟨h3, _⟩ := txt_self fp_right h1
      injection h3 with h3
      subst h3
      exact ⟨A, c, rfl, h2.steps⟩
    · rw [← fp_txt] at h1
      have := (txt_self fp_right h1).1
      cases this
  obtain ⟨A5, c5, rfl, hst5⟩ := hq
  have hs5 := hb5.size
  have hst45 : Steps w5 w5.heap.size A4 fp := (HST4.out.below hb5).more hs5
  have hst25 : Steps w5 w5.heap.size (some ⟨w.heap.size + 1, 0, none⟩) fp := by
    have h3 := HST.out.below (HB3.out.mono (show w.heap.size + 2 ≤ w2.heap.size by have := HS2.out; omega))
    have h4 := h3.below (HB4.out.mono (by have := HB3.out.size; have := HS2.out; omega))
    have h5 := h4.below (hb5.mono (by have := HB3.out.size; have := HB4.out.size; have := HS2.out; omega))
    exact h5.more (by have := HB3.out.size; have := HB4.out.size; have := HS2.out; omega)
  have hby5 : Bytes w5 w3.heap.size A3 [100, 126, 131, 128, 1, 0] := Cells.below (Cells.below HBY3.out HB4.out) (hb5.mono HB4.out.size)
  have kc := run_bytes_string hby5 c3
  rw [show ([100, 126, 131, 128, 1, 0] : List UInt8).length = 6 from rfl] at kc
  have S1 := Lib.hid (same6_any fp fp w5.heap.size 1 c4 (some ⟨w.heap.size + 1, 0, none⟩) A4 w5 hst25 hst45 (by decide) (by decide) fp_lens fp_lens)
  have S2 := Lib.hid (fun n => same6_any fp fp w5.heap.size 1 c5 (some ⟨w.heap.size + 1, 0, none⟩) A5 (w5.drewN n) hst25 hst5 (by decide) (by decide) fp_lens fp_lens)
  have RP := Lib.hid (fun n => rightProof_any fp w5.heap.size 1 (some ⟨w.heap.size + 1, 0, none⟩) (w5.drewN n) hst25 (Nat.le_refl _) fp_wide)
  rw [decide_eq_true (rfl : fp = fp)] at S1 S2
  rw [fp_right] at RP
  have HB05 := Lib.hid (HB04.out.trans (hb5.mono HB04.out.size))
  clear hb5 hst5 hst45 hst25 hby5 hcase PT
  go_wp2_with fail
  refine S1.out.mono ?_
  rintro e w6 ⟨rfl, n1, rfl⟩
  go_wp2_with fail
  refine (S2.out n1).mono ?_
  rintro e w7 ⟨rfl, n2, rfl⟩
  rw [World.drewN_drewN]
  go_wp2_with fail
  refine (RP.out (n1 + n2)).mono ?_
  rintro e w8 ⟨rfl, hb8⟩
  have HB8 := Lib.hid (HB05.out.trans ((below_drewN (Below.refl w5.heap.size w5) (n1 + n2)).trans hb8 |>.mono HB05.out.size))
  clear hb8
  go_wp2
  go_ret
  exact ⟨rfl, HB8.out⟩
end Go.Proofs.YtdehlikmefpgnaaDoor
