/- The text of a proof. -/
import Derived.Test.YtdehlikmefpgnaaDoorDrat10
namespace Go.Proofs.YtdehlikmefpgnaaDoor
open Go.RowKit
set_option linter.unusedSimpArgs false
set_option linter.unusedVariables false
set_option linter.unnecessarySimpa false

theorem txtOf_take {ps : List Stp} {k : Nat} (hk : k < ps.length) : txtOf (ps.take (k + 1)) = txtOf (ps.take k) ++ stpTxt (ps.getD k stp0) := by
  rw [List.take_succ_eq_append_getElem hk, txtOf_append]; simp [txtOf, List.getD, hk]
theorem wrds_take {c : List Int} {k : Nat} (hk : k < c.length) : wrds (c.take (k + 1)) = wrds (c.take k) ++ wrd (c.getD k 0) := by
  rw [List.take_succ_eq_append_getElem hk, wrds_append]; simp [wrds, List.getD, hk]
theorem txt_take_le (ps : List Stp) (k : Nat) : (txtOf (ps.take k)).length ≤ (txtOf ps).length := by
  conv => rhs; rw [← List.take_append_drop k ps, txtOf_append]
  simp
theorem wrds_take_le (c : List Int) (k : Nat) : (wrds (c.take k)).length ≤ (wrds c).length := by
  conv => rhs; rw [← List.take_append_drop k c, wrds_append]
  simp
theorem wrds_le {ps : List Stp} {k : Nat} (hk : k < ps.length) : (wrds (ps.getD k stp0).2).length ≤ (txtOf ps).length := by
  have h1 := txt_take_le ps (k + 1)
  rw [txtOf_take hk] at h1
  unfold stpTxt stpLine at h1
  simp at h1 ⊢
  omega
theorem txt_lens {ps : List Stp} : ps.length ≤ (txtOf ps).length ∧ ∀ j, (ps.getD j stp0).2.length ≤ (txtOf ps).length := by
  refine ⟨?_, fun j => ?_⟩
  · induction ps with
    | nil => simp
    | cons p ps ih => rw [txtOf_cons, List.length_append]; simp; omega
  · by_cases hj : j < ps.length
    · have := wrds_le hj
      have h2 := wrds_len (ps.getD j stp0).2
      omega
    · simp only [List.getD, List.getElem?_eq_none (Nat.le_of_not_lt hj), Option.getD_none]; exact Nat.zero_le _

set_option maxRecDepth 100000 in
set_option maxHeartbeats 4000000 in
theorem text_any (ps : List Stp) (m : Int) (B c : Nat) (A : Option Addr) (w : World) (h : Steps w B A ps) (hB : B ≤ w.heap.size) (hr : stpsRight ps = true) (hE : EnvN m w) (hlen : (txtOf ps).length ≤ 100000) :
    Calls Tryd.prog 13 #[.slice A ps.length c] w fun e w' => e = .returned (.string ⟨(txtOf ps).toArray⟩) ∧ Below w.heap.size w w' := by
  have H := Lib.hid h
  have HE := Lib.hid hE
  have HR := Lib.hid hr
  have hpl : ps.length ≤ 100000 := by have := (txt_lens (ps := ps)).1; omega
  have HL := Lib.hid (show ∀ j, (ps.getD j stp0).2.length ≤ 100000 from fun j => by have := (txt_lens (ps := ps)).2 j; omega)
  have HT := Lib.hid (show ∀ k, (txtOf (ps.take k)).length ≤ 100000 from fun k => by have := txt_take_le ps k; omega)
  have HW := Lib.hid (show ∀ k j, k < ps.length → (wrds ((ps.getD k stp0).2.take j)).length ≤ 100000 from fun k j hk => by
    have h1 := wrds_take_le (ps.getD k stp0).2 j
    have h2 := wrds_le hk
    omega)
  clear h hE hr hlen
  go_enter Tryd.func13, Tryd.ntmps13
  go_wp2
  obtain ⟨w1, hw1⟩ : ∃ w1, w1 = w.alloc (.cells #[.pointer none, .slice none 0 0] 51) := ⟨_, rfl⟩
  have hbel : Below w.heap.size w w1 := by rw [hw1]; exact (Below.refl _ _).alloc (Nat.le_refl _) _
  have hsz : w1.heap.size = w.heap.size + 1 := by rw [hw1]; simp
  have hbld : Bld w.heap.size w.heap.size [] w1 := by
    have := Lib.fresh_isBuilder 51 5 w
    rw [hw1]; unfold Bld Lib.byteCells; simpa using this
  try rw [← hw1]
  clear hw1
  have HBEL := Lib.hid hbel
  have HSZ := Lib.hid hsz
  have HBLD := Lib.hid hbld
  clear hbel hsz hbld
  go_loopg [10] (ps.length + 1) (fun gk i wr => ∃ k : Nat, k ≤ ps.length ∧ gk = ps.length - k + 1 ∧ i = .int .i64 k ∧ Bld w.heap.size w.heap.size (txtOf (ps.take k)) wr ∧ Below w.heap.size w wr ∧ w.heap.size < wr.heap.size)
  case atStart => exact ⟨0, by omega, by omega, rfl, by simpa [txtOf] using HBLD.out, HBEL.out, by have := HSZ.out; omega⟩
  case round =>
    obtain ⟨k, hk, rfl, rfl, hbl, hb, hlt9⟩ := hrel
    obtain ⟨wo, rfl⟩ : ∃ wo : World, wo = wr := ⟨_, rfl⟩
    have HBLk := Lib.hid hbl
    have HBk := Lib.hid hb
    clear hbl hb HBLD HBEL HSZ
    by_cases hlt : k < ps.length
    · obtain ⟨b, off, Ak, ck, rfl, hbB, hd, hcell, hint⟩ := (H.out.below (HBk.out.mono hB)).at_ hlt
      have hxl := HL.out k
      have htk := txtOf_take hlt
      have hlk := HT.out k
      have hwk := fun j => HW.out k j hlt
      have hrk := fun j hj => right_getD HR.out k j hlt hj
      obtain ⟨⟨d, ls⟩, hs⟩ : ∃ s, s = ps.getD k stp0 := ⟨_, rfl⟩
      rw [← hs] at hd hcell hint hxl htk hwk hrk
      clear hs
      simp only at hd hcell hint hxl hwk hrk
      have htk2 : txtOf (ps.take (k + 1)) = txtOf (ps.take k) ++ delTxt d ++ wrds ls ++ [48, 10] := by rw [htk]; simp [stpTxt, stpLine]
      generalize txtOf (ps.take k) = ta at HBLk htk2 hlk
      have HTK := Lib.hid htk2
      have HWK := Lib.hid hwk
      have HRK := Lib.hid hrk
      clear htk htk2 hwk hrk
      obtain ⟨w2, hw2⟩ : ∃ w2, w2 = wo.alloc (.cells #[.bool d, .slice Ak ls.length ck] 42) := ⟨_, rfl⟩
      have hbk2 : Blk w2 wo.heap.size 42 #[.bool d, .slice Ak ls.length ck] := by rw [hw2]; exact Blk.new wo _ _
      have hb2 : Below wo.heap.size wo w2 := by rw [hw2]; exact (Below.refl _ _).alloc (Nat.le_refl _) _
      have HB2 := Lib.hid hb2
      have HBL2 := Lib.hid (HBLk.out.below hb2 (Nat.le_refl _))
      have HBK2 := Lib.hid hbk2
      have HIN := Lib.hid (Cells.below hint (hb2.mono (by omega)))
      have HSW2 := Lib.hid hb2.size
      have HBQ := Lib.hid (hb2.mono (Nat.le_of_lt hlt9))
      clear hint hbk2 hb2 HBLk
      have hc0 := HBK2.out.cell 0
      have hc1 := HBK2.out.cell 1
      simp at hc0 hc1
      try rw [hw2] at hc0 hc1
      have hwo : w.heap.size < wo.heap.size := hlt9
      cases d with
      | true =>
        have WS := Lib.hid (writeString_any w.heap.size w.heap.size ta ⟨#[100, 32]⟩ w2 HBL2.out (by show ta.length + 2 ≤ _; omega) (by have := HSW2.out; omega))
        rw [hw2] at WS
        go_wp2_with fail
        refine WS.out.mono ?_
        rintro e w5 ⟨rfl, hbl5, hb5, ho5⟩
        rw [← hw2] at hb5 ho5
        have hbk5 := ho5 _ _ _ (by decide) (Nat.ne_of_gt hwo) HBK2.out
        have hd1 := hbk5.cell 1
        simp at hd1
        have HBL5 := Lib.hid (show Bld w.heap.size w.heap.size (ta ++ delTxt true) w5 from hbl5)
        have HB5 := Lib.hid ((HBk.out.trans (HB2.out.mono (by omega))).trans hb5)
        have hs5 : w.heap.size < w5.heap.size := by have := hb5.size; have := HSW2.out; omega
        clear hbl5 hb5 ho5 hbk5 hc0 hc1 WS HBL2 HB2 HBK2
        clear hw2
        go_wp2
        clear hd1
        go_loopg [20] (ls.length + 1) (fun gk i wr => ∃ j : Nat, j ≤ ls.length ∧ gk = ls.length - j + 1 ∧ i = .int .i64 j ∧ Bld w.heap.size w.heap.size ((ta ++ delTxt true) ++ wrds (ls.take j)) wr ∧ Below w.heap.size w wr ∧ w.heap.size < wr.heap.size)
        case atStart => exact ⟨0, by omega, by omega, rfl, by simpa [wrds] using HBL5.out, HB5.out, hs5⟩
        case round =>
          obtain ⟨j, hj, rfl, rfl, hbl, hbb, hsi⟩ := hrel
          obtain ⟨wi, rfl⟩ : ∃ wi : World, wi = wr := ⟨_, rfl⟩
          have HBLj := Lib.hid hbl
          have HBBj := Lib.hid hbb
          have hrj := HWK.out j
          have hdl : (delTxt true).length ≤ 2 := by decide
          clear hbl hbb
          by_cases hlj : j < ls.length
          · obtain ⟨b2, off2, rfl, hb2, hcj1⟩ := HIN.out.at_ hlj
            have hcj := (HBBj.out.cell (p := ⟨b2, off2 + j, none⟩) (by simp; omega)).trans ((HBk.out.cell (p := ⟨b2, off2 + j, none⟩) (by simp; omega)).symm.trans ((HBQ.out.cell (p := ⟨b2, off2 + j, none⟩) (by simp; omega)).symm.trans hcj1))
            have hlit := HRK.out j hlj
            have hlt1 := wrds_take hlj
            obtain ⟨l, hl⟩ : ∃ l, l = ls.getD j 0 := ⟨_, rfl⟩
            rw [← hl] at hcj hlt1 hlit
            rw [isLit_iff] at hlit
            have hi7 := itoa_len6 hlit.2.1 hlit.2.2
            have IT := Lib.hid (itoa_any l wi (by omega) (by omega) (HE.out.same HBBj.out).env.tab)
            unfold wrd at hlt1
            generalize Lib.itoa l = il at hlt1 hi7 IT
            have HLT1 := Lib.hid hlt1
            clear hl hlt1 hcj1 hlit
            go_wp2_with fail
            refine IT.out.mono ?_
            rintro e w6 ⟨rfl, hb6⟩
            have HB6 := Lib.hid (HBBj.out.trans (hb6.mono (by omega)))
            have HBL6 := Lib.hid (HBLj.out.below hb6 (Nat.le_refl _))
            have hs6 := hb6.size
            clear hb6 hcj
            have WS := Lib.hid (writeString_any w.heap.size w.heap.size _ ⟨il.toArray⟩ w6 HBL6.out (by
              have h10 : (⟨il.toArray⟩ : ByteArray).size = il.length := by show il.toArray.size = _; simp
              rw [h10]
              simp only [List.length_append]
              omega) (by omega))
            go_wp2_with fail
            refine WS.out.mono ?_
            rintro e w7 ⟨rfl, hbl7, hb7, _⟩
            have HB7 := Lib.hid (HB6.out.trans hb7)
            have HBL7 := Lib.hid hbl7
            have hs7 := hb7.size
            clear hbl7 hb7 WS
            have WB := Lib.hid (writeByte_any w.heap.size w.heap.size _ 32 w7 HBL7.out (by
              have h10 : (⟨il.toArray⟩ : ByteArray).data.toList.length = il.length := rfl
              simp only [List.length_append]
              rw [h10]
              omega) (by omega))
            rw [show ((32 : UInt8).toNat : Int) = 32 from rfl] at WB
            go_wp2_with fail
            refine WB.out.mono ?_
            rintro e w8 ⟨rfl, hbl8, hb8, _⟩
            have HB8 := Lib.hid (HB7.out.trans hb8)
            have HBL8 := Lib.hid hbl8
            have hs8 := hb8.size
            clear hbl8 hb8 WB
            go_wp2
            go_roundg (ls.length - j)
            case measure => omega
            case rel =>
              refine ⟨j + 1, by omega, by omega, by go_num, ?_, HB8.out, by omega⟩
              have h9 := HBL8.out
              rw [HLT1.out]
              simpa using h9
          · have htkj : ls.take j = ls := List.take_of_length_le (by omega)
            rw [htkj] at HBLj hrj
            have WS := Lib.hid (writeString_any w.heap.size w.heap.size _ ⟨#[48, 10]⟩ wi HBLj.out (by
              have h10 : (⟨#[48, 10]⟩ : ByteArray).size = 2 := rfl
              rw [h10]
              simp only [List.length_append]
              omega) (by omega))
            clear htkj hrj
            go_wp2_with fail
            refine WS.out.mono ?_
            rintro e w7 ⟨rfl, hbl7, hb7, _⟩
            have HB7 := Lib.hid (HBBj.out.trans hb7)
            have HBL7 := Lib.hid hbl7
            have hs7 := hb7.size
            clear hbl7 hb7 WS
            go_wp2
            go_roundg (ps.length - k)
            case measure => omega
            case rel =>
              refine ⟨k + 1, by omega, by omega, by go_num, ?_, HB7.out, by omega⟩
              have h9 := HBL7.out
              rw [HTK.out]
              simpa using h9
      | false =>
        have HBL5 := Lib.hid (show Bld w.heap.size w.heap.size (ta ++ delTxt false) w2 from by simpa [delTxt] using HBL2.out)
        have HB5 := Lib.hid (HBk.out.trans (HB2.out.mono (by omega)))
        have hs5 : w.heap.size < w2.heap.size := by have := HSW2.out; omega
        obtain ⟨w5, hw5⟩ : ∃ w5, w5 = w2 := ⟨_, rfl⟩
        rw [← hw5] at HBL5 HB5 hs5
        go_wp2
        rw [← hw2, ← hw5]
        clear hc0 hc1 hw2 hw5 HBL2 HB2 HBK2
        go_loopg [20] (ls.length + 1) (fun gk i wr => ∃ j : Nat, j ≤ ls.length ∧ gk = ls.length - j + 1 ∧ i = .int .i64 j ∧ Bld w.heap.size w.heap.size ((ta ++ delTxt false) ++ wrds (ls.take j)) wr ∧ Below w.heap.size w wr ∧ w.heap.size < wr.heap.size)
        case atStart => exact ⟨0, by omega, by omega, rfl, by simpa [wrds] using HBL5.out, HB5.out, hs5⟩
        case round =>
          obtain ⟨j, hj, rfl, rfl, hbl, hbb, hsi⟩ := hrel
          obtain ⟨wi, rfl⟩ : ∃ wi : World, wi = wr := ⟨_, rfl⟩
          have HBLj := Lib.hid hbl
          have HBBj := Lib.hid hbb
          have hrj := HWK.out j
          have hdl : (delTxt false).length ≤ 2 := by decide
          clear hbl hbb
          by_cases hlj : j < ls.length
          · obtain ⟨b2, off2, rfl, hb2, hcj1⟩ := HIN.out.at_ hlj
            have hcj := (HBBj.out.cell (p := ⟨b2, off2 + j, none⟩) (by simp; omega)).trans ((HBk.out.cell (p := ⟨b2, off2 + j, none⟩) (by simp; omega)).symm.trans ((HBQ.out.cell (p := ⟨b2, off2 + j, none⟩) (by simp; omega)).symm.trans hcj1))
            have hlit := HRK.out j hlj
            have hlt1 := wrds_take hlj
            obtain ⟨l, hl⟩ : ∃ l, l = ls.getD j 0 := ⟨_, rfl⟩
            rw [← hl] at hcj hlt1 hlit
            rw [isLit_iff] at hlit
            have hi7 := itoa_len6 hlit.2.1 hlit.2.2
            have IT := Lib.hid (itoa_any l wi (by omega) (by omega) (HE.out.same HBBj.out).env.tab)
            unfold wrd at hlt1
            generalize Lib.itoa l = il at hlt1 hi7 IT
            have HLT1 := Lib.hid hlt1
            clear hl hlt1 hcj1 hlit
            go_wp2_with fail
            refine IT.out.mono ?_
            rintro e w6 ⟨rfl, hb6⟩
            have HB6 := Lib.hid (HBBj.out.trans (hb6.mono (by omega)))
            have HBL6 := Lib.hid (HBLj.out.below hb6 (Nat.le_refl _))
            have hs6 := hb6.size
            clear hb6 hcj
            have WS := Lib.hid (writeString_any w.heap.size w.heap.size _ ⟨il.toArray⟩ w6 HBL6.out (by
              have h10 : (⟨il.toArray⟩ : ByteArray).size = il.length := by show il.toArray.size = _; simp
              rw [h10]
              simp only [List.length_append]
              omega) (by omega))
            go_wp2_with fail
            refine WS.out.mono ?_
            rintro e w7 ⟨rfl, hbl7, hb7, _⟩
            have HB7 := Lib.hid (HB6.out.trans hb7)
            have HBL7 := Lib.hid hbl7
            have hs7 := hb7.size
            clear hbl7 hb7 WS
            have WB := Lib.hid (writeByte_any w.heap.size w.heap.size _ 32 w7 HBL7.out (by
              have h10 : (⟨il.toArray⟩ : ByteArray).data.toList.length = il.length := rfl
              simp only [List.length_append]
              rw [h10]
              omega) (by omega))
            rw [show ((32 : UInt8).toNat : Int) = 32 from rfl] at WB
            go_wp2_with fail
            refine WB.out.mono ?_
            rintro e w8 ⟨rfl, hbl8, hb8, _⟩
            have HB8 := Lib.hid (HB7.out.trans hb8)
            have HBL8 := Lib.hid hbl8
            have hs8 := hb8.size
            clear hbl8 hb8 WB
            go_wp2
            go_roundg (ls.length - j)
            case measure => omega
            case rel =>
              refine ⟨j + 1, by omega, by omega, by go_num, ?_, HB8.out, by omega⟩
              have h9 := HBL8.out
              rw [HLT1.out]
              simpa using h9
          · have htkj : ls.take j = ls := List.take_of_length_le (by omega)
            rw [htkj] at HBLj hrj
            have WS := Lib.hid (writeString_any w.heap.size w.heap.size _ ⟨#[48, 10]⟩ wi HBLj.out (by
              have h10 : (⟨#[48, 10]⟩ : ByteArray).size = 2 := rfl
              rw [h10]
              simp only [List.length_append]
              omega) (by omega))
            clear htkj hrj
            go_wp2_with fail
            refine WS.out.mono ?_
            rintro e w7 ⟨rfl, hbl7, hb7, _⟩
            have HB7 := Lib.hid (HBBj.out.trans hb7)
            have HBL7 := Lib.hid hbl7
            have hs7 := hb7.size
            clear hbl7 hb7 WS
            go_wp2
            go_roundg (ps.length - k)
            case measure => omega
            case rel =>
              refine ⟨k + 1, by omega, by omega, by go_num, ?_, HB7.out, by omega⟩
              have h9 := HBL7.out
              rw [HTK.out]
              simpa using h9
    · have htk : ps.take k = ps := List.take_of_length_le (by omega)
      have HBL9 := HBLk.out
      rw [htk] at HBL9
      have BS := Lib.hid (bldString_any w.heap.size w.heap.size _ wo HBL9 (by omega))
      clear htk HBL9
      go_wp2_with fail
      refine BS.out.mono ?_
      rintro e w3 ⟨rfl, hb3⟩
      have HB3 := Lib.hid (HBk.out.trans hb3)
      clear hb3 BS
      go_wp2
      go_ret
      exact ⟨rfl, HB3.out⟩
end Go.Proofs.YtdehlikmefpgnaaDoor
