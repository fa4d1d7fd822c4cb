/- What the printer answers. -/
import Derived.Test.YtnjcegjcaaplgaaGreatDoorBuilder
import Derived.Test.YtnjcegjcaaplgaaGreatDoorPrintMath
import Derived.Deep.RegionHeld3
import Derived.Deep.CutBlock
import Derived.Deep.DeepCutAuto
namespace Go.Proofs.YtnjcegjcaaplgaaGreatDoor
open Go.RowKit
set_option linter.unusedSimpArgs false
set_option linter.unusedVariables false
set_option linter.unnecessarySimpa false

set_option maxRecDepth 100000 in
set_option maxHeartbeats 4000000 in
theorem print_any (V : Int) (cls : List (List Int)) (B : Nat) (A : Option Addr) (c : Nat) (w : World) (h : Rows w B A cls) (hB : B ≤ w.heap.size) (ht : Tab w) (hgt : 2 < w.heap.size)
    (hV0 : -9223372036854775808 ≤ V) (hV1 : V ≤ 9223372036854775807) (hcl : cls.length ≤ 1099511627776) (hlen : (formText V cls).length ≤ 1099511627776) (hxl : ∀ j, (cls.getD j []).length ≤ 1099511627776)
    (hb : ∀ j k, -9223372036854775808 ≤ (cls.getD j []).getD k 0 ∧ (cls.getD j []).getD k 0 ≤ 9223372036854775807) :
    Calls Tryz.prog 11 #[.agg #[.int .i64 V, .slice A cls.length c]] w fun e w' => e = .returned (.string ⟨(formText V cls).toArray⟩) ∧ Below w.heap.size w w' := by
  have H := Lib.hid h
  have HT := Lib.hid ht
  have HXL := Lib.hid hxl
  have HBD := Lib.hid hb
  have HL := Lib.hid hlen
  clear h ht hxl hb hlen
  go_enter Tryz.func11, Tryz.ntmps11
  go_wp2
  obtain ⟨w1, hw1⟩ : ∃ w1, w1 = (w.alloc (.cells #[.int .i64 V, .slice A cls.length c] 28)).alloc (.cells #[.pointer none, .slice none 0 0] 74) := ⟨_, rfl⟩
  have hbel : Below w.heap.size w w1 := by rw [hw1]; exact ((Below.refl _ _).alloc (Nat.le_refl _) _).alloc (by simp) _
  have hsz : w1.heap.size = w.heap.size + 2 := by rw [hw1]; simp
  have hbox : Blk w1 w.heap.size 28 #[.int .i64 V, .slice A cls.length c] := by rw [hw1]; exact (Blk.new w _ _).alloc _
  have hbld : Bld (w.heap.size + 1) (w.heap.size + 1) [] w1 := by
    have := Lib.fresh_isBuilder 74 5 (w.alloc (.cells #[.int .i64 V, .slice A cls.length c] 28))
    rw [hw1]; unfold Bld Lib.byteCells; simpa using this
  rw [← hw1]
  clear hw1
  have HBEL := Lib.hid hbel
  have HSZ := Lib.hid hsz
  have HBOX := Lib.hid hbox
  have HBLD := Lib.hid hbld
  have KE := Lib.hid (show ∀ w2, Below w1.heap.size w1 w2 → w2.cell? ⟨w.heap.size, 0, none⟩ = some (.int .i64 V) ∧ w2.cell? ⟨w.heap.size, 1, none⟩ = some (.slice A cls.length c) from
    fun w2 hb2 => ⟨(hbox.below hb2 (by have := hbox.lt; omega)).cell 0, (hbox.below hb2 (by have := hbox.lt; omega)).cell 1⟩)
  have TE := Lib.hid (show ∀ w2, Below w1.heap.size w1 w2 → Tab w2 from fun w2 hb2 => (HT.out.below hbel hgt).below hb2 (by omega))
  have KF := Lib.hid (show ∀ w2, Below (w.heap.size + 1) w1 w2 → w2.cell? ⟨w.heap.size, 0, none⟩ = some (.int .i64 V) ∧ w2.cell? ⟨w.heap.size, 1, none⟩ = some (.slice A cls.length c) from
    fun w2 hb2 => ⟨(hbox.below hb2 (by omega)).cell 0, (hbox.below hb2 (by omega)).cell 1⟩)
  have HSW := Lib.hid (show ∀ w2, Below w1.heap.size w1 w2 → w.heap.size + 1 ≤ w2.heap.size from fun w2 hb2 => by have := hb2.size; omega)
  have HS1 := Lib.hid (show w.heap.size + 1 ≤ w1.heap.size by omega)
  have hv21 := Lib.itoa_length_le V hV0 hV1
  have hc21 := Lib.itoa_length_le cls.length (by omega) (by omega)
  have hht : headText V cls.length = [112, 32, 99, 110, 102, 32] ++ Lib.itoa V ++ [32] ++ Lib.itoa cls.length ++ [10] := rfl
  have IV := fun w' hT => itoa_any V w' hV0 hV1 hT
  have IC := fun w' hT => itoa_any cls.length w' (by omega) (by omega) hT
  generalize Lib.itoa V = iv at hht hv21 IV
  generalize Lib.itoa cls.length = ic at hht hc21 IC
  obtain ⟨t1, ht1⟩ : ∃ t, t = [112, 32, 99, 110, 102, 32] ++ iv := ⟨_, rfl⟩
  rw [← ht1] at hht
  obtain ⟨t2, ht2⟩ : ∃ t, t = t1 ++ [32] := ⟨_, rfl⟩
  rw [← ht2] at hht
  obtain ⟨t3, ht3⟩ : ∃ t, t = t2 ++ ic := ⟨_, rfl⟩
  rw [← ht3] at hht
  obtain ⟨t4, ht4⟩ : ∃ t, t = t3 ++ [10] := ⟨_, rfl⟩
  rw [← ht4] at hht
  have l1 : t1.length = iv.length + 6 := by rw [ht1, List.length_append]; show 6 + _ = _; omega
  have l2 : t2.length = t1.length + 1 := by rw [ht2]; simp
  have l3 : t3.length = t2.length + ic.length := by rw [ht3]; simp
  have l4 : t4.length = t3.length + 1 := by rw [ht4]; simp
  have q1 : ∀ w, (Op.stringOp .add ⟨#[112, 32, 99, 110, 102, 32]⟩ ⟨iv.toArray⟩).run Tryz.prog w = .ok (.string ⟨t1.toArray⟩) w := fun w => by rw [ht1]; exact run_string_add_lists w [112, 32, 99, 110, 102, 32] iv (by decide) (by omega)
  have q2 : ∀ w, (Op.stringOp .add ⟨t1.toArray⟩ ⟨#[32]⟩).run Tryz.prog w = .ok (.string ⟨t2.toArray⟩) w := fun w => by rw [ht2]; exact run_string_add_lists w t1 [32] (by omega) (by decide)
  have q3 : ∀ w, (Op.stringOp .add ⟨t2.toArray⟩ ⟨ic.toArray⟩).run Tryz.prog w = .ok (.string ⟨t3.toArray⟩) w := fun w => by rw [ht3]; exact run_string_add_lists w t2 ic (by omega) (by omega)
  have q4 : ∀ w, (Op.stringOp .add ⟨t3.toArray⟩ ⟨#[10]⟩).run Tryz.prog w = .ok (.string ⟨t4.toArray⟩) w := fun w => by rw [ht4]; exact run_string_add_lists w t3 [10] (by omega) (by decide)
  have HLW := Lib.hid (show ([] : List UInt8).length + (⟨t4.toArray⟩ : ByteArray).size ≤ 140737488355328 from by
    show 0 + t4.toArray.size ≤ _
    simp; omega)
  have HHT := Lib.hid hht
  have HIV := Lib.hid IV
  have HIC := Lib.hid IC
  clear ht1 ht2 ht3 ht4 l1 l2 l3 l4 hht IV IC hv21 hc21
  obtain ⟨hc0, hc1⟩ := KE.out w1 (Below.refl _ _)
  clear hbel hsz hbox hbld
  go_cut [19] (fun _ w' => Bld (w.heap.size + 1) (w.heap.size + 1) (headText V cls.length) w' ∧ Below (w.heap.size + 1) w1 w')
  case first =>
    go_region_held3 (fun w' => w'.cell? ⟨w.heap.size, 0, none⟩ = some (.int .i64 V) ∧ w'.cell? ⟨w.heap.size, 1, none⟩ = some (.slice A cls.length c))
      (first | exact KK4.out | exact KK3.out | exact KK2.out | exact ⟨hc0, hc1⟩ | go_keep)
      (first
        | (go_at_call 6; refine (HIV.out w1.drew (TE.out w1.drew (Below.refl _ _).drew)).mono ?_; rintro e w2 ⟨rfl, hb2'⟩; have HB2 := Lib.hid (below_undrew hb2'); have KK2 := Lib.hid (KE.out w2 HB2.out); clear hb2')
        | (go_at_call 6; refine (HIC.out w2 (TE.out w2 HB2.out)).mono ?_; rintro e w3 ⟨rfl, hb3'⟩; have HB3 := Lib.hid (HB2.out.trans (hb3'.mono HB2.out.size)); have KK3 := Lib.hid (KE.out w3 HB3.out); clear hb3')
        | (go_at_call 25; refine (writeString_any (w.heap.size + 1) (w.heap.size + 1) [] ⟨t4.toArray⟩ w3 (HBLD.out.below HB3.out (Nat.le_refl _)) HLW.out (HSW.out w3 HB3.out)).mono ?_; rintro e w4 ⟨rfl, hb4, hb4'⟩; have HB4 := Lib.hid (And.intro hb4 ((HB3.out.mono HS1.out).trans hb4')); have KK4 := Lib.hid (KF.out w4 HB4.out.2); clear hb4 hb4'))
    go_wp2_with fail
    go_meet
    have h4 := HB4.out
    simp only [List.nil_append] at h4
    rw [HHT.out]
    exact h4
  case rest =>
    obtain ⟨hbl, hbb⟩ := hcut
    have HBL := Lib.hid hbl
    have HBB := Lib.hid hbb
    obtain ⟨k0, k1⟩ := KF.out wc hbb
    have hR1 := H.out.below (HBEL.out.mono hB)
    have HFL := Lib.hid (show (headText V cls.length).length + (clausesText cls).length ≤ 1099511627776 from by have := HL.out; unfold formText at this; simpa using this)
    clear hbl hbb q1 q2 q3 q4 hc0 hc1 HLW HHT HIV HIC TE KE
    go_wp2
    clear k0 k1
    have HR1 := Lib.hid hR1
    clear hR1
    have TE := Lib.hid (show ∀ w2, Below (w.heap.size + 1) w1 w2 → Tab w2 from fun w2 hb2 => (HT.out.below HBEL.out hgt).below hb2 (by omega))
    go_loopg [23] (cls.length + 1) (fun gk i wr => ∃ k : Nat, k ≤ cls.length ∧ gk = cls.length - k + 1 ∧ i = .int .i64 k ∧ Bld (w.heap.size + 1) (w.heap.size + 1) (headText V cls.length ++ clausesText (cls.take k)) wr ∧ Below (w.heap.size + 1) w1 wr)
    case atStart => exact ⟨0, by omega, by omega, rfl, by simpa [clausesText] using HBL.out, HBB.out⟩
    case round =>
      obtain ⟨k, hk, rfl, rfl, hbl, hbb⟩ := hrel
      obtain ⟨wo, rfl⟩ : ∃ wo : World, wo = wr := ⟨_, rfl⟩
      have HBLk := Lib.hid hbl
      have HBBk := Lib.hid hbb
      have hso := hbb.size
      clear hbl hbb HBL HBB
      by_cases hlt : k < cls.length
      · obtain ⟨b, off, Ak, ck, rfl, hbB, hck1, hik⟩ := HR1.out.at_ hlt
        have hck := (HBBk.out.cell (p := ⟨b, off + k, none⟩) (by simp; omega)).trans hck1
        clear hck1
        have hxk := HXL.out k
        have hbk := HBD.out k
        have hct := clausesText_take hlt
        have hroom := fun j => text_room (j := j) hlt
        obtain ⟨cs, hcs⟩ : ∃ cs, cs = cls.getD k [] := ⟨_, rfl⟩
        rw [← hcs] at hck hik hxk hbk hct
        simp only [← hcs] at hroom
        clear hcs
        have HCT := Lib.hid hct
        have HROOM := Lib.hid hroom
        have HIK := Lib.hid hik
        have HBK := Lib.hid hbk
        clear hct hroom hik hbk
        go_wp2
        clear hck
        go_loopg [29] (cs.length + 1) (fun gk i wr => ∃ j : Nat, j ≤ cs.length ∧ gk = cs.length - j + 1 ∧ i = .int .i64 j ∧ Bld (w.heap.size + 1) (w.heap.size + 1) ((headText V cls.length ++ clausesText (cls.take k)) ++ litsText (cs.take j)) wr ∧ Below (w.heap.size + 1) w1 wr)
        case atStart => exact ⟨0, by omega, by omega, rfl, by simpa [litsText] using HBLk.out, HBBk.out⟩
        case round =>
          obtain ⟨j, hj, rfl, rfl, hbl, hbb⟩ := hrel
          obtain ⟨wi, rfl⟩ : ∃ wi : World, wi = wr := ⟨_, rfl⟩
          have HBLj := Lib.hid hbl
          have HBBj := Lib.hid hbb
          have hsi := hbb.size
          have hrj := HROOM.out j
          have hrj1 := HROOM.out (j + 1)
          have hfl := HFL.out
          have HSZ1 := HSZ.out
          clear hbl hbb
          by_cases hlj : j < cs.length
          · obtain ⟨b2, off2, rfl, hb2, hcj1⟩ := HIK.out.at_ hlj
            have hcj := (HBBj.out.cell (p := ⟨b2, off2 + j, none⟩) (by simp; omega)).trans hcj1
            obtain ⟨hb1, hb3⟩ := HBK.out j
            have hlt1 := litsText_take hlj
            have hlr := lits_room hlj
            obtain ⟨l, hl⟩ : ∃ l, l = cs.getD j 0 := ⟨_, rfl⟩
            rw [← hl] at hcj hb1 hb3 hlt1 hlr
            have IT := Lib.hid (itoa_any l wi hb1 hb3 (TE.out wi HBBj.out))
            generalize Lib.itoa l = il at hlt1 hlr IT
            have HLT1 := Lib.hid hlt1
            have HLR := Lib.hid (And.intro hlr (And.intro hrj1 (And.intro hfl HSZ1)))
            clear hl hlt1 hlr hcj1 hrj hrj1 hfl HSZ1 hb1 hb3
            go_wp2_with (go_at_call 6; refine IT.out.mono ?_)
            rintro e w2 ⟨rfl, hb2'⟩
            have HB2 := Lib.hid (HBBj.out.trans (hb2'.mono (by have := HLR.out.2.2.2; omega)))
            have HBL2 := Lib.hid (HBLj.out.below hb2' (Nat.le_refl _))
            clear hb2' hcj
            have hz2 := HB2.out.size
            have WS := Lib.hid (writeString_any (w.heap.size + 1) (w.heap.size + 1) _ ⟨il.toArray⟩ w2 HBL2.out (by
              have h9 := HLR.out
              obtain ⟨a1, a2, a3, a4⟩ := h9
              have h10 : (⟨il.toArray⟩ : ByteArray).size = il.length := by show il.toArray.size = _; simp
              have h11 : (litsText (cs.take j)).length ≤ (litsText (cs.take (j + 1))).length := by omega
              rw [h10]
              simp only [List.length_append]
              omega) (by have := HLR.out.2.2.2; omega))
            go_wp2_with (go_at_call 25; refine WS.out.mono ?_)
            rintro e w3 ⟨rfl, hbl3, hb3⟩
            have HB3 := Lib.hid (HB2.out.trans hb3)
            have HBL3 := Lib.hid hbl3
            clear hbl3 hb3 WS
            have hz3 := HB3.out.size
            have WB := Lib.hid (writeByte_any (w.heap.size + 1) (w.heap.size + 1) _ 32 w3 HBL3.out (by
              have h9 := HLR.out
              obtain ⟨a1, a2, a3, a4⟩ := h9
              simp only [List.length_append]
              have h10 : (⟨il.toArray⟩ : ByteArray).data.toList.length = il.length := rfl
              rw [h10]
              omega) (by have := HLR.out.2.2.2; omega))
            rw [show ((32 : UInt8).toNat : Int) = 32 from rfl] at WB
            go_wp2_with (go_at_call 26; refine WB.out.mono ?_)
            rintro e w4 ⟨rfl, hbl4, hb4⟩
            have HB4 := Lib.hid (HB3.out.trans hb4)
            have HBL4 := Lib.hid hbl4
            clear hbl4 hb4 WB
            go_wp2
            go_roundg (cs.length - j)
            case measure => omega
            case rel =>
              refine ⟨j + 1, by omega, by omega, by go_num, ?_, HB4.out⟩
              have h9 := HBL4.out
              rw [HLT1.out]
              simpa using h9
          · have htk : cs.take j = cs := List.take_of_length_le (by omega)
            rw [htk] at HBLj hrj
            have HSZ2 := HSZ1
            have WS := Lib.hid (writeString_any (w.heap.size + 1) (w.heap.size + 1) _ ⟨#[48, 10]⟩ wi HBLj.out (by
              have h10 : (⟨#[48, 10]⟩ : ByteArray).size = 2 := rfl
              rw [h10]
              simp only [List.length_append]
              omega) (by omega))
            clear htk hrj hrj1 hfl HSZ1 HSZ2
            go_wp2_with (go_at_call 25; refine WS.out.mono ?_)
            rintro e w3 rfl hbl3 hb3
            have HB3 := Lib.hid (HBBj.out.trans hb3)
            have HBL3 := Lib.hid hbl3
            clear hbl3 hb3 WS
            go_wp2
            go_roundg (cls.length - k)
            case measure => omega
            case rel =>
              refine ⟨k + 1, by omega, by omega, by go_num, ?_, HB3.out⟩
              have h9 := HBL3.out
              rw [HCT.out]
              unfold clauseText
              simpa using h9
      · have htk : cls.take k = cls := List.take_of_length_le (by omega)
        have HBL9 := HBLk.out
        rw [htk] at HBL9
        have BS := Lib.hid (bldString_any (w.heap.size + 1) (w.heap.size + 1) _ wo HBL9 (by have := HSZ.out; omega))
        clear htk HBL9
        go_wp2_with (go_at_call 27; refine BS.out.mono ?_)
        rintro e w3 ⟨rfl, hb3⟩
        have HB3 := Lib.hid (HBEL.out.trans ((HBBk.out.trans hb3).mono (by omega)))
        clear hb3 BS
        go_wp2
        go_ret
        exact ⟨rfl, HB3.out⟩
end Go.Proofs.YtnjcegjcaaplgaaGreatDoor
