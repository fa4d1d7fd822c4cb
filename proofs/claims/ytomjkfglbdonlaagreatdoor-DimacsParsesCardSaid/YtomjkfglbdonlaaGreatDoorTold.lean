/- The text of a formula as a statement makes it. -/
import Derived.Test.YtomjkfglbdonlaaGreatDoorPrint
namespace Go.Proofs.YtomjkfglbdonlaaGreatDoor
open Go.RowKit
set_option linter.unusedSimpArgs false
set_option linter.unusedVariables false
set_option linter.unnecessarySimpa false

theorem str_add {P : Program} (a b c : List UInt8) (h : c = a ++ b) (ha : a.length ≤ 8000000) (hb : b.length ≤ 8000000) : ∀ w, (Op.stringOp .add ⟨a.toArray⟩ ⟨b.toArray⟩).run P w = .ok (.string ⟨c.toArray⟩) w :=
  fun w => by rw [h]; exact run_string_add_lists w a b (by omega) (by omega)

set_option maxRecDepth 100000 in
set_option maxHeartbeats 4000000 in
theorem told_any (V : Int) (cls : List (List Int)) (B : Nat) (A : Option Addr) (c : Nat) (w : World) (h : Rows w B A cls) (hB : B ≤ w.heap.size) (ht : Tab w) (hgt : 2 < w.heap.size)
    (hV0 : -9223372036854775808 ≤ V) (hV1 : V ≤ 9223372036854775807) (hcl : cls.length ≤ 1099511627776) (hlen : (formText V cls).length ≤ 8000000) (hxl : ∀ j, (cls.getD j []).length ≤ 1099511627776)
    (hb : ∀ j k, -9223372036854775808 ≤ (cls.getD j []).getD k 0 ∧ (cls.getD j []).getD k 0 ≤ 9223372036854775807) :
    Calls Tryz.prog 18 #[.agg #[.int .i64 V, .slice A cls.length c]] w fun e w' => e = .returned (.string ⟨(formText V cls).toArray⟩) ∧ Below w.heap.size w w' := by
  have H := Lib.hid h
  have HT := Lib.hid ht
  have HXL := Lib.hid hxl
  have HBD := Lib.hid hb
  have HL := Lib.hid hlen
  clear h ht hxl hb hlen
  go_enter Tryz.func18, Tryz.ntmps18
  go_wp2
  obtain ⟨w1, hw1⟩ : ∃ w1, w1 = w.alloc (.cells #[.int .i64 V, .slice A cls.length c] 25) := ⟨_, rfl⟩
  have hbel : Below w.heap.size w w1 := by rw [hw1]; exact (Below.refl _ _).alloc (Nat.le_refl _) _
  have hsz : w1.heap.size = w.heap.size + 1 := by rw [hw1]; simp
  have hbox : Blk w1 w.heap.size 25 #[.int .i64 V, .slice A cls.length c] := by rw [hw1]; exact Blk.new w _ _
  rw [← hw1]
  clear hw1
  have HBEL := Lib.hid hbel
  have HSZ := Lib.hid hsz
  have HBOX := Lib.hid hbox
  have KE := Lib.hid (show ∀ w2, Below w1.heap.size w1 w2 → w2.cell? ⟨w.heap.size, 0, none⟩ = some (.int .i64 V) ∧ w2.cell? ⟨w.heap.size, 1, none⟩ = some (.slice A cls.length c) from
    fun w2 hb2 => ⟨(hbox.below hb2 (by have := hbox.lt; omega)).cell 0, (hbox.below hb2 (by have := hbox.lt; omega)).cell 1⟩)
  have TE := Lib.hid (show ∀ w2, Below w1.heap.size w1 w2 → Tab w2 from fun w2 hb2 => (HT.out.below hbel hgt).below hb2 (by omega))
  have hv21 := Lib.itoa_length_le V hV0 hV1
  have hc21 := Lib.itoa_length_le cls.length (by omega) (by omega)
  have hht : headText V cls.length = [112, 32, 99, 110, 102, 32] ++ Lib.itoa V ++ [32] ++ Lib.itoa cls.length ++ [10] := rfl
  have IV := fun w' hT => itoa_any V w' hV0 hV1 hT
  have IC := fun w' hT => itoa_any cls.length w' (by omega) (by omega) hT
  generalize Lib.itoa V = iv at hht hv21 IV
  generalize Lib.itoa cls.length = ic at hht hc21 IC
  obtain ⟨t1, ht1⟩ : ∃ t, t = [112, 32, 99, 110, 102, 32] ++ iv := ⟨_, rfl⟩
  rw [← ht1] at hht
  obtain ⟨t2, ht2⟩ : ∃ t, t = t1 ++ [32] := ⟨_, rfl⟩
  rw [← ht2] at hht
  obtain ⟨t3, ht3⟩ : ∃ t, t = t2 ++ ic := ⟨_, rfl⟩
  rw [← ht3] at hht
  obtain ⟨t4, ht4⟩ : ∃ t, t = t3 ++ [10] := ⟨_, rfl⟩
  rw [← ht4] at hht
  have l1 : t1.length = iv.length + 6 := by rw [ht1, List.length_append]; show 6 + _ = _; omega
  have l2 : t2.length = t1.length + 1 := by rw [ht2]; simp
  have l3 : t3.length = t2.length + ic.length := by rw [ht3]; simp
  have l4 : t4.length = t3.length + 1 := by rw [ht4]; simp
  have q1 : ∀ w, (Op.stringOp .add ⟨#[112, 32, 99, 110, 102, 32]⟩ ⟨iv.toArray⟩).run Tryz.prog w = .ok (.string ⟨t1.toArray⟩) w := fun w => by rw [ht1]; exact run_string_add_lists w [112, 32, 99, 110, 102, 32] iv (by decide) (by omega)
  have q2 : ∀ w, (Op.stringOp .add ⟨t1.toArray⟩ ⟨#[32]⟩).run Tryz.prog w = .ok (.string ⟨t2.toArray⟩) w := fun w => by rw [ht2]; exact run_string_add_lists w t1 [32] (by omega) (by decide)
  have q3 : ∀ w, (Op.stringOp .add ⟨t2.toArray⟩ ⟨ic.toArray⟩).run Tryz.prog w = .ok (.string ⟨t3.toArray⟩) w := fun w => by rw [ht3]; exact run_string_add_lists w t2 ic (by omega) (by omega)
  have q4 : ∀ w, (Op.stringOp .add ⟨t3.toArray⟩ ⟨#[10]⟩).run Tryz.prog w = .ok (.string ⟨t4.toArray⟩) w := fun w => by rw [ht4]; exact run_string_add_lists w t3 [10] (by omega) (by decide)
  have HHT := Lib.hid hht
  have HIV := Lib.hid IV
  have HIC := Lib.hid IC
  clear ht1 ht2 ht3 ht4 l1 l2 l3 l4 hht IV IC hv21 hc21
  obtain ⟨hc0, hc1⟩ := KE.out w1 (Below.refl _ _)
  clear hbel hsz hbox
  go_cut [3] (fun s3 w' => s3 = .string ⟨(headText V cls.length).toArray⟩ ∧ Below w1.heap.size w1 w')
  case first =>
    go_region_held3 (fun w' => w'.cell? ⟨w.heap.size, 0, none⟩ = some (.int .i64 V) ∧ w'.cell? ⟨w.heap.size, 1, none⟩ = some (.slice A cls.length c))
      (first | exact KK3.out | exact KK2.out | exact ⟨hc0, hc1⟩ | go_keep)
      (first
        | (go_at_call 13; refine (HIV.out w1.drew (TE.out w1.drew (Below.refl _ _).drew)).mono ?_; rintro e w2 ⟨rfl, hb2'⟩; have HB2 := Lib.hid (below_undrew hb2'); have KK2 := Lib.hid (KE.out w2 HB2.out); clear hb2')
        | (go_at_call 13; refine (HIC.out w2 (TE.out w2 HB2.out)).mono ?_; rintro e w3 ⟨rfl, hb3'⟩; have HB3 := Lib.hid (HB2.out.trans (hb3'.mono HB2.out.size)); have KK3 := Lib.hid (KE.out w3 HB3.out); clear hb3'))
    go_wp2_with fail
    go_meet
    exact ⟨by rw [HHT.out], HB3.out⟩
  case rest =>
    obtain ⟨hs3, hbb⟩ := hcut
    subst hs3
    have HBB := Lib.hid hbb
    obtain ⟨k0, k1⟩ := KE.out wc hbb
    have hR1 := H.out.below (HBEL.out.mono hB)
    have HFL := Lib.hid (show (headText V cls.length).length + (clausesText cls).length ≤ 8000000 from by have := HL.out; unfold formText at this; simpa using this)
    clear hbb q1 q2 q3 q4 hc0 hc1 HHT HIV HIC
    go_wp2
    clear k0 k1
    have HR1 := Lib.hid hR1
    clear hR1
    go_loopg [3, 22] (cls.length + 1) (fun gk s i wr => ∃ k : Nat, k ≤ cls.length ∧ gk = cls.length - k + 1 ∧ i = .int .i64 k ∧ s = .string ⟨(headText V cls.length ++ clausesText (cls.take k)).toArray⟩ ∧ Below w1.heap.size w1 wr)
    case atStart => exact ⟨0, by omega, by omega, rfl, by simp [clausesText], HBB.out⟩
    case round =>
      obtain ⟨k, hk, rfl, rfl, rfl, hbb⟩ := hrel
      obtain ⟨wo, rfl⟩ : ∃ wo : World, wo = wr := ⟨_, rfl⟩
      have HBBk := Lib.hid hbb
      have hso := hbb.size
      clear hbb HBB
      by_cases hlt : k < cls.length
      · obtain ⟨b, off, Ak, ck, rfl, hbB, hck1, hik⟩ := HR1.out.at_ hlt
        have hck := (HBBk.out.cell (p := ⟨b, off + k, none⟩) (by have := HSZ.out; simp; omega)).trans hck1
        clear hck1
        have hxk := HXL.out k
        have hbk := HBD.out k
        have hct := clausesText_take hlt
        have hroom := fun j => text_room (j := j) hlt
        obtain ⟨cs, hcs⟩ : ∃ cs, cs = cls.getD k [] := ⟨_, rfl⟩
        rw [← hcs] at hck hik hxk hbk hct
        simp only [← hcs] at hroom
        clear hcs
        have HCT := Lib.hid hct
        have HROOM := Lib.hid hroom
        have HIK := Lib.hid hik
        have HBK := Lib.hid hbk
        clear hct hroom hik hbk
        generalize hta : headText V cls.length ++ clausesText (cls.take k) = ta
        have HTA := Lib.hid hta
        clear hta
        go_wp2
        clear hck
        go_loopg [3, 28] (cs.length + 1) (fun gk s i wr => ∃ j : Nat, j ≤ cs.length ∧ gk = cs.length - j + 1 ∧ i = .int .i64 j ∧ s = .string ⟨(ta ++ litsText (cs.take j)).toArray⟩ ∧ Below w1.heap.size w1 wr)
        case atStart => exact ⟨0, by omega, by omega, rfl, by simp [litsText], HBBk.out⟩
        case round =>
          obtain ⟨j, hj, rfl, rfl, rfl, hbb⟩ := hrel
          obtain ⟨wi, rfl⟩ : ∃ wi : World, wi = wr := ⟨_, rfl⟩
          have HBBj := Lib.hid hbb
          have hsi := hbb.size
          have hrj := HROOM.out j
          have hrj1 := HROOM.out (j + 1)
          have hfl := HFL.out
          have hta := congrArg List.length HTA.out
          simp only [List.length_append] at hta
          clear hbb
          by_cases hlj : j < cs.length
          · obtain ⟨b2, off2, rfl, hb2, hcj1⟩ := HIK.out.at_ hlj
            have hcj := (HBBj.out.cell (p := ⟨b2, off2 + j, none⟩) (by have := HSZ.out; simp; omega)).trans hcj1
            obtain ⟨hb1, hb3⟩ := HBK.out j
            have hlt1 := litsText_take hlj
            have hlr := lits_room hlj
            obtain ⟨l, hl⟩ : ∃ l, l = cs.getD j 0 := ⟨_, rfl⟩
            rw [← hl] at hcj hb1 hb3 hlt1 hlr
            have IT := Lib.hid (itoa_any l wi hb1 hb3 (TE.out wi HBBj.out))
            generalize Lib.itoa l = il at hlt1 hlr IT
            have q1 := str_add (P := Tryz.prog) il [32] (il ++ [32]) rfl (by omega) (by decide)
            have q2 := str_add (P := Tryz.prog) (ta ++ litsText (cs.take j)) (il ++ [32]) (ta ++ litsText (cs.take (j + 1))) (by rw [hlt1]; simp) (by rw [List.length_append]; omega) (by rw [List.length_append]; simp; omega)
            clear hl hlt1 hcj1 hrj hrj1 hfl hb1 hb3 hta hlr
            generalize ta ++ litsText (cs.take j) = tb at q2
            generalize il ++ [32] = il2 at q1 q2
            go_wp2_with (go_at_call 13; refine IT.out.mono ?_)
            rintro e w2 ⟨rfl, hb2'⟩
            have HB2 := Lib.hid (HBBj.out.trans (hb2'.mono hsi))
            clear hb2' hcj
            go_wp2
            go_roundg (cs.length - j)
            case measure => omega
            case rel => exact ⟨j + 1, by omega, by omega, by go_num, rfl, HB2.out⟩
          · have htk : cs.take j = cs := List.take_of_length_le (by omega)
            rw [htk] at hrj ⊢
            have q1 := str_add (P := Tryz.prog) (ta ++ litsText cs) [48, 10] (headText V cls.length ++ clausesText (cls.take (k + 1))) (by rw [HCT.out, ← HTA.out]; unfold clauseText; simp) (by rw [List.length_append]; omega) (by decide)
            clear htk hrj hrj1 hfl hta
            generalize htc : headText V cls.length ++ clausesText (cls.take (k + 1)) = tc at q1
            have HTC := Lib.hid htc
            clear htc
            generalize ta ++ litsText cs = tb at q1
            go_wp2
            go_roundg (cls.length - k)
            case measure => omega
            case rel => exact ⟨k + 1, by omega, by omega, by go_num, by rw [HTC.out], HBBj.out⟩
      · have htk : cls.take k = cls := List.take_of_length_le (by omega)
        have HTK := Lib.hid htk
        clear htk
        go_wp2
        go_ret
        exact ⟨by rw [HTK.out]; rfl, HBEL.out.trans (HBBk.out.mono (by have := HSZ.out; omega))⟩
end Go.Proofs.YtomjkfglbdonlaaGreatDoor
