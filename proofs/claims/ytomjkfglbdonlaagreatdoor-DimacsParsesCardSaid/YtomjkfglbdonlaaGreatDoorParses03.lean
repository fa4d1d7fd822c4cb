/- The reading of a text, over again: the walk of its statement. -/
import Derived.Test.YtomjkfglbdonlaaGreatDoorParsed
import Derived.Test.YtomjkfglbdonlaaGreatDoorResMath
import Derived.Test.YtomjkfglbdonlaaGreatDoorResRange
import Derived.Test.YtomjkfglbdonlaaGreatDoorAsAny
import Derived.Test.YtomjkfglbdonlaaGreatDoorFit03
import Derived.Test.YtomjkfglbdonlaaGreatDoorLaw02
import Derived.Test.YtomjkfglbdonlaaGreatDoorTexts
namespace Go.Proofs.YtomjkfglbdonlaaGreatDoor
open Go.RowKit
set_option linter.unusedSimpArgs false
set_option linter.unusedVariables false
set_option linter.unnecessarySimpa false

set_option maxRecDepth 100000 in
set_option maxHeartbeats 8000000 in
theorem parses_any (s : List UInt8) (m : Int) (w : World) (hE : Env m w) (hX : NumErrs w)
    (hg : w.cell? ⟨0, 0, none⟩ = some (.iface 93 (.agg #[.pointer (some ⟨9, 30, none⟩)]))) :
    Calls Tryz.prog 3 #[.string ⟨s.toArray⟩] w fun e w' => e = .returned (.bool true) ∧ Below w.heap.size w w' := by
  have HE := Lib.hid hE
  have HX := Lib.hid hX
  have HG := Lib.hid hg
  clear hE hX hg
  have hlen : (⟨s.toArray⟩ : ByteArray).size = s.length := by show s.toArray.size = _; simp
  go_enter Tryz.func3, Tryz.ntmps3
  have F1 := Lib.hid (fit03_any m w HE.out)
  go_wp2_with fail
  refine F1.out.mono ?_
  rintro e w2 ⟨rfl, hb2⟩
  have HB2 := Lib.hid hb2
  clear hb2 F1
  by_cases hs : 3000 < s.length
  · have hc : (3000 : Int) < (s.length : Int) := by omega
    clear hs
    go_wp2
    go_ret
    exact ⟨rfl, HB2.out⟩
  · have hc : ¬ ((3000 : Int) < (s.length : Int)) := by omega
    have hs1 : s.length ≤ 100000 := by omega
    clear hs
    have PA := Lib.hid (fun (wx : World) (hb : Below w.heap.size w wx) => parse_any s m wx (by omega) (HE.out.same hb).max)
    have PD := Lib.hid (fun (wx : World) (hb : Below w.heap.size w wx) => parsed_any s m wx hs1 (HE.out.same hb) (HX.out.same hb))
    have hsz := fun v cls => @parse_ok_size s v cls hs1
    have hne := fun l E => @parse_bad_ne s l E
    have hrg := fun l E => @parse_bad_rng s l E hs1
    go_wp2_with fail
    clear hc hlen
    rcases hR : parseOf s with ⟨v2, cls2⟩ | ⟨line, err⟩
    · rw [hR] at PA PD
      obtain ⟨hsz1, hsz2⟩ := hsz v2 cls2 hR
      have HSZ2 := Lib.hid hsz2
      clear hR hne hsz hsz2 hrg
      refine (PD.out w2 HB2.out).mono ?_
      rintro e w7 ⟨A7, c7, rfl, hr7, hb7⟩
      have HB7 := Lib.hid (HB2.out.trans (hb7.mono HB2.out.size))
      have hz7 := HB7.out.size
      have HR7 := Lib.hid hr7
      clear hb7 hr7
      go_wp2_with fail
      obtain ⟨w8, hw8⟩ : ∃ w8, w8 = w7.alloc (.cells #[.int .i64 v2, .slice A7 cls2.length c7] 25) := ⟨_, rfl⟩
      rw [← hw8]
      have HB8 := Lib.hid (show Below w.heap.size w w8 by rw [hw8]; exact HB7.out.alloc hz7 _)
      have HR8 := Lib.hid (show Rows w8 w7.heap.size A7 cls2 by rw [hw8]; exact HR7.out.alloc (Nat.le_refl _) _)
      have HK8 := Lib.hid (show Blk w8 w7.heap.size 25 #[.int .i64 v2, .slice A7 cls2.length c7] by rw [hw8]; exact Blk.new w7 _ _)
      have hz8 : w7.heap.size < w8.heap.size := HK8.out.lt
      clear hw8
      refine (PA.out w8 HB8.out).mono ?_
      rintro e w9 ⟨A9, c9, rfl, hr9, hb9⟩
      have HB9 := Lib.hid (HB8.out.trans (hb9.mono HB8.out.size))
      have HR9 := Lib.hid hr9
      have HR79 := Lib.hid (HR8.out.below (hb9.mono (Nat.le_of_lt hz8)))
      have hk9 := HK8.out.below hb9 hz8
      have hz9 := hb9.size
      have HK10 := Lib.hid (hk9.alloc (.cells #[.int .i64 v2, .slice A9 cls2.length c9] 25))
      have f70 := HK10.out.cell 0
      have f71 := HK10.out.cell 1
      simp at f70 f71
      clear hb9 hr9 hk9
      go_wp2_with fail
      obtain ⟨w10, hw10⟩ : ∃ w10, w10 = w9.alloc (.cells #[.int .i64 v2, .slice A9 cls2.length c9] 25) := ⟨_, rfl⟩
      rw [← hw10]
      have HB10 := Lib.hid (show Below w.heap.size w w10 by rw [hw10]; exact HB9.out.alloc HB9.out.size _)
      have hra : Rows w10 w10.heap.size A7 cls2 := by rw [hw10]; exact Rows.more (HR79.out.alloc (by omega) _) (by simp; omega)
      have hrb : Rows w10 w10.heap.size A9 cls2 := by rw [hw10]; exact Rows.more (HR9.out.alloc (Nat.le_refl _) _) (by simp)
      have SA := same_any v2 v2 cls2 cls2 _ A9 A7 c9 c7 w10 hsz1 HSZ2.out HSZ2.out hrb hra (Nat.le_refl _)
      rw [sameForm_self] at SA
      refine SA.mono ?_
      clear SA hra hrb hw10 f70 f71
      rintro e w11 ⟨rfl, hb11⟩
      have HB11 := Lib.hid (HB10.out.trans (hb11.mono HB10.out.size))
      clear hb11
      go_wp2
      go_ret
      exact ⟨rfl, HB11.out⟩
    · rw [hR] at PA PD
      have herr := hne line err hR
      obtain ⟨⟨l0, l1⟩, e0, e1⟩ := hrg line err hR
      have hq1 : (err != 0) = true := by simpa using herr
      have hq2 : (err == 0) = false := by simpa using herr
      clear hR hne hsz herr hrg
      refine (PD.out w2 HB2.out).mono ?_
      rintro e w7 ⟨rfl, hb7⟩
      have HB7 := Lib.hid (HB2.out.trans (hb7.mono HB2.out.size))
      have hz7 := HB7.out.size
      clear hb7
      go_wp2_with fail
      obtain ⟨w8, hw8⟩ : ∃ w8, w8 = w7.alloc (.cells #[.int .i64 0, .slice none 0 0] 25) := ⟨_, rfl⟩
      rw [← hw8]
      have HB8 := Lib.hid (show Below w.heap.size w w8 by rw [hw8]; exact HB7.out.alloc hz7 _)
      clear hw8
      refine (PA.out w8 HB8.out).mono ?_
      rintro e w9 ⟨g, rfl, hg9, hf9, hb9⟩
      have HB9 := Lib.hid (HB8.out.trans (hb9.mono HB8.out.size))
      have hz9 := HB9.out.size
      have HF9 := Lib.hid hf9
      have hgl9 := HF9.out.lt
      clear hb9 hf9
      obtain ⟨wb, hwb⟩ : ∃ wb, wb = w9.alloc (.cells #[.int .i64 0, .slice none 0 0] 25) := ⟨_, rfl⟩
      have hsb : wb.heap.size = w9.heap.size + 1 := by rw [hwb]; simp
      have hG9 := Blk.new w9 25 #[.int .i64 0, .slice none 0 0]
      rw [← hwb] at hG9
      obtain ⟨w10, hw10⟩ : ∃ w10, w10 = wb.alloc (.cells #[.pointer none] 34) := ⟨_, rfl⟩
      have hX10 := Blk.new wb 34 #[.pointer none]
      have HG10 := Lib.hid (hG9.alloc (.cells #[.pointer none] 34))
      rw [← hw10, hsb] at hX10
      rw [← hw10] at HG10
      have HF10 := Lib.hid (show Blk w10 g 38 #[.int .i64 line, .int .i64 err] by rw [hw10, hwb]; exact (HF9.out.alloc _).alloc _)
      have HB10 := Lib.hid (show Below w.heap.size w w10 by rw [hw10, hwb]; exact (HB9.out.alloc hz9 _).alloc (by simp; omega) _)
      have hgl : 0 < w.heap.size := by have := World.block_lt_of_cell? w _ HG.out; simpa using this
      have AS := Lib.hid (as_any ⟨g, 0, none⟩ (w9.heap.size + 1) w10 ((HB10.out.cell (p := ⟨0, 0, none⟩) hgl).trans HG.out) hX10)
      have hs10 : w10.heap.size = w9.heap.size + 2 := by rw [hw10]; simp; omega
      rw [hw10, hwb] at AS
      have HWB := Lib.hid hwb
      have HW10 := Lib.hid hw10
      clear hwb hw10 hX10 hgl hsb hG9
      go_wp2_with fail
      refine AS.out.mono ?_
      rw [← HWB.out, ← HW10.out]
      rintro e w11 ⟨rfl, x0, hb11⟩
      have hzz := hb11.size
      have hf11 := HF10.out.below hb11 (by omega)
      have hgg11 := HG10.out.below hb11 (by omega)
      have HB11 := Lib.hid (HB10.out.trans (hb11.mono (by omega)))
      have X0 := Lib.hid x0
      have HF11 := Lib.hid hf11
      have HG11 := Lib.hid hgg11
      clear AS hb11
      have y0 := hf11.cell 0
      have y1 := hf11.cell 1
      simp at y0 y1
      clear hf11 hgg11
      have IS := Lib.hid (is_fault g line err err w11 HF11.out)
      rw [show (err == err) = true by simp] at IS
      go_wp2_with fail
      refine IS.out.mono ?_
      rintro e w12 ⟨rfl, rfl⟩
      clear y0 y1 IS X0
      have g0 := HG11.out.cell 0
      have g1 := HG11.out.cell 1
      simp at g0 g1
      have SA := Lib.hid (same_any 0 0 [] [] w11.heap.size none none 0 0 w11 (by simp) (fun j => by simp) (fun j => by simp) Rows.nil_ Rows.nil_ (Nat.le_refl _))
      rw [sameForm_self] at SA
      go_wp2_with fail
      refine SA.out.mono ?_
      rintro e w13 ⟨rfl, hb13⟩
      have hf13 := HF11.out.below hb13 HF11.out.lt
      have x13 : w13.cell? ⟨w9.heap.size + 1, 0, none⟩ = some (.pointer (some ⟨g, 0, none⟩)) := (hb13.cell (p := ⟨w9.heap.size + 1, 0, none⟩) (by show w9.heap.size + 1 < _; omega)).trans x0
      have HB13 := Lib.hid (HB11.out.trans (hb13.mono HB11.out.size))
      have HF13 := Lib.hid hf13
      have X13 := Lib.hid x13
      clear hb13 hf13 SA g0 g1 x0
      go_wp2_with fail
      have hE13 := HE.out.same HB13.out
      have TX := Lib.hid (fault_text g line err w13 HF13.out (by omega) (by omega) (by omega) (by omega) hE13.tab hE13.tabLt)
      have HIV := Lib.hid (fun (wx : World) (hb : Below w.heap.size w wx) => itoa_any line wx (by omega) (by omega) (HE.out.same hb).tab)
      have HTX := Lib.hid (fun (wx : World) (hb : Below w.heap.size w wx) => errno_text err wx (by omega) (by omega) (HE.out.same hb).tab)
      have hl := Lib.itoa_length_le line (by omega) (by omega)
      have hl2 := errnoText_len err (by omega) (by omega)
      obtain ⟨r, hr⟩ : ∃ r, r = faultText line err := ⟨_, rfl⟩
      have hr2 : r = [108, 105, 110, 101, 32] ++ Lib.itoa line ++ [58, 32] ++ errnoText err := hr
      rw [← hr] at TX
      obtain ⟨iv, hiv⟩ : ∃ iv, iv = Lib.itoa line := ⟨_, rfl⟩
      obtain ⟨et, het⟩ : ∃ et, et = errnoText err := ⟨_, rfl⟩
      rw [← hiv] at HIV hl hr2
      rw [← het] at HTX hl2 hr2
      obtain ⟨t1, ht1⟩ : ∃ t, t = [108, 105, 110, 101, 32] ++ iv := ⟨_, rfl⟩
      rw [← ht1] at hr2
      obtain ⟨t2, ht2⟩ : ∃ t, t = t1 ++ [58, 32] := ⟨_, rfl⟩
      rw [← ht2] at hr2
      have n1 : t1.length = iv.length + 5 := by rw [ht1, List.length_append]; show 5 + _ = _; omega
      have n2 : t2.length = t1.length + 2 := by rw [ht2]; simp
      have q1 := str_add (P := Tryz.prog) [108, 105, 110, 101, 32] iv t1 ht1 (by decide) (by omega)
      have q2 := str_add (P := Tryz.prog) t1 [58, 32] t2 ht2 (by omega) (by decide)
      have q3 := str_add (P := Tryz.prog) t2 et r hr2 (by omega) (by omega)
      clear hr hr2 hiv het ht1 ht2 n1 n2 hl hl2 hE13 x13
      refine TX.out.mono ?_
      rintro e w14 ⟨rfl, hb14⟩
      have HB14 := Lib.hid (HB13.out.trans (hb14.mono HB13.out.size))
      have hz13 : w9.heap.size + 1 < w13.heap.size := by have := World.block_lt_of_cell? w13 _ X13.out; simpa using this
      have HF14 := Lib.hid (HF13.out.below hb14 HF13.out.lt)
      have X14 := Lib.hid ((hb14.cell (p := ⟨w9.heap.size + 1, 0, none⟩) hz13).trans X13.out)
      have hz14 := hb14.size
      clear hb14 TX
      go_wp2_with fail
      refine (HIV.out w14 HB14.out).mono ?_
      rintro e w15 ⟨rfl, hb15⟩
      have HB15 := Lib.hid (HB14.out.trans (hb15.mono HB14.out.size))
      have HF15 := Lib.hid (HF14.out.below hb15 HF14.out.lt)
      have X15 := Lib.hid ((hb15.cell (p := ⟨w9.heap.size + 1, 0, none⟩) (by show w9.heap.size + 1 < _; omega)).trans X14.out)
      have hz15 := hb15.size
      clear hb15 HIV
      go_wp2_with fail
      refine (HTX.out w15 HB15.out).mono ?_
      rintro e w16 ⟨rfl, hb16⟩
      have HB16 := Lib.hid (HB15.out.trans (hb16.mono HB15.out.size))
      have HF16 := Lib.hid (HF15.out.below hb16 HF15.out.lt)
      have x16 := (hb16.cell (p := ⟨w9.heap.size + 1, 0, none⟩) (by show w9.heap.size + 1 < _; omega)).trans X15.out
      clear hb16 HTX
      go_wp2_with fail
      refine (unwrap_any g line err w16 HF16.out).mono ?_
      rintro e w17 ⟨rfl, rfl⟩
      have IE := Lib.hid (is_errno err err w16)
      rw [show (err == err) = true by simp] at IE
      go_wp2_with fail
      refine IE.out.mono ?_
      rintro e w18 ⟨rfl, rfl⟩
      go_wp2
      go_ret
      exact ⟨rfl, HB16.out⟩

theorem parses_str (a : ByteArray) (m : Int) (w : World) (hE : Env m w) (hX : NumErrs w)
    (hg : w.cell? ⟨0, 0, none⟩ = some (.iface 93 (.agg #[.pointer (some ⟨9, 30, none⟩)]))) :
    Calls Tryz.prog 3 #[.string a] w fun e w' => e = .returned (.bool true) ∧ Below w.heap.size w w' := by
  obtain ⟨⟨l⟩⟩ := a
  exact parses_any l m w hE hX hg
end Go.Proofs.YtomjkfglbdonlaaGreatDoor
