/- A text that lacks some at its end: the walk of its statement. -/
import Derived.Test.YtomjkfglbdonlaaGreatDoorParsed
import Derived.Test.YtomjkfglbdonlaaGreatDoorResMath
import Derived.Test.YtomjkfglbdonlaaGreatDoorAsAny
import Derived.Test.YtomjkfglbdonlaaGreatDoorFit03
import Derived.Test.YtomjkfglbdonlaaGreatDoorLaw02
import Derived.Test.YtomjkfglbdonlaaGreatDoorBack03
namespace Go.Proofs.YtomjkfglbdonlaaGreatDoor
open Go.RowKit
set_option linter.unusedSimpArgs false
set_option linter.unusedVariables false
set_option linter.unnecessarySimpa false

/-- what a fault of the text is found to be, behind the two readings -/
def Found (B : Nat) (w : World) (e : Ending) (w' : World) : Prop := e = .returned (.bool true) ∧ Below B w w'

set_option maxRecDepth 100000 in
set_option maxHeartbeats 8000000 in
theorem cuts_any (v : Nat) (nss : List (List Int)) (A : Option Addr) (c : Nat) (cut : Int) (m : Int) (w : World) (hv : v ≤ 255)
    (hx : nss.length ≤ 140737488355328) (hl : ∀ j, (nss.getD j []).length ≤ 140737488355328) (hn : ∀ j k, -32768 ≤ (nss.getD j []).getD k 0 ∧ (nss.getD j []).getD k 0 ≤ 32767) (h : KRows .i16 w w.heap.size A nss) (hE : Env m w) (hX : NumErrs w)
    (hg : w.cell? ⟨0, 0, none⟩ = some (.iface 93 (.agg #[.pointer (some ⟨9, 30, none⟩)]))) :
    Calls Tryz.prog 4 #[.agg #[.int .u8 v, .slice A nss.length c], .int .i64 cut] w fun e w' => e = .returned (.bool true) ∧ Below w.heap.size w w' := by
  have H := Lib.hid h
  have HE := Lib.hid hE
  have HX := Lib.hid hX
  have HL := Lib.hid hl
  have HN := Lib.hid hn
  have HG := Lib.hid hg
  clear h hE hX hl hn hg
  go_enter Tryz.func4, Tryz.ntmps4
  have F1 := Lib.hid (fit03_any m (w.alloc (.cells #[.int .u8 v, .slice A nss.length c] 46)) (HE.out.same ((Below.refl _ _).alloc (Nat.le_refl _) _)))
  go_wp2_with fail
  refine F1.out.mono ?_
  rintro e w2 ⟨rfl, hb2⟩
  have hbox : Blk w2 w.heap.size 46 #[.int .u8 v, .slice A nss.length c] := (Blk.new w _ _).below hb2 (by simp)
  have hB2 : Below w.heap.size w w2 := ((Below.refl _ _).alloc (Nat.le_refl _) _).trans (hb2.mono (by simp))
  have h2 : KRows .i16 w2 w.heap.size A nss := H.out.below hB2
  have b0 := hbox.cell 0
  have b1 := hbox.cell 1
  simp at b0 b1
  have HBOX := Lib.hid hbox
  have HB2 := Lib.hid hB2
  have H2 := Lib.hid h2
  have hz2 := hB2.size
  clear hbox hB2 h2 hb2 F1
  have L1 := Lib.hid (light_any v nss w.heap.size A c 40 w2 (by omega) (by omega) (fun j => by have := HL.out j; omega) H2.out hz2)
  rcases hli : light nss 40 with _ | _
  · rw [hli] at L1
    clear hli
    go_wp2_with fail
    refine L1.out.mono ?_
    rintro e w3 ⟨rfl, hb3⟩
    have HB3 := Lib.hid (HB2.out.trans (hb3.mono hz2))
    clear hb3 L1
    go_wp2
    go_ret
    exact ⟨rfl, HB3.out⟩
  · rw [hli] at L1
    have HLI := Lib.hid hli
    clear hli
    go_wp2_with fail
    refine L1.out.mono ?_
    rintro e w3 ⟨rfl, hb3⟩
    have hbox3 := HBOX.out.below hb3 (by have := HBOX.out.lt; omega)
    clear b0 b1
    have b0 := hbox3.cell 0
    have b1 := hbox3.cell 1
    simp at b0 b1
    have hz3 : w.heap.size ≤ w3.heap.size := Nat.le_trans hz2 hb3.size
    have HB3 := Lib.hid (HB2.out.trans (hb3.mono hz2))
    have FO := Lib.hid (formula_any v nss w.heap.size A c 50 9 w3 hv (by omega) (by omega) (by have := (light_iff.1 HLI.out).2; omega) (fun j => by have := light_rows HLI.out j; omega) HN.out (H2.out.below (hb3.mono hz2)) hz3)
    clear hbox3 hb3 L1
    have hF : v % (50 + 1) ≤ 50 := by omega
    have hok := rawOk (F := v % (50 + 1)) (width := 9) (nss := nss) (k := 40) (by omega) HLI.out
    generalize v % (50 + 1) = F at FO hF hok
    generalize rawForm F 9 nss = cls at FO hok
    have HOK := Lib.hid hok
    have hfew := hok.few
    clear hok
    go_wp2_with fail
    refine FO.out.mono ?_
    rintro e w4 ⟨A4, c4, vs, rfl, ho4, hl4, hb4⟩
    have hr4 := hl4.rows ho4
    have HB4 := Lib.hid (HB3.out.trans (hb4.mono hz3))
    have HR4 := Lib.hid hr4
    clear ho4 hl4 hb4 FO b0 b1 hr4
    have htx := HOK.out.text (by omega) (by omega)
    go_wp2_with fail
    obtain ⟨w5, hw5⟩ : ∃ w5, w5 = w4.alloc (.cells #[.int .i64 F, .slice A4 cls.length c4] 25) := ⟨_, rfl⟩
    rw [← hw5]
    have hb45 : Below w4.heap.size w4 w5 := by rw [hw5]; exact (Below.refl _ _).alloc (Nat.le_refl _) _
    have hr5 := HR4.out.below hb45
    have HB5 := Lib.hid (HB4.out.trans (hb45.mono HB4.out.size))
    have hE5 := HE.out.same HB5.out
    have hz5 := HB5.out.size
    have TO := Lib.hid (told_any F cls w4.heap.size A4 c4 w5 hr5 hb45.size hE5.tab hE5.tabLt (by omega) (by omega) (by omega) (by omega) (fun j => by have := HOK.out.len j; omega) HOK.out.at_)
    clear hb45 hr5 hE5 hw5
    refine TO.out.mono ?_
    rintro e w6 ⟨rfl, hb6⟩
    have HB6 := Lib.hid (HB5.out.trans (hb6.mono hz5))
    have hft6 : 1 ≤ (formText F cls).length := by unfold formText headText; simp
    have htl : (formText F cls).length ≤ 10000 := by omega
    generalize formText F cls = ft at hft6 htl ⊢
    clear hb6 TO htx
    have hand := i64_and_65535 cut
    obtain ⟨q, hq⟩ : ∃ q : Nat, cut % 65536 = (q : Int) := ⟨(cut % 65536).toNat, by omega⟩
    have hlen : (⟨ft.toArray⟩ : ByteArray).size = ft.length := by show ft.toArray.size = _; simp
    obtain ⟨k, hk⟩ : ∃ k, k = q % ft.length := ⟨_, rfl⟩
    have hkl : k < ft.length := by rw [hk]; exact Nat.mod_lt _ (by omega)
    have hrem : (q : Int) % (ft.length : Int) = (k : Int) := by rw [hk]; simp
    have q0 : ∀ w, (Instr.slice 9 (.string ⟨ft.toArray⟩) none (some (.int .i64 k)) none).run Tryz.prog w = .ok (.string ⟨(ft.take k).toArray⟩) w := fun w => by
      have h := run_front (P := Tryz.prog) 9 Tryz.underlying9 ⟨ft.toArray⟩ k (by rw [hlen]; omega) w
      rw [piece_front ft k (by omega)] at h
      exact h
    have hnz : ¬ ((ft.length : Int) = 0) := by omega
    rw [hq] at hand
    have hE6 := HE.out.same HB6.out
    have hX6 := HX.out.same HB6.out
    have htk : (ft.take k).length ≤ 10000 := by simp; omega
    have PA := Lib.hid (parse_any (ft.take k) m w6 (by omega) hE6.max)
    have PD := Lib.hid (fun (wx : World) (hb : Below w.heap.size w wx) => parsed_any (ft.take k) m wx (by omega) (HE.out.same hb) (HX.out.same hb))
    have hsz := fun v cls => @parse_ok_size (ft.take k) v cls (by omega)
    have hne := fun l E => @parse_bad_ne (ft.take k) l E
    clear hE6 hX6 hk hq
    generalize ft.take k = tk at q0 PA PD hsz hne htk
    go_wp2_with fail
    rcases hR : parseOf tk with ⟨v2, cls2⟩ | ⟨line, err⟩
    · rw [hR] at PA PD
      obtain ⟨hsz1, hsz2⟩ := hsz v2 cls2 hR
      have HSZ2 := Lib.hid hsz2
      clear hR hne hsz hsz2
      refine PA.out.mono ?_
      rintro e w7 ⟨A7, c7, rfl, hr7, hb7⟩
      have HB7 := Lib.hid (HB6.out.trans (hb7.mono HB6.out.size))
      have hz7 := HB7.out.size
      have HR7 := Lib.hid hr7
      clear hb7 hr7
      go_wp2_with fail
      obtain ⟨w8, hw8⟩ : ∃ w8, w8 = w7.alloc (.cells #[.int .i64 v2, .slice A7 cls2.length c7] 25) := ⟨_, rfl⟩
      rw [← hw8]
      have HB8 := Lib.hid (show Below w.heap.size w w8 by rw [hw8]; exact HB7.out.alloc hz7 _)
      have HR8 := Lib.hid (show Rows w8 w7.heap.size A7 cls2 by rw [hw8]; exact HR7.out.alloc (Nat.le_refl _) _)
      have HK8 := Lib.hid (show Blk w8 w7.heap.size 25 #[.int .i64 v2, .slice A7 cls2.length c7] by rw [hw8]; exact Blk.new w7 _ _)
      have hz8 : w7.heap.size < w8.heap.size := HK8.out.lt
      clear hw8
      refine (PD.out w8 HB8.out).mono ?_
      rintro e w9 ⟨A9, c9, rfl, hr9, hb9⟩
      have HB9 := Lib.hid (HB8.out.trans (hb9.mono HB8.out.size))
      have HR9 := Lib.hid hr9
      have HR79 := Lib.hid (HR8.out.below (hb9.mono (Nat.le_of_lt hz8)))
      have hk9 := HK8.out.below hb9 hz8
      have hz9 := hb9.size
      have HK10 := Lib.hid (hk9.alloc (.cells #[.int .i64 v2, .slice A9 cls2.length c9] 25))
      have f70 := HK10.out.cell 0
      have f71 := HK10.out.cell 1
      simp at f70 f71
      clear hb9 hr9 hk9
      go_wp2_with fail
      obtain ⟨w10, hw10⟩ : ∃ w10, w10 = w9.alloc (.cells #[.int .i64 v2, .slice A9 cls2.length c9] 25) := ⟨_, rfl⟩
      rw [← hw10]
      have HB10 := Lib.hid (show Below w.heap.size w w10 by rw [hw10]; exact HB9.out.alloc HB9.out.size _)
      have hra : Rows w10 w10.heap.size A7 cls2 := by rw [hw10]; exact Rows.more (HR79.out.alloc (by omega) _) (by simp; omega)
      have hrb : Rows w10 w10.heap.size A9 cls2 := by rw [hw10]; exact Rows.more (HR9.out.alloc (Nat.le_refl _) _) (by simp)
      have SA := same_any v2 v2 cls2 cls2 _ A7 A9 c7 c9 w10 hsz1 HSZ2.out HSZ2.out hra hrb (Nat.le_refl _)
      rw [sameForm_self] at SA
      refine SA.mono ?_
      clear SA hra hrb hw10 f70 f71
      rintro e w11 ⟨rfl, hb11⟩
      have HB11 := Lib.hid (HB10.out.trans (hb11.mono HB10.out.size))
      clear hb11
      go_wp2
      go_ret
      exact ⟨rfl, HB11.out⟩
    · rw [hR] at PA PD
      have herr := hne line err hR
      have hq1 : (err != 0) = true := by simpa using herr
      have hq2 : (err == 0) = false := by simpa using herr
      clear hR hne hsz herr
      refine PA.out.mono ?_
      rintro e w7 ⟨g, rfl, hg7, hf7, hb7⟩
      have HB7 := Lib.hid (HB6.out.trans (hb7.mono HB6.out.size))
      have hz7 := HB7.out.size
      have HF7 := Lib.hid hf7
      clear hb7 hf7
      go_wp2_with fail
      obtain ⟨w8, hw8⟩ : ∃ w8, w8 = w7.alloc (.cells #[.int .i64 0, .slice none 0 0] 25) := ⟨_, rfl⟩
      rw [← hw8]
      have HB8 := Lib.hid (show Below w.heap.size w w8 by rw [hw8]; exact HB7.out.alloc hz7 _)
      have HF8 := Lib.hid (show Blk w8 g 38 #[.int .i64 line, .int .i64 err] by rw [hw8]; exact HF7.out.alloc _)
      clear hw8
      refine (PD.out w8 HB8.out).mono ?_
      rintro e w9 ⟨rfl, hb9⟩
      have HB9 := Lib.hid (HB8.out.trans (hb9.mono HB8.out.size))
      have hz9 := HB9.out.size
      have HF9 := Lib.hid (HF8.out.below hb9 HF8.out.lt)
      have hgl9 := HF9.out.lt
      clear hb9
      obtain ⟨wb, hwb⟩ : ∃ wb, wb = w9.alloc (.cells #[.int .i64 0, .slice none 0 0] 25) := ⟨_, rfl⟩
      have hsb : wb.heap.size = w9.heap.size + 1 := by rw [hwb]; simp
      obtain ⟨w10, hw10⟩ : ∃ w10, w10 = wb.alloc (.cells #[.pointer none] 34) := ⟨_, rfl⟩
      have hX10 := Blk.new wb 34 #[.pointer none]
      rw [← hw10, hsb] at hX10
      have HF10 := Lib.hid (show Blk w10 g 38 #[.int .i64 line, .int .i64 err] by rw [hw10, hwb]; exact (HF9.out.alloc _).alloc _)
      have HB10 := Lib.hid (show Below w.heap.size w w10 by rw [hw10, hwb]; exact (HB9.out.alloc hz9 _).alloc (by simp; omega) _)
      have hgl : 0 < w.heap.size := by have := World.block_lt_of_cell? w _ HG.out; simpa using this
      have AS := Lib.hid (as_any ⟨g, 0, none⟩ (w9.heap.size + 1) w10 ((HB10.out.cell (p := ⟨0, 0, none⟩) hgl).trans HG.out) hX10)
      rw [hw10, hwb] at AS
      have HWB := Lib.hid hwb
      have HW10 := Lib.hid hw10
      clear hwb hw10 hX10 hgl hsb
      go_wp2_with fail
      refine AS.out.mono ?_
      rw [← HWB.out, ← HW10.out]
      rintro e w11 ⟨rfl, x0, hb11⟩
      have hf11 := HF10.out.below hb11 (by omega)
      have y0 := hf11.cell 0
      have y1 := hf11.cell 1
      simp at y0 y1
      have HB11 := Lib.hid (HB10.out.trans (hb11.mono (by omega)))
      clear hf11 hb11 AS
      go_wp2
      go_ret
      exact ⟨rfl, HB11.out⟩

theorem cuts_raw (u : Int) (nss : List (List Int)) (A : Option Addr) (c : Nat) (cut : Int) (m : Int) (w : World) (hu : (Lit.int .u8 u).wf = true)
    (hx : nss.length ≤ 5864062014805) (hm : ∀ j, (nss.getD j []).length * 2 ≤ 140737488351232) (hn : ∀ j i, (Lit.int .i16 ((nss.getD j []).getD i 0)).wf = true) (h : KRows .i16 w w.heap.size A nss) (hE : Env m w) (hX : NumErrs w)
    (hg : w.cell? ⟨0, 0, none⟩ = some (.iface 93 (.agg #[.pointer (some ⟨9, 30, none⟩)]))) :
    Calls Tryz.prog 4 #[.agg #[.int .u8 u, .slice A nss.length c], .int .i64 cut] w fun e w' => e = .returned (.bool true) ∧ Below w.heap.size w w' := by
  obtain ⟨v, rfl, hv⟩ : ∃ v : Nat, u = v ∧ v ≤ 255 := by have := bounds_u8 hu; exact ⟨u.toNat, by omega, by omega⟩
  exact cuts_any v nss A c cut m w hv (by omega) (fun j => by have := hm j; omega) (fun j k => by have := bounds_i16 (hn j k); omega) h hE hX hg
end Go.Proofs.YtomjkfglbdonlaaGreatDoor
