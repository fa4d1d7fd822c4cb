/- Headers: the walk of their statement. Written by genheads.py. -/
import Derived.Test.YtnjcegjcaaplgaaGreatDoorParsed
import Derived.Test.YtnjcegjcaaplgaaGreatDoorResMath
import Derived.Test.YtnjcegjcaaplgaaGreatDoorAsAny
import Derived.Test.YtnjcegjcaaplgaaGreatDoorFit03
import Derived.Test.YtnjcegjcaaplgaaGreatDoorLaw02
import Derived.Test.YtnjcegjcaaplgaaGreatDoorHeadMath
import Derived.Test.YtnjcegjcaaplgaaGreatDoorOwnStrs
import Derived.Laws.Concat
namespace Go.Proofs.YtnjcegjcaaplgaaGreatDoor
open Go.RowKit
set_option linter.unusedSimpArgs false
set_option linter.unusedVariables false
set_option linter.unnecessarySimpa false

theorem sum_add {P : Program} (a b c : List UInt8) (h : c = a ++ b) (hs : a.length + b.length ≤ 9223372036854775807) : ∀ w, (Op.stringOp .add ⟨a.toArray⟩ ⟨b.toArray⟩).run P w = .ok (.string ⟨c.toArray⟩) w :=
  fun w => by
    rw [h, run_string_add_sum w _ _ (by show a.toArray.size + b.toArray.size ≤ _; simp; omega)]
    congr 2

set_option maxRecDepth 100000 in
set_option maxHeartbeats 16000000 in
theorem heads_any (ws : List (List UInt8)) (A : Option Addr) (c : Nat) (n0 n1 : Nat) (m : Int) (w : World) (hws : ws.length ≤ 8796093021952) (hn0 : n0 ≤ 4294967295) (hn1 : n1 ≤ 4294967295)
    (hsz : ∀ j, (ws.getD j []).length ≤ 9223372036854775807) (h : Strs w w.heap.size A ws) (hE : Env m w) (hX : NumErrs w)
    (hg : w.cell? ⟨0, 0, none⟩ = some (.iface 83 (.agg #[.pointer (some ⟨9, 30, none⟩)]))) :
    Calls Tryz.prog 3 #[.slice A ws.length c, .agg #[.int .u32 n0, .int .u32 n1]] w fun e w' => e = .returned (.bool true) ∧ Below w.heap.size w w' := by
  have H := Lib.hid h
  have HE := Lib.hid hE
  have HX := Lib.hid hX
  have HG := Lib.hid hg
  have HSW := Lib.hid hsz
  clear h hE hX hg hsz
  go_enter Tryz.func3, Tryz.ntmps3
  have F1 := Lib.hid (fit03_any m (w.alloc (.cells #[.int .u32 n0, .int .u32 n1] 24)) (HE.out.same ((Below.refl _ _).alloc (Nat.le_refl _) _)))
  go_wp2_with fail
  refine F1.out.mono ?_
  rintro e w2 ⟨rfl, hb2⟩
  have hbox : Blk w2 w.heap.size 24 #[.int .u32 n0, .int .u32 n1] := (Blk.new w _ _).below hb2 (by simp)
  have hB2 : Below w.heap.size w w2 := ((Below.refl _ _).alloc (Nat.le_refl _) _).trans (hb2.mono (by simp))
  have HBOX := Lib.hid hbox
  have HB2 := Lib.hid hB2
  clear hbox hB2 hb2 F1
  go_wp2_with fail
  go_loopg [5, 6, 24] (ws.length + 1) (fun gk s p i wr => ∃ k : Nat, k ≤ ws.length ∧ gk = ws.length - k + 1 ∧ i = .int .i64 k ∧ s = .string ⟨(blankW (ws.take k)).toArray⟩ ∧ p = .bool ((ws.take k).all plainW) ∧ (∀ x ∈ ws.take k, x.length ≤ 12) ∧ wr = w2)
  case atStart => exact ⟨0, by omega, by omega, rfl, rfl, rfl, by simp, rfl⟩
  case round =>
    obtain ⟨k, hk, rfl, rfl, rfl, rfl, hle, hwr⟩ := hrel
    have hwr := hwr.symm
    subst hwr
    have HLE := Lib.hid hle
    clear hle
    by_cases hlt : k < ws.length
    · obtain ⟨b2, off, rfl, _, hcell0⟩ := (Cells.below H.out HB2.out).at_ hlt
      have hx9 := HSW.out k
      have hbt := blankW_take hlt
      have hbl := blankW_len (ws.take k) HLE.out
      rw [List.length_take] at hbl
      have hall : (ws.take (k + 1)).all plainW = ((ws.take k).all plainW && plainW (ws.getD k [])) := by
        rw [List.take_succ_eq_append_getElem hlt, List.all_append]
        simp [List.getD, hlt]
      have hle2 := fun h12 => take_mem (p := fun y : List UInt8 => y.length ≤ 12) hlt [] HLE.out h12
      obtain ⟨x, hx⟩ : ∃ x, x = ws.getD k [] := ⟨_, rfl⟩
      rw [← hx] at hbt hall hle2 hx9
      have hcell : w2.cell? ⟨b2, off + k, none⟩ = some (.string ⟨x.toArray⟩) := by rw [hx]; exact hcell0
      clear hcell0
      have hlen : (⟨x.toArray⟩ : ByteArray).size = x.length := by show x.toArray.size = _; simp
      have HBT := Lib.hid hbt
      have HALL := Lib.hid hall
      have HLE2 := Lib.hid hle2
      clear hbt hall hle2 hx
      by_cases h12 : 12 < x.length
      · have hc : (12 : Int) < (x.length : Int) := by omega
        clear h12
        go_wp2
        go_ret
        exact ⟨rfl, HB2.out⟩
      · have hc : ¬ ((12 : Int) < (x.length : Int)) := by omega
        obtain ⟨P, hP⟩ : ∃ P, P = (ws.take k).all plainW := ⟨_, rfl⟩
        rw [← hP]
        have HP := Lib.hid hP
        have HBL := Lib.hid hbl
        clear hP hbl
        go_wp2_with fail
        go_loopg [6, 33] (x.length + 1) (fun gj p i wi => ∃ j : Nat, j ≤ x.length ∧ gj = x.length - j + 1 ∧ i = .int .i64 j ∧ p = .bool (P && (x.take j).all fun b => decide (32 < b.toNat ∧ b.toNat < 127)) ∧ wi = w2)
        case atStart => exact ⟨0, by omega, by omega, rfl, by simp, rfl⟩
        case round =>
          obtain ⟨j, hj, rfl, rfl, rfl, hwi⟩ := hrel
          have hwi := hwi.symm
          subst hwi
          by_cases hjl : j < x.length
          · have hkb : j < (⟨x.toArray⟩ : ByteArray).size := by rw [hlen]; exact hjl
            have hbx : (⟨x.toArray⟩ : ByteArray)[j]'hkb = x[j] := rfl
            obtain ⟨q, hq⟩ : ∃ q, q = (P && (x.take j).all fun b => decide (32 < b.toNat ∧ b.toNat < 127)) := ⟨_, rfl⟩
            have hnx : (P && (x.take (j + 1)).all fun b => decide (32 < b.toNat ∧ b.toNat < 127)) = (q && decide (32 < x[j].toNat ∧ x[j].toNat < 127)) := by
              rw [List.take_succ_eq_append_getElem hjl, List.all_append, ← Bool.and_assoc, ← hq]
              simp
            rw [← hq]
            have HNX := Lib.hid hnx
            clear hnx hq
            rcases q with _ | _
            · go_wp2_with fail
              go_roundg (x.length - j)
              case measure => omega
              case rel => exact ⟨j + 1, by omega, by omega, by go_num, by rw [HNX.out]; rfl, rfl⟩
            · by_cases h32 : 32 < x[j].toNat
              · have h32' : (32 : Int) < ((((⟨x.toArray⟩ : ByteArray)[j]'hkb).toNat : Nat) : Int) := by rw [hbx]; omega
                by_cases h127 : x[j].toNat < 127
                · have h127' : ((((⟨x.toArray⟩ : ByteArray)[j]'hkb).toNat : Nat) : Int) < 127 := by rw [hbx]; omega
                  have hn : (true && decide (32 < x[j].toNat ∧ x[j].toNat < 127)) = true := by simp [h32, h127]
                  rw [hn] at HNX
                  clear hn h32 h127 hbx
                  go_wp2_with fail
                  go_roundg (x.length - j)
                  case measure => omega
                  case rel => exact ⟨j + 1, by omega, by omega, by go_num, by rw [HNX.out], rfl⟩
                · have h127' : ¬ ((((⟨x.toArray⟩ : ByteArray)[j]'hkb).toNat : Nat) : Int) < 127 := by rw [hbx]; omega
                  have hn : (true && decide (32 < x[j].toNat ∧ x[j].toNat < 127)) = false := by simp [h127]
                  rw [hn] at HNX
                  clear hn h32 h127 hbx
                  go_wp2_with fail
                  go_roundg (x.length - j)
                  case measure => omega
                  case rel => exact ⟨j + 1, by omega, by omega, by go_num, by rw [HNX.out], rfl⟩
              · have h32' : ¬ (32 : Int) < ((((⟨x.toArray⟩ : ByteArray)[j]'hkb).toNat : Nat) : Int) := by rw [hbx]; omega
                have hn : (true && decide (32 < x[j].toNat ∧ x[j].toNat < 127)) = false := by simp [h32]
                rw [hn] at HNX
                clear hn h32 hbx
                go_wp2_with fail
                go_roundg (x.length - j)
                case measure => omega
                case rel => exact ⟨j + 1, by omega, by omega, by go_num, by rw [HNX.out], rfl⟩
          · obtain rfl : j = x.length := by omega
            rw [List.take_length]
            have hpw : (P && x.all fun b => decide (32 < b.toNat ∧ b.toNat < 127)) = (ws.take (k + 1)).all plainW := by rw [HALL.out, HP.out]; rfl
            rw [hpw]
            have hq1 := sum_add (P := Tryz.prog) x [32] (x ++ [32]) rfl (by simp; omega)
            have hq2 := sum_add (P := Tryz.prog) (blankW (ws.take k)) (x ++ [32]) (blankW (ws.take (k + 1))) HBT.out (by have := HBL.out; rw [List.length_append]; simp; omega)
            clear hpw
            go_wp2_with fail
            go_roundg (ws.length - k)
            case measure => omega
            case rel => exact ⟨k + 1, by omega, by omega, by go_num, rfl, rfl, HLE2.out (by omega), rfl⟩
    · obtain rfl : k = ws.length := by omega
      rw [List.take_length]
      by_cases h8 : 8 < ws.length
      · have hc : (8 : Int) < (ws.length : Int) := by omega
        clear h8
        go_wp2
        go_ret
        exact ⟨rfl, HB2.out⟩
      · have hc : ¬ ((8 : Int) < (ws.length : Int)) := by omega
        have hbl := blankW_len ws (by have := HLE.out; rwa [List.take_length] at this)
        obtain ⟨sx, hsx⟩ : ∃ sx, sx = blankW ws := ⟨_, rfl⟩
        rw [← hsx] at hbl ⊢
        clear hsx
        rcases hp : ws.all plainW with _ | _
        · clear hp
          go_wp2
          go_ret
          exact ⟨rfl, HB2.out⟩
        · clear hp
          have b0 := HBOX.out.cell 0
          have b1 := HBOX.out.cell 1
          simp at b0 b1
          obtain ⟨V, hVe⟩ : ∃ V, V = n0 % 200000 := ⟨_, rfl⟩
          obtain ⟨C, hCe⟩ : ∃ C, C = n1 % 400000 := ⟨_, rfl⟩
          have t1 : (n0 : Int).tmod 200000 = (V : Int) := by rw [Int.tmod_eq_emod_of_nonneg (by omega)]; omega
          have t2 : (n1 : Int).tmod 400000 = (C : Int) := by rw [Int.tmod_eq_emod_of_nonneg (by omega)]; omega
          have hV9 : V < 200000 := by omega
          have hC9 : C < 400000 := by omega
          have t3 : IntKind.i64.wrap (V : Int) = V := IntWalk.i64_in _ (by omega)
          have t4 : IntKind.i64.wrap (C : Int) = C := IntWalk.i64_in _ (by omega)
          have PAS := Lib.hid (fun (wx : World) (hb : Below w.heap.size w wx) => parse_any sx m wx (by omega) (HE.out.same hb).max)
          have PDS := Lib.hid (fun (wx : World) (hb : Below w.heap.size w wx) => parsed_any sx m wx (by omega) (HE.out.same hb) (HX.out.same hb))
          have HSZ := Lib.hid (fun v cls => @parse_ok_size sx v cls (by omega))
          have HNE := Lib.hid (fun l E => @parse_bad_ne sx l E)
          clear hVe hCe hbl
          go_wp2_with fail
          go_region
          have HIV := Lib.hid (fun (wx : World) (hb : Below w.heap.size w wx) => itoa_any (V : Int) wx (by omega) (by omega) (HE.out.same hb).tab)
          have HIC := Lib.hid (fun (wx : World) (hb : Below w.heap.size w wx) => itoa_any (C : Int) wx (by omega) (by omega) (HE.out.same hb).tab)
          have hl1 := Lib.itoa_length_le (V : Int) (by omega) (by omega)
          have hl2 := Lib.itoa_length_le (C : Int) (by omega) (by omega)
          have hht : headText (V : Int) (C : Int) = [112, 32, 99, 110, 102, 32] ++ Lib.itoa V ++ [32] ++ Lib.itoa C ++ [10] := rfl
          have PH0 := fun (wx : World) (hb : Below w.heap.size w wx) => parse_any (headText (V : Int) (C : Int)) m wx (by rw [hht]; simp only [List.length_append, List.length_cons, List.length_nil]; omega) (HE.out.same hb).max
          have hpr := parse_head (V := (V : Int)) (C := (C : Int)) (by omega) (by omega) (by omega) (by omega)
          rw [hpr] at PH0
          obtain ⟨iv, hiv⟩ : ∃ iv, iv = Lib.itoa (V : Int) := ⟨_, rfl⟩
          obtain ⟨ic, hic⟩ : ∃ ic, ic = Lib.itoa (C : Int) := ⟨_, rfl⟩
          rw [← hiv] at HIV hl1 hht
          rw [← hic] at HIC hl2 hht
          obtain ⟨ht, hht2⟩ : ∃ ht, ht = headText (V : Int) (C : Int) := ⟨_, rfl⟩
          rw [← hht2] at PH0 hht
          have PH := Lib.hid PH0
          obtain ⟨u1, hu1⟩ : ∃ t, t = [112, 32, 99, 110, 102, 32] ++ iv := ⟨_, rfl⟩
          rw [← hu1] at hht
          obtain ⟨u2, hu2⟩ : ∃ t, t = u1 ++ [32] := ⟨_, rfl⟩
          rw [← hu2] at hht
          obtain ⟨u3, hu3⟩ : ∃ t, t = u2 ++ ic := ⟨_, rfl⟩
          rw [← hu3] at hht
          have m1 : u1.length = iv.length + 6 := by rw [hu1, List.length_append]; show 6 + _ = _; omega
          have m2 : u2.length = u1.length + 1 := by rw [hu2]; simp
          have m3 : u3.length = u2.length + ic.length := by rw [hu3]; simp
          have q1 := sum_add (P := Tryz.prog) [112, 32, 99, 110, 102, 32] iv u1 hu1 (by show 6 + _ ≤ _; omega)
          have q2 := sum_add (P := Tryz.prog) u1 [32] u2 hu2 (by show _ + 1 ≤ _; omega)
          have q3 := sum_add (P := Tryz.prog) u2 ic u3 hu3 (by omega)
          have q4 := sum_add (P := Tryz.prog) u3 [10] ht hht (by show _ + 1 ≤ _; omega)
          clear hpr PH0 hiv hic hht2 hht hu1 hu2 hu3 m1 m2 m3 hl1 hl2 b0 b1 t1 t2 t3 t4
          go_wp2_with fail
          refine (HIV.out w2.drew HB2.out.drew).mono ?_
          rintro e w3 ⟨rfl, hb3⟩
          have HB3 := Lib.hid (HB2.out.drew.trans (hb3.mono HB2.out.drew.size))
          clear hb3
          go_wp2_with fail
          refine (HIC.out w3 HB3.out).mono ?_
          rintro e w4 ⟨rfl, hb4⟩
          have HB4 := Lib.hid (HB3.out.trans (hb4.mono HB3.out.size))
          clear hb4 HIV HIC
          go_wp2_with fail
          clear q1 q2 q3 q4
          by_cases hV : 100000 < (V : Int)
          · rw [if_pos (Or.inl hV)] at PH
            refine (PH.out w4 HB4.out).mono ?_
            rintro e w5 ⟨g0, rfl, hg0, hf0, hb5⟩
            have HB5 := Lib.hid (HB4.out.trans (hb5.mono HB4.out.size))
            have HF5 := Lib.hid hf0
            clear hf0 hb5
            go_wp2_with fail
            have IS := is_fault g0 1 8 8 _ (HF5.out.alloc (.cells #[.int .i64 0, .slice none 0 0] 28))
            rw [show ((8 : Int) == 8) = true from rfl] at IS
            refine IS.mono ?_
            clear IS
            rintro e w6 ⟨rfl, rfl⟩
            obtain ⟨wz, hwz⟩ : ∃ wz, wz = w5.alloc (.cells #[.int .i64 0, .slice none 0 0] 28) := ⟨_, rfl⟩
            rw [← hwz]
            have HBZ := Lib.hid (show Below w.heap.size w wz by rw [hwz]; exact HB5.out.alloc HB5.out.size _)
            clear hwz
            go_wp2_with fail
            refine (PDS.out wz HBZ.out).mono ?_
            rcases hR : parseOf sx with ⟨v2, cls2⟩ | ⟨line, err⟩
            · rw [hR] at PAS
              obtain ⟨hsz1, hsz2⟩ := HSZ.out v2 cls2 hR
              have HSZ2 := Lib.hid hsz2
              clear hR hsz2
              rintro e w7 ⟨A7, c7, rfl, hr7, hb7⟩
              have HB7 := Lib.hid (HBZ.out.trans (hb7.mono HBZ.out.size))
              have hz7 := HB7.out.size
              have HR7 := Lib.hid hr7
              clear hb7 hr7
              go_wp2_with fail
              obtain ⟨w8, hw8⟩ : ∃ w8, w8 = w7.alloc (.cells #[.int .i64 v2, .slice A7 cls2.length c7] 28) := ⟨_, rfl⟩
              rw [← hw8]
              have HB8 := Lib.hid (show Below w.heap.size w w8 by rw [hw8]; exact HB7.out.alloc hz7 _)
              have HR8 := Lib.hid (show Rows w8 w7.heap.size A7 cls2 by rw [hw8]; exact HR7.out.alloc (Nat.le_refl _) _)
              have HK8 := Lib.hid (show Blk w8 w7.heap.size 28 #[.int .i64 v2, .slice A7 cls2.length c7] by rw [hw8]; exact Blk.new w7 _ _)
              have hz8 : w7.heap.size < w8.heap.size := HK8.out.lt
              clear hw8
              refine (PAS.out w8 HB8.out).mono ?_
              rintro e w9 ⟨A9, c9, rfl, hr9, hb9⟩
              have HB9 := Lib.hid (HB8.out.trans (hb9.mono HB8.out.size))
              have HR9 := Lib.hid hr9
              have HR79 := Lib.hid (HR8.out.below (hb9.mono (Nat.le_of_lt hz8)))
              have hk9 := HK8.out.below hb9 hz8
              have hz9 := hb9.size
              have HK10 := Lib.hid ((hk9.alloc (.cells #[.int .i64 v2, .slice A9 cls2.length c9] 28)).alloc (.cells #[.pointer none] 38))
              have HG10 := Lib.hid ((Blk.new w9 28 #[.int .i64 v2, .slice A9 cls2.length c9]).alloc (.cells #[.pointer none] 38))
              have f70 := HK10.out.cell 0
              have f71 := HK10.out.cell 1
              have g70 := HG10.out.cell 0
              have g71 := HG10.out.cell 1
              simp at f70 f71 g70 g71
              clear hb9 hr9 hk9
              go_wp2_with fail
              obtain ⟨w10, hw10⟩ : ∃ w10, w10 = (w9.alloc (.cells #[.int .i64 v2, .slice A9 cls2.length c9] 28)).alloc (.cells #[.pointer none] 38) := ⟨_, rfl⟩
              rw [← hw10]
              have HB10 := Lib.hid (show Below w.heap.size w w10 by rw [hw10]; exact (HB9.out.alloc HB9.out.size _).alloc (by have := HB9.out.size; simp; omega) _)
              have hra : Rows w10 w10.heap.size A7 cls2 := by rw [hw10]; exact Rows.more ((HR79.out.alloc (by omega) _).alloc (by simp; omega) _) (by simp; omega)
              have hrb : Rows w10 w10.heap.size A9 cls2 := by rw [hw10]; exact Rows.more ((HR9.out.alloc (Nat.le_refl _) _).alloc (by simp) _) (by simp; omega)
              have SA := same_any v2 v2 cls2 cls2 _ A9 A7 c9 c7 w10 hsz1 HSZ2.out HSZ2.out hrb hra (Nat.le_refl _)
              rw [sameForm_self] at SA
              refine SA.mono ?_
              clear SA hra hrb hw10 f70 f71 g70 g71
              rintro e w11 ⟨rfl, hb11⟩
              have HB11 := Lib.hid (HB10.out.trans (hb11.mono HB10.out.size))
              clear hb11
              go_wp2
              go_ret
              exact ⟨rfl, HB11.out⟩
            · rw [hR] at PAS
              have herr := HNE.out line err hR
              have hq1 : (err != 0) = true := by simpa using herr
              have hq2 : (err == 0) = false := by simpa using herr
              clear hR herr
              rintro e w7 ⟨rfl, hb7⟩
              have HB7 := Lib.hid (HBZ.out.trans (hb7.mono HBZ.out.size))
              have hz7 := HB7.out.size
              clear hb7
              go_wp2_with fail
              obtain ⟨w8, hw8⟩ : ∃ w8, w8 = w7.alloc (.cells #[.int .i64 0, .slice none 0 0] 28) := ⟨_, rfl⟩
              rw [← hw8]
              have HB8 := Lib.hid (show Below w.heap.size w w8 by rw [hw8]; exact HB7.out.alloc hz7 _)
              clear hw8
              refine (PAS.out w8 HB8.out).mono ?_
              rintro e w9 ⟨g, rfl, hg9, hf9, hb9⟩
              have HB9 := Lib.hid (HB8.out.trans (hb9.mono HB8.out.size))
              have hz9 := HB9.out.size
              have HF9 := Lib.hid hf9
              have hgl9 := HF9.out.lt
              clear hb9 hf9
              obtain ⟨wb, hwb⟩ : ∃ wb, wb = w9.alloc (.cells #[.int .i64 0, .slice none 0 0] 28) := ⟨_, rfl⟩
              have hsb : wb.heap.size = w9.heap.size + 1 := by rw [hwb]; simp
              obtain ⟨w10, hw10⟩ : ∃ w10, w10 = wb.alloc (.cells #[.pointer none] 38) := ⟨_, rfl⟩
              have hX10 := Blk.new wb 38 #[.pointer none]
              rw [← hw10, hsb] at hX10
              have HF10 := Lib.hid (show Blk w10 g 43 #[.int .i64 line, .int .i64 err] by rw [hw10, hwb]; exact (HF9.out.alloc _).alloc _)
              have HB10 := Lib.hid (show Below w.heap.size w w10 by rw [hw10, hwb]; exact (HB9.out.alloc hz9 _).alloc (by simp; omega) _)
              have hgl : 0 < w.heap.size := by have := World.block_lt_of_cell? w _ HG.out; simpa using this
              have AS := Lib.hid (as_any ⟨g, 0, none⟩ (w9.heap.size + 1) w10 ((HB10.out.cell (p := ⟨0, 0, none⟩) hgl).trans HG.out) hX10)
              rw [hw10, hwb] at AS
              have HWB := Lib.hid hwb
              have HW10 := Lib.hid hw10
              clear hwb hw10 hX10 hgl hsb
              go_wp2_with fail
              refine AS.out.mono ?_
              rw [← HWB.out, ← HW10.out]
              rintro e w11 ⟨rfl, x0, hb11⟩
              have hf11 := HF10.out.below hb11 (by omega)
              have y0 := hf11.cell 0
              have y1 := hf11.cell 1
              simp at y0 y1
              have HB11 := Lib.hid (HB10.out.trans (hb11.mono (by omega)))
              clear hf11 hb11 AS
              go_wp2
              go_ret
              exact ⟨rfl, HB11.out⟩
          · by_cases hC : 200000 < (C : Int)
            · rw [if_pos (Or.inr hC)] at PH
              refine (PH.out w4 HB4.out).mono ?_
              rintro e w5 ⟨g0, rfl, hg0, hf0, hb5⟩
              have HB5 := Lib.hid (HB4.out.trans (hb5.mono HB4.out.size))
              have HF5 := Lib.hid hf0
              clear hf0 hb5
              go_wp2_with fail
              have IS := is_fault g0 1 8 8 _ (HF5.out.alloc (.cells #[.int .i64 0, .slice none 0 0] 28))
              rw [show ((8 : Int) == 8) = true from rfl] at IS
              refine IS.mono ?_
              clear IS
              rintro e w6 ⟨rfl, rfl⟩
              obtain ⟨wz, hwz⟩ : ∃ wz, wz = w5.alloc (.cells #[.int .i64 0, .slice none 0 0] 28) := ⟨_, rfl⟩
              rw [← hwz]
              have HBZ := Lib.hid (show Below w.heap.size w wz by rw [hwz]; exact HB5.out.alloc HB5.out.size _)
              clear hwz
              go_wp2_with fail
              refine (PDS.out wz HBZ.out).mono ?_
              rcases hR : parseOf sx with ⟨v2, cls2⟩ | ⟨line, err⟩
              · rw [hR] at PAS
                obtain ⟨hsz1, hsz2⟩ := HSZ.out v2 cls2 hR
                have HSZ2 := Lib.hid hsz2
                clear hR hsz2
                rintro e w7 ⟨A7, c7, rfl, hr7, hb7⟩
                have HB7 := Lib.hid (HBZ.out.trans (hb7.mono HBZ.out.size))
                have hz7 := HB7.out.size
                have HR7 := Lib.hid hr7
                clear hb7 hr7
                go_wp2_with fail
                obtain ⟨w8, hw8⟩ : ∃ w8, w8 = w7.alloc (.cells #[.int .i64 v2, .slice A7 cls2.length c7] 28) := ⟨_, rfl⟩
                rw [← hw8]
                have HB8 := Lib.hid (show Below w.heap.size w w8 by rw [hw8]; exact HB7.out.alloc hz7 _)
                have HR8 := Lib.hid (show Rows w8 w7.heap.size A7 cls2 by rw [hw8]; exact HR7.out.alloc (Nat.le_refl _) _)
                have HK8 := Lib.hid (show Blk w8 w7.heap.size 28 #[.int .i64 v2, .slice A7 cls2.length c7] by rw [hw8]; exact Blk.new w7 _ _)
                have hz8 : w7.heap.size < w8.heap.size := HK8.out.lt
                clear hw8
                refine (PAS.out w8 HB8.out).mono ?_
                rintro e w9 ⟨A9, c9, rfl, hr9, hb9⟩
                have HB9 := Lib.hid (HB8.out.trans (hb9.mono HB8.out.size))
                have HR9 := Lib.hid hr9
                have HR79 := Lib.hid (HR8.out.below (hb9.mono (Nat.le_of_lt hz8)))
                have hk9 := HK8.out.below hb9 hz8
                have hz9 := hb9.size
                have HK10 := Lib.hid ((hk9.alloc (.cells #[.int .i64 v2, .slice A9 cls2.length c9] 28)).alloc (.cells #[.pointer none] 38))
                have HG10 := Lib.hid ((Blk.new w9 28 #[.int .i64 v2, .slice A9 cls2.length c9]).alloc (.cells #[.pointer none] 38))
                have f70 := HK10.out.cell 0
                have f71 := HK10.out.cell 1
                have g70 := HG10.out.cell 0
                have g71 := HG10.out.cell 1
                simp at f70 f71 g70 g71
                clear hb9 hr9 hk9
                go_wp2_with fail
                obtain ⟨w10, hw10⟩ : ∃ w10, w10 = (w9.alloc (.cells #[.int .i64 v2, .slice A9 cls2.length c9] 28)).alloc (.cells #[.pointer none] 38) := ⟨_, rfl⟩
                rw [← hw10]
                have HB10 := Lib.hid (show Below w.heap.size w w10 by rw [hw10]; exact (HB9.out.alloc HB9.out.size _).alloc (by have := HB9.out.size; simp; omega) _)
                have hra : Rows w10 w10.heap.size A7 cls2 := by rw [hw10]; exact Rows.more ((HR79.out.alloc (by omega) _).alloc (by simp; omega) _) (by simp; omega)
                have hrb : Rows w10 w10.heap.size A9 cls2 := by rw [hw10]; exact Rows.more ((HR9.out.alloc (Nat.le_refl _) _).alloc (by simp) _) (by simp; omega)
                have SA := same_any v2 v2 cls2 cls2 _ A9 A7 c9 c7 w10 hsz1 HSZ2.out HSZ2.out hrb hra (Nat.le_refl _)
                rw [sameForm_self] at SA
                refine SA.mono ?_
                clear SA hra hrb hw10 f70 f71 g70 g71
                rintro e w11 ⟨rfl, hb11⟩
                have HB11 := Lib.hid (HB10.out.trans (hb11.mono HB10.out.size))
                clear hb11
                go_wp2
                go_ret
                exact ⟨rfl, HB11.out⟩
              · rw [hR] at PAS
                have herr := HNE.out line err hR
                have hq1 : (err != 0) = true := by simpa using herr
                have hq2 : (err == 0) = false := by simpa using herr
                clear hR herr
                rintro e w7 ⟨rfl, hb7⟩
                have HB7 := Lib.hid (HBZ.out.trans (hb7.mono HBZ.out.size))
                have hz7 := HB7.out.size
                clear hb7
                go_wp2_with fail
                obtain ⟨w8, hw8⟩ : ∃ w8, w8 = w7.alloc (.cells #[.int .i64 0, .slice none 0 0] 28) := ⟨_, rfl⟩
                rw [← hw8]
                have HB8 := Lib.hid (show Below w.heap.size w w8 by rw [hw8]; exact HB7.out.alloc hz7 _)
                clear hw8
                refine (PAS.out w8 HB8.out).mono ?_
                rintro e w9 ⟨g, rfl, hg9, hf9, hb9⟩
                have HB9 := Lib.hid (HB8.out.trans (hb9.mono HB8.out.size))
                have hz9 := HB9.out.size
                have HF9 := Lib.hid hf9
                have hgl9 := HF9.out.lt
                clear hb9 hf9
                obtain ⟨wb, hwb⟩ : ∃ wb, wb = w9.alloc (.cells #[.int .i64 0, .slice none 0 0] 28) := ⟨_, rfl⟩
                have hsb : wb.heap.size = w9.heap.size + 1 := by rw [hwb]; simp
                obtain ⟨w10, hw10⟩ : ∃ w10, w10 = wb.alloc (.cells #[.pointer none] 38) := ⟨_, rfl⟩
                have hX10 := Blk.new wb 38 #[.pointer none]
                rw [← hw10, hsb] at hX10
                have HF10 := Lib.hid (show Blk w10 g 43 #[.int .i64 line, .int .i64 err] by rw [hw10, hwb]; exact (HF9.out.alloc _).alloc _)
                have HB10 := Lib.hid (show Below w.heap.size w w10 by rw [hw10, hwb]; exact (HB9.out.alloc hz9 _).alloc (by simp; omega) _)
                have hgl : 0 < w.heap.size := by have := World.block_lt_of_cell? w _ HG.out; simpa using this
                have AS := Lib.hid (as_any ⟨g, 0, none⟩ (w9.heap.size + 1) w10 ((HB10.out.cell (p := ⟨0, 0, none⟩) hgl).trans HG.out) hX10)
                rw [hw10, hwb] at AS
                have HWB := Lib.hid hwb
                have HW10 := Lib.hid hw10
                clear hwb hw10 hX10 hgl hsb
                go_wp2_with fail
                refine AS.out.mono ?_
                rw [← HWB.out, ← HW10.out]
                rintro e w11 ⟨rfl, x0, hb11⟩
                have hf11 := HF10.out.below hb11 (by omega)
                have y0 := hf11.cell 0
                have y1 := hf11.cell 1
                simp at y0 y1
                have HB11 := Lib.hid (HB10.out.trans (hb11.mono (by omega)))
                clear hf11 hb11 AS
                go_wp2
                go_ret
                exact ⟨rfl, HB11.out⟩
            · rw [if_neg (by rintro (hc | hc); exact hV hc; exact hC hc)] at PH
              by_cases hC0 : 0 < (C : Int)
              · rw [if_pos hC0] at PH
                refine (PH.out w4 HB4.out).mono ?_
                rintro e w5 ⟨g0, rfl, hg0, hf0, hb5⟩
                have HB5 := Lib.hid (HB4.out.trans (hb5.mono HB4.out.size))
                have HF5 := Lib.hid hf0
                clear hf0 hb5
                go_wp2_with fail
                have IS := is_fault g0 2 6 6 _ (HF5.out.alloc (.cells #[.int .i64 0, .slice none 0 0] 28))
                rw [show ((6 : Int) == 6) = true from rfl] at IS
                refine IS.mono ?_
                clear IS
                rintro e w6 ⟨rfl, rfl⟩
                obtain ⟨wz, hwz⟩ : ∃ wz, wz = w5.alloc (.cells #[.int .i64 0, .slice none 0 0] 28) := ⟨_, rfl⟩
                rw [← hwz]
                have HBZ := Lib.hid (show Below w.heap.size w wz by rw [hwz]; exact HB5.out.alloc HB5.out.size _)
                clear hwz
                go_wp2_with fail
                refine (PDS.out wz HBZ.out).mono ?_
                rcases hR : parseOf sx with ⟨v2, cls2⟩ | ⟨line, err⟩
                · rw [hR] at PAS
                  obtain ⟨hsz1, hsz2⟩ := HSZ.out v2 cls2 hR
                  have HSZ2 := Lib.hid hsz2
                  clear hR hsz2
                  rintro e w7 ⟨A7, c7, rfl, hr7, hb7⟩
                  have HB7 := Lib.hid (HBZ.out.trans (hb7.mono HBZ.out.size))
                  have hz7 := HB7.out.size
                  have HR7 := Lib.hid hr7
                  clear hb7 hr7
                  go_wp2_with fail
                  obtain ⟨w8, hw8⟩ : ∃ w8, w8 = w7.alloc (.cells #[.int .i64 v2, .slice A7 cls2.length c7] 28) := ⟨_, rfl⟩
                  rw [← hw8]
                  have HB8 := Lib.hid (show Below w.heap.size w w8 by rw [hw8]; exact HB7.out.alloc hz7 _)
                  have HR8 := Lib.hid (show Rows w8 w7.heap.size A7 cls2 by rw [hw8]; exact HR7.out.alloc (Nat.le_refl _) _)
                  have HK8 := Lib.hid (show Blk w8 w7.heap.size 28 #[.int .i64 v2, .slice A7 cls2.length c7] by rw [hw8]; exact Blk.new w7 _ _)
                  have hz8 : w7.heap.size < w8.heap.size := HK8.out.lt
                  clear hw8
                  refine (PAS.out w8 HB8.out).mono ?_
                  rintro e w9 ⟨A9, c9, rfl, hr9, hb9⟩
                  have HB9 := Lib.hid (HB8.out.trans (hb9.mono HB8.out.size))
                  have HR9 := Lib.hid hr9
                  have HR79 := Lib.hid (HR8.out.below (hb9.mono (Nat.le_of_lt hz8)))
                  have hk9 := HK8.out.below hb9 hz8
                  have hz9 := hb9.size
                  have HK10 := Lib.hid ((hk9.alloc (.cells #[.int .i64 v2, .slice A9 cls2.length c9] 28)).alloc (.cells #[.pointer none] 38))
                  have HG10 := Lib.hid ((Blk.new w9 28 #[.int .i64 v2, .slice A9 cls2.length c9]).alloc (.cells #[.pointer none] 38))
                  have f70 := HK10.out.cell 0
                  have f71 := HK10.out.cell 1
                  have g70 := HG10.out.cell 0
                  have g71 := HG10.out.cell 1
                  simp at f70 f71 g70 g71
                  clear hb9 hr9 hk9
                  go_wp2_with fail
                  obtain ⟨w10, hw10⟩ : ∃ w10, w10 = (w9.alloc (.cells #[.int .i64 v2, .slice A9 cls2.length c9] 28)).alloc (.cells #[.pointer none] 38) := ⟨_, rfl⟩
                  rw [← hw10]
                  have HB10 := Lib.hid (show Below w.heap.size w w10 by rw [hw10]; exact (HB9.out.alloc HB9.out.size _).alloc (by have := HB9.out.size; simp; omega) _)
                  have hra : Rows w10 w10.heap.size A7 cls2 := by rw [hw10]; exact Rows.more ((HR79.out.alloc (by omega) _).alloc (by simp; omega) _) (by simp; omega)
                  have hrb : Rows w10 w10.heap.size A9 cls2 := by rw [hw10]; exact Rows.more ((HR9.out.alloc (Nat.le_refl _) _).alloc (by simp) _) (by simp; omega)
                  have SA := same_any v2 v2 cls2 cls2 _ A9 A7 c9 c7 w10 hsz1 HSZ2.out HSZ2.out hrb hra (Nat.le_refl _)
                  rw [sameForm_self] at SA
                  refine SA.mono ?_
                  clear SA hra hrb hw10 f70 f71 g70 g71
                  rintro e w11 ⟨rfl, hb11⟩
                  have HB11 := Lib.hid (HB10.out.trans (hb11.mono HB10.out.size))
                  clear hb11
                  go_wp2
                  go_ret
                  exact ⟨rfl, HB11.out⟩
                · rw [hR] at PAS
                  have herr := HNE.out line err hR
                  have hq1 : (err != 0) = true := by simpa using herr
                  have hq2 : (err == 0) = false := by simpa using herr
                  clear hR herr
                  rintro e w7 ⟨rfl, hb7⟩
                  have HB7 := Lib.hid (HBZ.out.trans (hb7.mono HBZ.out.size))
                  have hz7 := HB7.out.size
                  clear hb7
                  go_wp2_with fail
                  obtain ⟨w8, hw8⟩ : ∃ w8, w8 = w7.alloc (.cells #[.int .i64 0, .slice none 0 0] 28) := ⟨_, rfl⟩
                  rw [← hw8]
                  have HB8 := Lib.hid (show Below w.heap.size w w8 by rw [hw8]; exact HB7.out.alloc hz7 _)
                  clear hw8
                  refine (PAS.out w8 HB8.out).mono ?_
                  rintro e w9 ⟨g, rfl, hg9, hf9, hb9⟩
                  have HB9 := Lib.hid (HB8.out.trans (hb9.mono HB8.out.size))
                  have hz9 := HB9.out.size
                  have HF9 := Lib.hid hf9
                  have hgl9 := HF9.out.lt
                  clear hb9 hf9
                  obtain ⟨wb, hwb⟩ : ∃ wb, wb = w9.alloc (.cells #[.int .i64 0, .slice none 0 0] 28) := ⟨_, rfl⟩
                  have hsb : wb.heap.size = w9.heap.size + 1 := by rw [hwb]; simp
                  obtain ⟨w10, hw10⟩ : ∃ w10, w10 = wb.alloc (.cells #[.pointer none] 38) := ⟨_, rfl⟩
                  have hX10 := Blk.new wb 38 #[.pointer none]
                  rw [← hw10, hsb] at hX10
                  have HF10 := Lib.hid (show Blk w10 g 43 #[.int .i64 line, .int .i64 err] by rw [hw10, hwb]; exact (HF9.out.alloc _).alloc _)
                  have HB10 := Lib.hid (show Below w.heap.size w w10 by rw [hw10, hwb]; exact (HB9.out.alloc hz9 _).alloc (by simp; omega) _)
                  have hgl : 0 < w.heap.size := by have := World.block_lt_of_cell? w _ HG.out; simpa using this
                  have AS := Lib.hid (as_any ⟨g, 0, none⟩ (w9.heap.size + 1) w10 ((HB10.out.cell (p := ⟨0, 0, none⟩) hgl).trans HG.out) hX10)
                  rw [hw10, hwb] at AS
                  have HWB := Lib.hid hwb
                  have HW10 := Lib.hid hw10
                  clear hwb hw10 hX10 hgl hsb
                  go_wp2_with fail
                  refine AS.out.mono ?_
                  rw [← HWB.out, ← HW10.out]
                  rintro e w11 ⟨rfl, x0, hb11⟩
                  have hf11 := HF10.out.below hb11 (by omega)
                  have y0 := hf11.cell 0
                  have y1 := hf11.cell 1
                  simp at y0 y1
                  have HB11 := Lib.hid (HB10.out.trans (hb11.mono (by omega)))
                  clear hf11 hb11 AS
                  go_wp2
                  go_ret
                  exact ⟨rfl, HB11.out⟩
              · rw [if_neg hC0] at PH
                refine (PH.out w4 HB4.out).mono ?_
                rintro e w5 ⟨A5, c5, rfl, hr5, hb5⟩
                have HB5 := Lib.hid (HB4.out.trans (hb5.mono HB4.out.size))
                clear hr5 hb5
                go_wp2_with fail
                obtain ⟨wz, hwz⟩ : ∃ wz, wz = w5.alloc (.cells #[.int .i64 V, .slice A5 0 c5] 28) := ⟨_, rfl⟩
                rw [← hwz]
                have HBZ := Lib.hid (show Below w.heap.size w wz by rw [hwz]; exact HB5.out.alloc HB5.out.size _)
                clear hwz
                refine (PDS.out wz HBZ.out).mono ?_
                rcases hR : parseOf sx with ⟨v2, cls2⟩ | ⟨line, err⟩
                · rw [hR] at PAS
                  obtain ⟨hsz1, hsz2⟩ := HSZ.out v2 cls2 hR
                  have HSZ2 := Lib.hid hsz2
                  clear hR hsz2
                  rintro e w7 ⟨A7, c7, rfl, hr7, hb7⟩
                  have HB7 := Lib.hid (HBZ.out.trans (hb7.mono HBZ.out.size))
                  have hz7 := HB7.out.size
                  have HR7 := Lib.hid hr7
                  clear hb7 hr7
                  go_wp2_with fail
                  obtain ⟨w8, hw8⟩ : ∃ w8, w8 = w7.alloc (.cells #[.int .i64 v2, .slice A7 cls2.length c7] 28) := ⟨_, rfl⟩
                  rw [← hw8]
                  have HB8 := Lib.hid (show Below w.heap.size w w8 by rw [hw8]; exact HB7.out.alloc hz7 _)
                  have HR8 := Lib.hid (show Rows w8 w7.heap.size A7 cls2 by rw [hw8]; exact HR7.out.alloc (Nat.le_refl _) _)
                  have HK8 := Lib.hid (show Blk w8 w7.heap.size 28 #[.int .i64 v2, .slice A7 cls2.length c7] by rw [hw8]; exact Blk.new w7 _ _)
                  have hz8 : w7.heap.size < w8.heap.size := HK8.out.lt
                  clear hw8
                  refine (PAS.out w8 HB8.out).mono ?_
                  rintro e w9 ⟨A9, c9, rfl, hr9, hb9⟩
                  have HB9 := Lib.hid (HB8.out.trans (hb9.mono HB8.out.size))
                  have HR9 := Lib.hid hr9
                  have HR79 := Lib.hid (HR8.out.below (hb9.mono (Nat.le_of_lt hz8)))
                  have hk9 := HK8.out.below hb9 hz8
                  have hz9 := hb9.size
                  have HK10 := Lib.hid ((hk9.alloc (.cells #[.int .i64 v2, .slice A9 cls2.length c9] 28)).alloc (.cells #[.pointer none] 38))
                  have HG10 := Lib.hid ((Blk.new w9 28 #[.int .i64 v2, .slice A9 cls2.length c9]).alloc (.cells #[.pointer none] 38))
                  have f70 := HK10.out.cell 0
                  have f71 := HK10.out.cell 1
                  have g70 := HG10.out.cell 0
                  have g71 := HG10.out.cell 1
                  simp at f70 f71 g70 g71
                  clear hb9 hr9 hk9
                  go_wp2_with fail
                  obtain ⟨w10, hw10⟩ : ∃ w10, w10 = (w9.alloc (.cells #[.int .i64 v2, .slice A9 cls2.length c9] 28)).alloc (.cells #[.pointer none] 38) := ⟨_, rfl⟩
                  rw [← hw10]
                  have HB10 := Lib.hid (show Below w.heap.size w w10 by rw [hw10]; exact (HB9.out.alloc HB9.out.size _).alloc (by have := HB9.out.size; simp; omega) _)
                  have hra : Rows w10 w10.heap.size A7 cls2 := by rw [hw10]; exact Rows.more ((HR79.out.alloc (by omega) _).alloc (by simp; omega) _) (by simp; omega)
                  have hrb : Rows w10 w10.heap.size A9 cls2 := by rw [hw10]; exact Rows.more ((HR9.out.alloc (Nat.le_refl _) _).alloc (by simp) _) (by simp; omega)
                  have SA := same_any v2 v2 cls2 cls2 _ A9 A7 c9 c7 w10 hsz1 HSZ2.out HSZ2.out hrb hra (Nat.le_refl _)
                  rw [sameForm_self] at SA
                  refine SA.mono ?_
                  clear SA hra hrb hw10 f70 f71 g70 g71
                  rintro e w11 ⟨rfl, hb11⟩
                  have HB11 := Lib.hid (HB10.out.trans (hb11.mono HB10.out.size))
                  clear hb11
                  go_wp2
                  go_ret
                  exact ⟨rfl, HB11.out⟩
                · rw [hR] at PAS
                  have herr := HNE.out line err hR
                  have hq1 : (err != 0) = true := by simpa using herr
                  have hq2 : (err == 0) = false := by simpa using herr
                  clear hR herr
                  rintro e w7 ⟨rfl, hb7⟩
                  have HB7 := Lib.hid (HBZ.out.trans (hb7.mono HBZ.out.size))
                  have hz7 := HB7.out.size
                  clear hb7
                  go_wp2_with fail
                  obtain ⟨w8, hw8⟩ : ∃ w8, w8 = w7.alloc (.cells #[.int .i64 0, .slice none 0 0] 28) := ⟨_, rfl⟩
                  rw [← hw8]
                  have HB8 := Lib.hid (show Below w.heap.size w w8 by rw [hw8]; exact HB7.out.alloc hz7 _)
                  clear hw8
                  refine (PAS.out w8 HB8.out).mono ?_
                  rintro e w9 ⟨g, rfl, hg9, hf9, hb9⟩
                  have HB9 := Lib.hid (HB8.out.trans (hb9.mono HB8.out.size))
                  have hz9 := HB9.out.size
                  have HF9 := Lib.hid hf9
                  have hgl9 := HF9.out.lt
                  clear hb9 hf9
                  obtain ⟨wb, hwb⟩ : ∃ wb, wb = w9.alloc (.cells #[.int .i64 0, .slice none 0 0] 28) := ⟨_, rfl⟩
                  have hsb : wb.heap.size = w9.heap.size + 1 := by rw [hwb]; simp
                  obtain ⟨w10, hw10⟩ : ∃ w10, w10 = wb.alloc (.cells #[.pointer none] 38) := ⟨_, rfl⟩
                  have hX10 := Blk.new wb 38 #[.pointer none]
                  rw [← hw10, hsb] at hX10
                  have HF10 := Lib.hid (show Blk w10 g 43 #[.int .i64 line, .int .i64 err] by rw [hw10, hwb]; exact (HF9.out.alloc _).alloc _)
                  have HB10 := Lib.hid (show Below w.heap.size w w10 by rw [hw10, hwb]; exact (HB9.out.alloc hz9 _).alloc (by simp; omega) _)
                  have hgl : 0 < w.heap.size := by have := World.block_lt_of_cell? w _ HG.out; simpa using this
                  have AS := Lib.hid (as_any ⟨g, 0, none⟩ (w9.heap.size + 1) w10 ((HB10.out.cell (p := ⟨0, 0, none⟩) hgl).trans HG.out) hX10)
                  rw [hw10, hwb] at AS
                  have HWB := Lib.hid hwb
                  have HW10 := Lib.hid hw10
                  clear hwb hw10 hX10 hgl hsb
                  go_wp2_with fail
                  refine AS.out.mono ?_
                  rw [← HWB.out, ← HW10.out]
                  rintro e w11 ⟨rfl, x0, hb11⟩
                  have hf11 := HF10.out.below hb11 (by omega)
                  have y0 := hf11.cell 0
                  have y1 := hf11.cell 1
                  simp at y0 y1
                  have HB11 := Lib.hid (HB10.out.trans (hb11.mono (by omega)))
                  clear hf11 hb11 AS
                  go_wp2
                  go_ret
                  exact ⟨rfl, HB11.out⟩
end Go.Proofs.YtnjcegjcaaplgaaGreatDoor
