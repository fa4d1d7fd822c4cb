/- The statement that walks rest where all is satisfied: the walk. -/
import Derived.Test.YtllgepabjglnaaaChosen15
import Derived.Test.YtllgepabjglnaaaOpenArr15
namespace Go.Proofs.Ytllgepabjglnaaa
open Go.RowKit
set_option linter.unusedVariables false
set_option linter.unusedSimpArgs false

theorem norm_one15 {l : Int} (h : l ≠ 0) : normForm [[l]] = [[l]] := by
  have h2 : ¬ -l = l := by omega
  simp [normForm, tautOf, normOf, insU, h2]

set_option maxRecDepth 100000 in
set_option maxHeartbeats 16000000 in
theorem rests15_any (v : Nat) (nss : List (List Int)) (A : Option Addr) (c : Nat) (n0 n1 n2 : Nat) (uv : Nat) (w : World) (hv : v ≤ 255)
    (hx : nss.length ≤ 140737488355328) (hl : ∀ j, (nss.getD j []).length ≤ 140737488355328) (hn : ∀ j k, -32768 ≤ (nss.getD j []).getD k 0 ∧ (nss.getD j []).getD k 0 ≤ 32767) (h : KRows .i16 w w.heap.size A nss)
    (hn0 : n0 < 4294967296) (hn1 : n1 < 4294967296) (hn2 : n2 < 4294967296) (huv : uv ≤ 255) :
    Calls Try.prog 8 #[.agg #[.int .u8 v, .slice A nss.length c], .agg #[.int .u32 (n0 : Nat), .int .u32 (n1 : Nat), .int .u32 (n2 : Nat)], .int .u8 (uv : Nat)] w fun e w' => e = .returned (.bool true) ∧ Below w.heap.size w w' := by
  have H := Lib.hid h
  have HL := Lib.hid hl
  have HN := Lib.hid hn
  clear h hl hn
  go_enter Try.func8, Try.ntmps8
  go_wp2_with fail
  obtain ⟨w1, hw1⟩ : ∃ w1, w1 = (w.alloc (Obj.cells #[Value.int IntKind.u8 v, Value.slice A nss.length c] 24)).alloc (Obj.cells #[Value.int .u32 (n0 : Nat), Value.int .u32 (n1 : Nat), Value.int .u32 (n2 : Nat)] 26) := ⟨_, rfl⟩
  have HR1 := Lib.hid (show KRows .i16 w1 w.heap.size A nss by rw [hw1]; exact (H.out.alloc (Nat.le_refl _) _).alloc (by simp) _)
  have HB1 := Lib.hid (show Below w.heap.size w w1 by rw [hw1]; exact ((Below.refl _ _).alloc (Nat.le_refl _) _).alloc (by simp) _)
  have HK1 := Lib.hid (show Blk w1 w.heap.size 24 #[Value.int IntKind.u8 v, Value.slice A nss.length c] by rw [hw1]; exact (Blk.new w _ _).alloc _)
  have HQ1 := Lib.hid (show Blk w1 (w.heap.size + 1) 26 #[Value.int .u32 (n0 : Nat), Value.int .u32 (n1 : Nat), Value.int .u32 (n2 : Nat)] by rw [hw1]; exact blk_new14 (by simp))
  rw [← hw1]
  clear hw1
  refine (fit_any15 w1).mono ?_
  rintro e w2 ⟨rfl, hb2⟩
  have HR2 := Lib.hid (HR1.out.below (hb2.mono HB1.out.size))
  have HB2 := Lib.hid (HB1.out.trans (hb2.mono HB1.out.size))
  have HK2 := Lib.hid (HK1.out.below hb2 HK1.out.lt)
  have HQ2 := Lib.hid (HQ1.out.below hb2 HQ1.out.lt)
  clear hb2 HR1 HB1 HK1 HQ1
  have k0 := HK2.out.cell 0
  have k1 := HK2.out.cell 1
  simp at k0 k1
  go_wp2_with fail
  refine (light_any v nss _ A c 40 w2 (by omega) hx HL.out HR2.out HB2.out.size).mono ?_
  rintro e w3 ⟨rfl, hb3⟩
  have HR3 := Lib.hid (HR2.out.below (hb3.mono HB2.out.size))
  have HB3 := Lib.hid (HB2.out.trans (hb3.mono HB2.out.size))
  have HK3 := Lib.hid (HK2.out.below hb3 HK2.out.lt)
  have HQ3 := Lib.hid (HQ2.out.below hb3 HQ2.out.lt)
  clear hb3 HR2 HB2 HK2 HQ2 k0 k1
  have k0 := HK3.out.cell 0
  have k1 := HK3.out.cell 1
  simp at k0 k1
  rcases hlt : light nss 40 with _ | _
  · go_wp2
    go_ret
    exact ⟨rfl, HB3.out⟩
  · have hls := light_rows hlt
    have hF : v % (10 + 1) ≤ 10 := by omega
    have hFM := lightForm_rawW14 (F := v % (10 + 1)) (W := 6) (by omega) hlt
    clear hlt
    go_wp2_with fail
    refine (formula_any v nss _ A c 10 6 w3 hv (by omega) (by omega) hls.1 hls.2 HN.out HR3.out HB3.out.size).mono ?_
    obtain ⟨F, hFF⟩ : ∃ F, F = v % (10 + 1) := ⟨_, rfl⟩
    rw [← hFF] at hF hFM ⊢
    clear hFF
    obtain ⟨xss, hxs⟩ : ∃ xss, xss = rawForm F 6 nss := ⟨_, rfl⟩
    rw [← hxs] at hFM ⊢
    have HFM := Lib.hid hFM
    have hx1 := hFM.few
    rintro e w4 ⟨A4, c4, vs4, rfl, hown4, hlist4, hb4⟩
    have HB4 := Lib.hid (HB3.out.trans (hb4.mono HB3.out.size))
    have HQ4 := Lib.hid (HQ3.out.below hb4 HQ3.out.lt)
    have HRO4 := Lib.hid (hlist4.rows hown4)
    clear hFM hown4 hlist4 hb4 k0 k1 hxs HR3 HB3 HK3 hls HQ3 
    have hqa := HQ4.out.alloc (Obj.cells #[Value.int IntKind.i64 F, Value.slice A4 xss.length c4] 32)
    have qa0 := hqa.cell 0
    have qa1 := hqa.cell 1
    have qa2 := hqa.cell 2
    simp at qa0 qa1 qa2
    clear hqa
    go_wp2_with fail
    obtain ⟨w5, hw5⟩ : ∃ w5, w5 = w4.alloc (Obj.cells #[Value.int IntKind.i64 F, Value.slice A4 xss.length c4] 32) := ⟨_, rfl⟩
    have HFB5 := Lib.hid (show Blk w5 w4.heap.size 32 #[Value.int IntKind.i64 F, Value.slice A4 xss.length c4] by rw [hw5]; exact Blk.new w4 _ _)
    have HRO5 := Lib.hid (show Rows w5 w4.heap.size A4 xss by rw [hw5]; exact HRO4.out.alloc (Nat.le_refl _) _)
    have HB5 := Lib.hid (show Below w.heap.size w w5 by rw [hw5]; exact HB4.out.alloc HB4.out.size _)
    have HQ5 := Lib.hid (show Blk w5 (w.heap.size + 1) 26 #[Value.int .u32 (n0 : Nat), Value.int .u32 (n1 : Nat), Value.int .u32 (n2 : Nat)] by rw [hw5]; exact HQ4.out.alloc _)
    have hs5 : w4.heap.size + 1 ≤ w5.heap.size := by rw [hw5]; simp
    have hs4 := HB4.out.size
    rw [← hw5]
    clear hw5 HRO4 HB4 HQ4 qa0 qa1 qa2
    have e8 := wrap_u8_15 n1
    have e16 := wrap_u16_15 n2
    refine (way_any15 (n1 % 256) (n2 % 65536) (by omega) (by omega) w5).mono ?_
    rintro e w6 ⟨rfl, hb6⟩
    have hyok := wayOf_ok (n1 % 256) (n2 % 65536)
    obtain ⟨y, hy⟩ : ∃ y, wayOf (n1 % 256) (n2 % 65536) = y := ⟨_, rfl⟩
    rw [hy] at hyok ⊢
    have HY := Lib.hid hyok
    unfold wayV
    obtain ⟨k1, hk1⟩ : ∃ k1, y.kind = k1 := ⟨_, rfl⟩
    obtain ⟨k2, hk2⟩ : ∃ k2, y.base = k2 := ⟨_, rfl⟩
    obtain ⟨k3, hk3⟩ : ∃ k3, y.nz = k3 := ⟨_, rfl⟩
    rw [hk1, hk2, hk3]
    have HWV : Hid (wayV y = .agg #[.int .i64 (k1 : Nat), .int .i64 (k2 : Nat), .int .i64 (k3 : Nat)]) := Lib.hid (by unfold wayV; rw [hk1, hk2, hk3])
    have hs6 := hb6.size
    have HB56 := Lib.hid hb6
    clear hy hyok hk1 hk2 hk3 hb6 e8 e16
    have hfa := (HFB5.out.below HB56.out HFB5.out.lt).alloc (Obj.cells #[Value.int .i64 (k1 : Nat), Value.int .i64 (k2 : Nat), Value.int .i64 (k3 : Nat)] 41)
    have hqa := (HQ5.out.below HB56.out HQ5.out.lt).alloc (Obj.cells #[Value.int .i64 (k1 : Nat), Value.int .i64 (k2 : Nat), Value.int .i64 (k3 : Nat)] 41)
    have f0 := hfa.cell 0
    have q0 := hqa.cell 0
    simp at f0 q0
    clear hfa hqa
    go_wp2_with fail
    obtain ⟨wa, hwa⟩ : ∃ wa, wa = w6.alloc (Obj.cells #[Value.int .i64 (k1 : Nat), Value.int .i64 (k2 : Nat), Value.int .i64 (k3 : Nat)] 41) := ⟨_, rfl⟩
    have HYB := Lib.hid (show Blk wa w6.heap.size 41 #[Value.int .i64 (k1 : Nat), Value.int .i64 (k2 : Nat), Value.int .i64 (k3 : Nat)] by rw [hwa]; exact Blk.new w6 _ _)
    have hb5a : Below w5.heap.size w5 wa := by rw [hwa]; exact HB56.out.alloc HB56.out.size _
    have hsa : w6.heap.size + 1 ≤ wa.heap.size := by rw [hwa]; simp
    rw [← hwa]
    clear hwa f0 q0
    have HFBa := Lib.hid (HFB5.out.below hb5a HFB5.out.lt)
    have HROa := Lib.hid (HRO5.out.below (hb5a.mono (by omega)))
    have hB5 := HB5.out.size
    have HBa := Lib.hid (HB5.out.trans (hb5a.mono hB5))
    clear hb5a HFB5 HRO5 HQ5 HB56
    refine (start_any F (n0 : Int) wa (by omega) (by omega)).mono ?_
    rintro e wb ⟨rfl, hkb, hbb⟩
    have HKA := Lib.hid hkb
    have hka := hkb.lt
    have hsb := hbb.size
    have HFBb := Lib.hid (HFBa.out.below hbb HFBa.out.lt)
    have HROb := Lib.hid (HROa.out.below (hbb.mono (by omega)))
    have HYBb := Lib.hid (HYB.out.below hbb HYB.out.lt)
    have HBb := Lib.hid (HBa.out.trans (hbb.mono HBa.out.size))
    clear hkb hbb HFBa HROa HYB HBa
    have hzl := startZ_len F (n0 : Int)
    obtain ⟨z, hz⟩ : ∃ z, startZ F (n0 : Int) = z := ⟨_, rfl⟩
    rw [hz] at HKA hzl
    have HZL := Lib.hid hzl
    clear hz hzl
    have f0 := HFBb.out.cell 0
    have f1 := HFBb.out.cell 1
    simp at f0 f1
    obtain ⟨iR, hiR, hr0, hr1, hr2⟩ := info_parts infoR14
    have HII := Lib.hid (And.intro hiR (And.intro hr0 (And.intro hr1 hr2)))
    clear hiR hr0 hr1 hr2
    go_wp2
    go_loopg [10, 41] (xss.length + 1) (fun gk tk ti wr => ∃ (j : Nat) (Ak : Option Addr) (ck : Nat) (kept : List (List Int)) (vs : List Value), j ≤ xss.length ∧ gk = xss.length - j + 1 ∧ ti = .int .i64 (j : Nat) ∧ tk = .slice Ak kept.length ck ∧ kept.length ≤ j ∧ Hid (kept = (xss.take j).filter (clauseSat z) ∧ wr.ownsRow wb.heap.size 48 1 (.slice Ak kept.length ck) kept.length vs ∧ (∀ i, i < kept.length → ∃ Ai ci, vs[i]? = some (.slice Ai (kept.getD i []).length ci) ∧ Ints wr w4.heap.size Ai (kept.getD i [])) ∧ Below wb.heap.size wb wr))
    case atStart => exact ⟨0, none, 0, [], [], by omega, by omega, rfl, rfl, Nat.le_refl _, Lib.hid ⟨by simp, World.ownsRow_nil _ _ _ _, (fun i hi => absurd hi (Nat.not_lt_zero i)), Below.refl _ _⟩⟩
    case round =>
      obtain ⟨j, Ak, ck, kept, vs, hj, rfl, rfl, rfl, hkl, HK⟩ := hrel
      by_cases hlt : j < xss.length
      · have hrow := HROb.out.below (w' := wr) (HK.out.2.2.2.mono (by omega))
        obtain ⟨bq, off, Ai, ci, hA, hbB, hci, hii⟩ := Rows.at_ hrow hlt
        have hfb := HFBb.out.below HK.out.2.2.2 HFBb.out.lt
        have f0 := hfb.cell 0
        simp at f0
        have htk : (xss.take (j + 1)).filter (clauseSat z) = kept ++ if clauseSat z (xss.getD j []) = true then [xss.getD j []] else [] := by
          rw [List.take_succ_eq_append_getElem hlt, List.filter_append, ← HK.out.1]
          congr 1
          simp [List.getD, hlt, List.filter_cons]
        have hlen := HFM.out.len j
        have hbd := HFM.out.bd j
        obtain ⟨cl, hcl⟩ : ∃ cl, xss.getD j [] = cl := ⟨_, rfl⟩
        rw [hcl] at hci hii htk hlen
        simp only [hcl] at hbd
        have HIC := Lib.hid hii
        have hsr := HK.out.2.2.2.size
        obtain ⟨w8, hw8⟩ : ∃ w8, w8 = wr.alloc (Obj.cells #[Value.slice Ai cl.length ci] 48) := ⟨_, rfl⟩
        have hb8 : Below wr.heap.size wr w8 := by rw [hw8]; exact (Below.refl _ _).alloc (Nat.le_refl _) _
        have hdh := docholds_any (F : Int) [cl] w8.heap.size w8.heap.size (some ⟨wr.heap.size, 0, none⟩) (some ⟨wa.heap.size, 0, none⟩) z 1 F w8 (by simp) (fun j => by match j with | 0 => simpa using (by omega) | j + 1 => simp)
          (fun j k => by match j with | 0 => (have := hbd k; simpa [HZL.out] using this) | j + 1 => simp) (by rw [HZL.out]; omega)
          (by rw [hw8]; exact rows_blk4 (vs := [Value.slice Ai cl.length ci]) (Blk.new wr 48 _) (by simp) (fun j hj => by match j, hj with | 0, _ => exact ⟨Ai, ci, rfl, Cells.more (Cells.alloc HIC.out (by omega) _) (by simp; omega)⟩))
          (BlkB.bools (show BlkB w8 wa.heap.size 4 z from Blk.below (Blk.below HKA.out HK.out.2.2.2 (by omega)) hb8 (by omega))) (Nat.le_refl _) (Nat.le_refl _)
        have hfs : formSat z [cl] = clauseSat z cl := by simp [formSat]
        rw [hfs, HZL.out, List.length_singleton] at hdh
        obtain ⟨bz, hbz⟩ : ∃ bz, clauseSat z cl = bz := ⟨_, rfl⟩
        rw [hbz] at hdh htk
        have HDH := Lib.hid hdh
        have HTK := Lib.hid htk
        have HB8 := Lib.hid hb8
        have HLB := Lib.hid (And.intro hlen hbd)
        have hs8 : wr.heap.size + 1 ≤ w8.heap.size := by rw [hw8]; simp
        subst hA
        clear hrow hii hfb htk hlen hbd hcl hdh hfs hbz hb8
        rcases bz with _ | _
        · go_wp2_with fail
          rw [← hw8]
          with_reducible refine HDH.out.mono ?_
          rintro e w9 ⟨rfl, hb9⟩
          have hb := HB8.out.trans (hb9.mono HB8.out.size)
          have HX := Lib.hid (show kept = (xss.take (j + 1)).filter (clauseSat z) ∧ w9.ownsRow wb.heap.size 48 1 (.slice Ak kept.length ck) kept.length vs ∧ (∀ i, i < kept.length → ∃ Ai ci, vs[i]? = some (.slice Ai (kept.getD i []).length ci) ∧ Ints w9 w4.heap.size Ai (kept.getD i [])) ∧ Below wb.heap.size wb w9 from ⟨by rw [HTK.out]; simp, own_below HK.out.2.1 hb fun q hq => (HK.out.2.1.lt q hq).2, fun i hi => by
            obtain ⟨Ai, ci, h1, h2⟩ := HK.out.2.2.1 i hi
            exact ⟨Ai, ci, h1, Cells.keep h2 fun p hp => hb.cell (by omega)⟩, HK.out.2.2.2.trans (hb.mono hsr)⟩)
          clear hb9 hb hw8 f0 hci
          go_wp2
          go_roundg (xss.length - j)
          case measure => omega
          case rel => exact ⟨j + 1, Ak, ck, kept, vs, by omega, by omega, by go_num, rfl, by omega, HX⟩
        · go_wp2_with fail
          rw [← hw8]
          with_reducible refine HDH.out.mono ?_
          rintro e w9 ⟨rfl, hb9⟩
          have hb := HB8.out.trans (hb9.mono HB8.out.size)
          have HOA := Lib.hid (own_below HK.out.2.1 (hb.alloc (by have := hb.size; omega) (Obj.cells #[Value.slice Ai cl.length ci] 48)) fun q hq => (HK.out.2.1.lt q hq).2)
          have HBX := Lib.hid (show (w9.alloc (Obj.cells #[Value.slice Ai cl.length ci] 48)).cell? ⟨w9.heap.size, 0, none⟩ = some (.slice Ai cl.length ci) by rw [Blk.cell (Blk.new w9 48 #[Value.slice Ai cl.length ci]) 0]; rfl)
          have hxl := HFM.out.few
          have hm1 : kept.length + 1 ≤ maxLen := by unfold maxLen; omega
          have hm2 : (kept.length + 1) * 24 ≤ 140737488355328 := by omega
          have hs9 := hb.size
          have hm3 : wb.heap.size ≤ (w9.alloc (Obj.cells #[Value.slice Ai cl.length ci] 48)).heap.size := by simp; omega
          have HM := Lib.hid (And.intro hm1 (And.intro hm2 hm3))
          have HB9 := Lib.hid hb
          clear hb9 hb hw8 f0 hci hm1 hm2 hm3
          go_wp2_with (at_builtin; refine wpList_append1 _ rfl _ _ 30 rfl wb.heap.size 48 iR (.slice none 0 0) 24 Try.underlying30 HII.out.1 HII.out.2.1 HII.out.2.2.1 HII.out.2.2.2 rfl (.slice Ak kept.length ck) kept.length _ rfl HOA.out (.slice Ai cl.length ci) w9.heap.size rfl HBX.out rfl HM.out.1 HM.out.2.1 HM.out.2.2 ?_)
          intro v' wz hown3 hg3 hat3
          obtain ⟨A3, c3, rfl, -⟩ := own_slice hown3
          have hbz : Below wr.heap.size wr wz ∨ True := .inr trivial
          have HX := Lib.hid (And.intro hown3 (And.intro hg3 hat3))
          clear hown3 hg3 hat3 hbz
          go_wp2
          go_roundg (xss.length - j)
          case measure => omega
          case rel =>
            have hbel : Below wb.heap.size wb wz := ((HK.out.2.2.2.trans (HB9.out.mono hsr)).alloc (by omega) _).grown HX.out.2.1 (by simp; omega) fun q hq => (HK.out.2.1.lt q hq).1
            refine ⟨j + 1, A3, c3, kept ++ [cl], _, by omega, by omega, by go_num, by simp, by simp; omega, Lib.hid ⟨by rw [HTK.out]; simp, by simpa using HX.out.1, fun i hi => ?_, hbel⟩⟩
            have hlv : vs.length = kept.length := by have := HK.out.2.1.1; omega
            have hkp : ∀ (A : Option Addr) (l : List Int), Ints wb w4.heap.size A l → Ints wz w4.heap.size A l := fun A l h => Cells.keep h fun p hp => hbel.cell (by omega)
            simp at hi
            rcases Nat.lt_or_ge i kept.length with hl | hl
            · obtain ⟨A1, c1, h1, h2⟩ := HK.out.2.2.1 i hl
              refine ⟨A1, c1, ?_, ?_⟩
              · rw [List.getElem?_append_left (by omega), h1]
                simp [List.getD, hl, List.getElem?_append_left hl]
              · have : (kept ++ [cl]).getD i [] = kept.getD i [] := by simp [List.getD, List.getElem?_append_left hl]
                rw [this]
                exact hkp _ _ (Cells.keep h2 fun p hp => (HK.out.2.2.2.cell (by omega)).symm)
            · have hie : i = kept.length := by omega
              subst hie
              refine ⟨Ai, ci, ?_, ?_⟩
              · rw [List.getElem?_append_right (by omega), hlv]
                simp [List.getD]
              · have : (kept ++ [cl]).getD kept.length [] = cl := by simp [List.getD]
                rw [this]
                exact hkp _ _ (Cells.keep HIC.out fun p hp => (HK.out.2.2.2.cell (by omega)).symm)
      · have hje : xss.length = j := by omega
        subst hje
        obtain ⟨wq, hwq⟩ : ∃ wq, wq = wr := ⟨_, rfl⟩
        subst hwq
        have hkf : kept = xss.filter (clauseSat z) := by have := HK.out.1; rwa [List.take_length] at this
        have hlk : LightForm F kept := ⟨by have := HFM.out.few; omega, fun c hc => HFM.out.short c (by rw [hkf] at hc; exact (List.mem_filter.1 hc).1), fun c hc => HFM.out.lits c (by rw [hkf] at hc; exact (List.mem_filter.1 hc).1)⟩
        have hun0 : unsN (normForm kept) z = 0 := by
          have h1 : formSat z (normForm kept) = formSat z kept := norm_sat fun c hc l hl => by
            have := hlk.lits c hc l hl
            rw [HZL.out]
            exact this
          have h2 : formSat z kept = true := by
            unfold formSat
            rw [List.all_eq_true]
            intro c hc
            rw [hkf] at hc
            exact (List.mem_filter.1 hc).2
          rw [h2] at h1
          unfold unsN
          rw [List.length_eq_zero_iff, List.filter_eq_nil_iff]
          intro c hc
          have := (List.all_eq_true.1 h1) c hc
          simp [this]
        have hrk : Rows wq wq.heap.size Ak kept := fun hn => by
          obtain ⟨g, eA, h1, h2⟩ := own_addr HK.out.2.1 hn
          refine ⟨g, 0, eA, h2, fun i hi => ?_⟩
          obtain ⟨Ai, ci, v1, v2⟩ := HK.out.2.2.1 i hi
          have ho := HK.out.2.1
          rw [eA] at ho
          have hc := World.ownsRow.cellAt ho i (by omega)
          exact ⟨Ai, ci, by rw [Nat.zero_add, hc, v1], Cells.more v2 (by have := HK.out.2.2.2.size; omega)⟩
        have hbq := HK.out.2.2.2
        have hsq := hbq.size
        have hfb := HFBb.out.below hbq HFBb.out.lt
        have hkq : BlkB wq wa.heap.size 4 z := Blk.below HKA.out hbq hka
        have hyq := HYBb.out.below hbq (by have := HYBb.out.lt; omega)
        have HRN := Lib.hid (show Calls Try.prog 15 #[.slice none 0 0, .int .u64 7] wq _ from rng_new (w := wq) (B := 0) (A := none) (c := 0) (ws := []) ⟨Cells.nil_, Nat.le_refl _, by simp, by simp⟩ (Nat.zero_le _) 7 (by decide))
        have HQ := Lib.hid (And.intro hfb (And.intro hkq (And.intro hyq hrk)))
        have HLK := Lib.hid (And.intro hlk hun0)
        have HBQ := Lib.hid (HBb.out.trans (hbq.mono HBb.out.size))
        have hfl := hfb.lt
        have hyl := hyq.lt
        have hkl2 := Blk.lt hkq
        clear hkf hlk hun0 hrk hbq hfb hkq hyq hlt hj HK
        go_wp2_with fail
        refine HRN.out.mono ?_
        rintro e wc ⟨r, rfl, hsr, hbc⟩
        have hsc := hbc.size
        have hrl := hsr.low
        have hru := hsr.lt
        have hfb := HQ.out.1.below hbc hfl
        have hkc : BlkB wc wa.heap.size 4 z := Blk.below HQ.out.2.1 hbc hkl2
        have hyc := HQ.out.2.2.1.below hbc hyl
        have f0 := hfb.cell 0
        have e0 := hyc.cell 0
        have e1 := hyc.cell 1
        have e2 := hyc.cell 2
        simp at f0 e0 e1 e2
        have hwk := walk_any15 F kept z wc.heap.size wq.heap.size r Ak (some ⟨wa.heap.size, 0, none⟩) ck F wc (y := y) (sg := ⟨[], seedOf 7⟩) 100 (by omega) (by omega) HLK.out.1 (Rows.more (Rows.keep HQ.out.2.2.2 fun p hp => hbc.cell hp) hsc) (BlkB.bools hkc |> fun h => by have := h; unfold Bools at this; exact this) (Nat.le_refl _) HZL.out hsr HY.out
        rw [HWV.out, HZL.out] at hwk
        have HWK := Lib.hid hwk
        have HC := Lib.hid (And.intro hfb (And.intro hkc (And.intro hyc hbc)))
        clear hwk hsr hbc hfb hkc hyc HRN
        go_wp2_with fail
        refine HWK.out.mono ?_
        rintro e wd ⟨A', c', few, z', rfl, hp⟩
        have hrow : (startLS z (normForm kept)).row = [] := by
          have h1 := row_uns hp.g0.1 hp.g0.2.1
          rw [hp.g0.2.2, HLK.out.2] at h1
          exact List.eq_nil_of_length_eq_zero h1
        have hrun := runF_end y (Int.toNat 100) (c := ⟨z, startLS z (normForm kept), ⟨[], seedOf 7⟩⟩) hrow
        have hfew : few = 0 := by have := hp.first; rw [HLK.out.2] at this; omega
        have hsm := hp.sm
        rw [hrun] at hsm ⊢
        subst hfew
        have hfd := hp.ft
        have hsd := hfd.size
        have hrd := hsm.lt
        have HD := Lib.hid (And.intro hsm (And.intro (hfd.blk HC.out.1 (by omega)) (And.intro (show BlkB wd wa.heap.size 4 z from hfd.blk HC.out.2.1 (by omega)) (hfd.blk HC.out.2.2.1 (by omega)))))
        have HBD := Lib.hid ((HBQ.out.trans (HC.out.2.2.2.mono HBQ.out.size)).trans (hfd.below (by have := HBQ.out.size; omega) fun q e => by have := HBQ.out.size; omega))
        clear hp hrow hrun hsm hfd HWK f0 e0 e1 e2
        have hfa := HD.out.2.1.alloc (Obj.cells #[Value.slice A' F c', Value.int .i64 0, Value.int .i64 0] 57)
        have f0 := hfa.cell 0
        simp at f0
        clear hfa
        have HDRA := Lib.hid (rng_drawn (HD.out.1.below (w' := wd.alloc (Obj.cells #[Value.slice A' F c', Value.int .i64 0, Value.int .i64 0] 57)) (B' := wd.heap.size) ((Below.refl _ _).alloc (Nat.le_refl _) _) hrd))
        go_wp2_with fail
        obtain ⟨wg, hwg⟩ : ∃ wg, wg = wd.alloc (Obj.cells #[Value.slice A' F c', Value.int .i64 0, Value.int .i64 0] 57) := ⟨_, rfl⟩
        have hbg : Below wd.heap.size wd wg := by rw [hwg]; exact (Below.refl _ _).alloc (Nat.le_refl _) _
        have HKr : Hid (Blk wg wd.heap.size 57 #[Value.slice A' F c', Value.int .i64 0, Value.int .i64 0]) := Lib.hid (by rw [hwg]; exact Blk.new _ _ _)
        rw [← hwg] at HDRA f0 ⊢
        clear hwg
        have d0 := HKr.out.cell 0
        simp at d0
        have HSg := Lib.hid (HD.out.1.below hbg hrd)
        have HKg := Lib.hid (show BlkB wg wa.heap.size 4 z from Blk.below HD.out.2.2.1 hbg (by omega))
        have HYg := Lib.hid (HD.out.2.2.2.below hbg (by omega))
        have HFg := Lib.hid (HD.out.2.1.below hbg (by omega))
        have HBg := Lib.hid (HBD.out.trans (hbg.mono HBD.out.size))
        have hsg := hbg.size
        clear hbg
        refine HDRA.out.mono ?_
        rintro e wg2 ⟨rfl, rfl⟩
        by_cases hF0 : F = 0
        · have hFz : ((F : Int) == 0) = true := by simp; omega
          go_wp2
          go_ret
          exact ⟨rfl, HBg.out⟩
        · have hFz : ((F : Int) == 0) = false := by simp; omega
          have hF1 : (F : Int) ≠ 0 := by omega
          obtain ⟨x, hx⟩ : ∃ x : Nat, (uv : Int) % (F : Int) = (x : Int) := ⟨uv % F, by omega⟩
          have hxF : x < F := by
            have := Int.emod_lt_of_pos (uv : Int) (show (0 : Int) < (F : Int) by omega)
            omega
          have hxI : 1 + (x : Int) = (x : Int) + 1 := by omega
          have hxFI : (x : Int) < (F : Int) := by omega
          have cz := BlkB.cell HKg.out (i := x) (by rw [HZL.out]; exact hxF)
          have hhx : hol z ((x : Int) + 1) = z.getD x false := by
            have := hol_pos (z := z) (v := x + 1) (by omega) (by rw [HZL.out]; omega)
            simpa using this
          have hhn : hol z (-((x : Int) + 1)) = !z.getD x false := by
            have := hol_neg (z := z) (v := x + 1) (by omega) (by rw [HZL.out]; omega)
            simpa using this
          obtain ⟨bz, hbz⟩ : ∃ bz, z.getD x false = bz := ⟨_, rfl⟩
          rw [hbz] at cz hhx hhn
          clear hbz
          rcases bz with _ | _
          · have hhol : hol z ((x : Int) + 1) = false := hhx
            go_upto_region 24 with fail
            obtain ⟨l, hl⟩ : ∃ l : Int, (x : Int) + 1 = l := ⟨_, rfl⟩
            rw [hl] at hhol ⊢
            have hlb : 1 ≤ l ∧ l ≤ F := by omega
            clear hhx hhn hl hxI hx cz
            have hl0 : l ≠ 0 := by omega
            have hln : l.natAbs ≤ z.length := by rw [HZL.out]; omega
            have hlf : LightForm F [[l]] := ⟨by simp, fun c hc => by simp at hc; subst hc; simp, fun c hc m hm => by simp at hc; subst hc; simp at hm; subst hm; rw [← HZL.out]; omega⟩
            obtain ⟨wh, hwh⟩ : ∃ wh, wh = (wg.alloc (Obj.cells #[Value.int .i64 l] 3)).alloc (Obj.cells #[Value.slice (some ⟨wg.heap.size, 0, none⟩) 1 1] 48) := ⟨_, rfl⟩
            have hbh : Below wg.heap.size wg wh := by rw [hwh]; exact ((Below.refl _ _).alloc (Nat.le_refl _) _).alloc (by simp) _
            have hsh : wg.heap.size + 1 + 1 ≤ wh.heap.size := by rw [hwh]; simp
            have hb1 : Blk wh wg.heap.size 3 (([l] : List Int).map (Value.int .i64)).toArray := by rw [hwh]; exact (Blk.new wg _ _).alloc _
            have hb2 : Blk wh (wg.heap.size + 1) 48 ([Value.slice (some ⟨wg.heap.size, 0, none⟩) 1 1] : List Value).toArray := by rw [hwh]; exact blk_new14 (by simp)
            have hRl : Rows wh wh.heap.size (some ⟨wg.heap.size + 1, 0, none⟩) [[l]] := rows_blk4 hb2 (by omega) fun j hj => by
              obtain rfl : j = 0 := by simp at hj; omega
              exact ⟨_, 1, rfl, ints_blk4 hb1 (by omega)⟩
            have hnew := st_new F [[l]] z wh.heap.size (some ⟨wg.heap.size + 1, 0, none⟩) (some ⟨wa.heap.size, 0, none⟩) 1 F wh (by omega) hlf hRl (BlkB.bools (show BlkB wh wa.heap.size 4 z from Blk.below HKg.out hbh (by have := Blk.lt HKg.out; omega)) |> fun h => by have := h; unfold Bools at this; exact this) (Nat.le_refl _) HZL.out
            rw [norm_one15 hl0, HZL.out, List.length_singleton] at hnew
            have HNEW := Lib.hid hnew
            have HBH := Lib.hid hbh
            have HHL := Lib.hid (And.intro hl0 (And.intro hln hhol))
            clear hlf hb1 hb2 hRl hnew hbh hl0 hln hhol
            go_wp2_with fail
            rw [← hwh]
            clear hwh
            with_reducible refine HNEW.out.mono ?_
            rintro e wi ⟨ρ, gs, s1, rfl, hst, hs1, hbi⟩
            subst hs1
            obtain ⟨u1, u2, u3⟩ := unit_step15 (y := y) (c := ⟨z, startLS z [[l]], ⟨[], seedOf 7⟩⟩) hst.good hst.at_ hst.cls HHL.out.2.2 HHL.out.1 HHL.out.2.1
            have hbgi := HBH.out.trans (hbi.mono HBH.out.size)
            have hsi := hbi.size
            have hstep := wstep_any15 (c := ⟨z, startLS z [[l]], ⟨[], seedOf 7⟩⟩) (d := 0) (Bs := wq.heap.size) (r := r) (y := y) hst (Nat.zero_le _) (HSg.out.below hbgi HSg.out.lt) (Nat.zero_le _) (fun q hq => .inr (by have := hst.lo q hq; have := HSg.out.lt; omega)) HY.out
            rw [HWV.out, u2] at hstep
            have HSTEP := Lib.hid hstep
            have hyb := HYg.out.below hbgi HYg.out.lt
            have e0 := hyb.cell 0
            have e1 := hyb.cell 1
            have e2 := hyb.cell 2
            simp at e0 e1 e2
            have HROW : Hid ((stepC y ⟨z, startLS z [[l]], ⟨[], seedOf 7⟩⟩).s.row.length = 0) := Lib.hid (by
              have hf := flipV_spec hst.good hst.at_ (litVar l)
              have : (stepC y ⟨z, startLS z [[l]], ⟨[], seedOf 7⟩⟩).s.row = [] := by
                show (flipV (startLS z [[l]]) z (stepV y ⟨z, startLS z [[l]], ⟨[], seedOf 7⟩⟩).1).row = []
                rw [u2]
                exact u3 _ hf.1 hf.2.1 (hf.2.2.trans hst.cls)
              rw [this]; rfl)
            have HBGI := Lib.hid (And.intro hbgi hst.lo)
            obtain ⟨lv, hlv⟩ : ∃ lv, litVar l = lv := ⟨_, rfl⟩
            have hmx : max l (-l) = lv := by rw [← hlv]; unfold litVar; split <;> omega
            have hw64 : wrap64 (-l) = -l := by unfold wrap64; omega
            have hwi : IntKind.i64.wrap (-l) = -l := IntWalk.i64_in _ (by omega)
            rw [hlv] at HSTEP
            clear hst hbi hstep hyb u1 u2 u3 hbgi hlv HNEW
            go_wp2_with fail
            refine HSTEP.out.mono ?_
            rintro e wj ⟨rfl, ρ', b', hp', _⟩
            have hun := st_unsat hp'.st
            rw [HROW.out] at hun
            have HUN := Lib.hid hun
            have HBJ := Lib.hid (show Below w.heap.size w wj from (HBg.out.trans (HBGI.out.1.mono (by omega))).trans (hp'.ft.below (by have := HBGI.out.1.size; omega) fun q e => by
              rcases e with e | e
              · have := HBGI.out.2 q e; omega
              · omega))
            clear hun hp'
            go_wp2_with fail
            refine HUN.out.mono ?_
            rintro e wk ⟨rfl, rfl⟩
            go_wp2
            go_ret
            exact ⟨rfl, HBJ.out⟩
          · have hhol : hol z (-((x : Int) + 1)) = false := hhn
            go_upto_region 24 with fail
            obtain ⟨l, hl⟩ : ∃ l : Int, -((x : Int) + 1) = l := ⟨_, rfl⟩
            rw [hl] at hhol ⊢
            have hlb : -(F : Int) ≤ l ∧ l ≤ -1 := by omega
            clear hhx hhn hl hxI hx cz
            have hl0 : l ≠ 0 := by omega
            have hln : l.natAbs ≤ z.length := by rw [HZL.out]; omega
            have hlf : LightForm F [[l]] := ⟨by simp, fun c hc => by simp at hc; subst hc; simp, fun c hc m hm => by simp at hc; subst hc; simp at hm; subst hm; rw [← HZL.out]; omega⟩
            obtain ⟨wh, hwh⟩ : ∃ wh, wh = (wg.alloc (Obj.cells #[Value.int .i64 l] 3)).alloc (Obj.cells #[Value.slice (some ⟨wg.heap.size, 0, none⟩) 1 1] 48) := ⟨_, rfl⟩
            have hbh : Below wg.heap.size wg wh := by rw [hwh]; exact ((Below.refl _ _).alloc (Nat.le_refl _) _).alloc (by simp) _
            have hsh : wg.heap.size + 1 + 1 ≤ wh.heap.size := by rw [hwh]; simp
            have hb1 : Blk wh wg.heap.size 3 (([l] : List Int).map (Value.int .i64)).toArray := by rw [hwh]; exact (Blk.new wg _ _).alloc _
            have hb2 : Blk wh (wg.heap.size + 1) 48 ([Value.slice (some ⟨wg.heap.size, 0, none⟩) 1 1] : List Value).toArray := by rw [hwh]; exact blk_new14 (by simp)
            have hRl : Rows wh wh.heap.size (some ⟨wg.heap.size + 1, 0, none⟩) [[l]] := rows_blk4 hb2 (by omega) fun j hj => by
              obtain rfl : j = 0 := by simp at hj; omega
              exact ⟨_, 1, rfl, ints_blk4 hb1 (by omega)⟩
            have hnew := st_new F [[l]] z wh.heap.size (some ⟨wg.heap.size + 1, 0, none⟩) (some ⟨wa.heap.size, 0, none⟩) 1 F wh (by omega) hlf hRl (BlkB.bools (show BlkB wh wa.heap.size 4 z from Blk.below HKg.out hbh (by have := Blk.lt HKg.out; omega)) |> fun h => by have := h; unfold Bools at this; exact this) (Nat.le_refl _) HZL.out
            rw [norm_one15 hl0, HZL.out, List.length_singleton] at hnew
            have HNEW := Lib.hid hnew
            have HBH := Lib.hid hbh
            have HHL := Lib.hid (And.intro hl0 (And.intro hln hhol))
            clear hlf hb1 hb2 hRl hnew hbh hl0 hln hhol
            go_wp2_with fail
            rw [← hwh]
            clear hwh
            with_reducible refine HNEW.out.mono ?_
            rintro e wi ⟨ρ, gs, s1, rfl, hst, hs1, hbi⟩
            subst hs1
            obtain ⟨u1, u2, u3⟩ := unit_step15 (y := y) (c := ⟨z, startLS z [[l]], ⟨[], seedOf 7⟩⟩) hst.good hst.at_ hst.cls HHL.out.2.2 HHL.out.1 HHL.out.2.1
            have hbgi := HBH.out.trans (hbi.mono HBH.out.size)
            have hsi := hbi.size
            have hstep := wstep_any15 (c := ⟨z, startLS z [[l]], ⟨[], seedOf 7⟩⟩) (d := 0) (Bs := wq.heap.size) (r := r) (y := y) hst (Nat.zero_le _) (HSg.out.below hbgi HSg.out.lt) (Nat.zero_le _) (fun q hq => .inr (by have := hst.lo q hq; have := HSg.out.lt; omega)) HY.out
            rw [HWV.out, u2] at hstep
            have HSTEP := Lib.hid hstep
            have hyb := HYg.out.below hbgi HYg.out.lt
            have e0 := hyb.cell 0
            have e1 := hyb.cell 1
            have e2 := hyb.cell 2
            simp at e0 e1 e2
            have HROW : Hid ((stepC y ⟨z, startLS z [[l]], ⟨[], seedOf 7⟩⟩).s.row.length = 0) := Lib.hid (by
              have hf := flipV_spec hst.good hst.at_ (litVar l)
              have : (stepC y ⟨z, startLS z [[l]], ⟨[], seedOf 7⟩⟩).s.row = [] := by
                show (flipV (startLS z [[l]]) z (stepV y ⟨z, startLS z [[l]], ⟨[], seedOf 7⟩⟩).1).row = []
                rw [u2]
                exact u3 _ hf.1 hf.2.1 (hf.2.2.trans hst.cls)
              rw [this]; rfl)
            have HBGI := Lib.hid (And.intro hbgi hst.lo)
            obtain ⟨lv, hlv⟩ : ∃ lv, litVar l = lv := ⟨_, rfl⟩
            have hmx : max l (-l) = lv := by rw [← hlv]; unfold litVar; split <;> omega
            have hw64 : wrap64 (-l) = -l := by unfold wrap64; omega
            have hwi : IntKind.i64.wrap (-l) = -l := IntWalk.i64_in _ (by omega)
            rw [hlv] at HSTEP
            clear hst hbi hstep hyb u1 u2 u3 hbgi hlv HNEW
            go_wp2_with fail
            refine HSTEP.out.mono ?_
            rintro e wj ⟨rfl, ρ', b', hp', _⟩
            have hun := st_unsat hp'.st
            rw [HROW.out] at hun
            have HUN := Lib.hid hun
            have HBJ := Lib.hid (show Below w.heap.size w wj from (HBg.out.trans (HBGI.out.1.mono (by omega))).trans (hp'.ft.below (by have := HBGI.out.1.size; omega) fun q e => by
              rcases e with e | e
              · have := HBGI.out.2 q e; omega
              · omega))
            clear hun hp'
            go_wp2_with fail
            refine HUN.out.mono ?_
            rintro e wk ⟨rfl, rfl⟩
            go_wp2
            go_ret
            exact ⟨rfl, HBJ.out⟩

theorem rests15_raw (u : Int) (nss : List (List Int)) (A : Option Addr) (c' : Nat) (a b c : Int) (d : Int) (w : World) (hu : (Lit.int .u8 u).wf = true)
    (hx : nss.length ≤ 5864062014805) (m : ∀ j, (nss.getD j []).length * 2 ≤ 140737488351232) (hn : ∀ j i, (Lit.int .i16 ((nss.getD j []).getD i 0)).wf = true) (h : KRows .i16 w w.heap.size A nss)
    (wa : (Lit.int .u32 a).wf = true) (wb : (Lit.int .u32 b).wf = true) (wc : (Lit.int .u32 c).wf = true) (hd : (Lit.int .u8 d).wf = true) :
    Calls Try.prog 8 #[.agg #[.int .u8 u, .slice A nss.length c'], .agg #[.int .u32 a, .int .u32 b, .int .u32 c], .int .u8 d] w fun e w' => e = .returned (.bool true) ∧ Below w.heap.size w w' := by
  obtain ⟨v, rfl, hv⟩ := u8_nat14 hu
  obtain ⟨n0, rfl, hn0⟩ := u32_of15 wa
  obtain ⟨n1, rfl, hn1⟩ := u32_of15 wb
  obtain ⟨n2, rfl, hn2⟩ := u32_of15 wc
  obtain ⟨uv, rfl, huv⟩ := u8_nat14 hd
  exact rests15_any v nss A c' n0 n1 n2 uv w hv (by omega) (fun j => by have := m j; omega) (fun j k => by have := bounds_i16 (hn j k); omega) h hn0 hn1 hn2 huv
end Go.Proofs.Ytllgepabjglnaaa
