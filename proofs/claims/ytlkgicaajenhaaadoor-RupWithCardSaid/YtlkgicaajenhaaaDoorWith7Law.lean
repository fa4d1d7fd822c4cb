/- The clauses that have a literal are told in their order, each in one form, and the caller's own: the walk. -/
import Derived.Test.YtlkgicaajenhaaaDoorIw07
namespace Go.Proofs.YtlkgicaajenhaaaDoor
open Go.RowKit Go.Shelf
attribute [local go_sem] Oper.semAt_some
set_option linter.unusedVariables false
set_option linter.unusedSimpArgs false

set_option maxRecDepth 100000 in
set_option maxHeartbeats 3200000 in
theorem with_law (v : Nat) (nss : List (List Int)) (A : Option Addr) (c : Nat) (n : Int) (lv : Nat) (w : World) (hv : v ≤ 255) (hx : nss.length ≤ 140737488355328) (hl : ∀ j, (nss.getD j []).length ≤ 140737488355328) (hn : ∀ j k, -32768 ≤ (nss.getD j []).getD k 0 ∧ (nss.getD j []).getD k 0 ≤ 32767) (h : KRows .i16 w w.heap.size A nss) (hT : Tab7 w)  (hn16 : -32768 ≤ n ∧ n ≤ 32767) (hlv : lv ≤ 255) :
    Calls Tryd.prog 6 #[.agg #[.int .u8 v, .slice A nss.length c], .int .i16 n, .int .u8 lv] w fun e w' => e = .returned (.bool true) ∧ Below w.heap.size w w' := by
  have H := Lib.hid h
  have HL := Lib.hid hl
  have HN := Lib.hid hn
  have HT := Lib.hid hT.b
  clear h hl hn hT
  refine (callsIn_wide (n := 20)).1 ?_
  refine callsIn_of_wp_marks Tryd.func6 rfl trivial ?_ rfl
  simp only [Tryd.ntmps6, List.size_toArray, List.length_cons, List.length_nil, Nat.reduceAdd, Nat.reduceSub, Array.replicate_succ, Array.replicate_zero, List.push_toArray, List.append_toArray, List.nil_append, List.cons_append]
  refine wpIn_wide.2 ?_
  go_wp2_with fail
  obtain ⟨w1, hw1⟩ : ∃ w1, w1 = ((w.alloc (Obj.cells #[Value.int IntKind.u8 v, Value.slice A nss.length c] 24)).alloc (Obj.cells #[Value.int IntKind.u8 lv] 5)).alloc (Obj.cells #[Value.bool false] 4) := ⟨_, rfl⟩
  have HR1 := Lib.hid (show KRows .i16 w1 w.heap.size A nss by rw [hw1]; exact ((H.out.alloc (Nat.le_refl _) _).alloc (by simp) _).alloc (by simp; omega) _)
  have HB1 := Lib.hid (show Below w.heap.size w w1 by rw [hw1]; exact (((Below.refl _ _).alloc (Nat.le_refl _) _).alloc (by simp) _).alloc (by simp; omega) _)
  have HK1 := Lib.hid (show Blk w1 w.heap.size 24 #[Value.int IntKind.u8 v, Value.slice A nss.length c] by rw [hw1]; exact ((Blk.new w _ _).alloc _).alloc _)
  have HV1 := Lib.hid (show Blk w1 (w.heap.size + 1) 5 #[Value.int IntKind.u8 lv] by rw [hw1]; simpa using (Blk.new (w.alloc (Obj.cells #[Value.int IntKind.u8 v, Value.slice A nss.length c] 24)) 5 #[Value.int IntKind.u8 lv]).alloc (Obj.cells #[Value.bool false] 4))
  have HRS1 := Lib.hid (show Blk w1 (w.heap.size + 2) 4 #[Value.bool false] by rw [hw1]; simpa using Blk.new ((w.alloc (Obj.cells #[Value.int IntKind.u8 v, Value.slice A nss.length c] 24)).alloc (Obj.cells #[Value.int IntKind.u8 lv] 5)) 4 #[Value.bool false])
  have hs1 : w1.heap.size = w.heap.size + 3 := by rw [hw1]; simp
  rw [← hw1]
  clear hw1
  refine (fit07_any w1 (HT.out.on HB1.out).here).mono ?_
  rintro e w2 ⟨rfl, hb2⟩
  have HR2 := Lib.hid (HR1.out.below (hb2.mono HB1.out.size))
  have HB2 := Lib.hid (HB1.out.trans (hb2.mono HB1.out.size))
  have HK2 := Lib.hid (HK1.out.below hb2 HK1.out.lt)
  have HX2 := Lib.hid hb2
  clear hb2 HR1 HB1 HK1
  have k0 := HK2.out.cell 0
  have k1 := HK2.out.cell 1
  simp at k0 k1
  go_wp2_with fail
  refine (light_any v nss _ A c 40 w2 (by omega) hx HL.out HR2.out HB2.out.size).mono ?_
  rintro e w3 ⟨rfl, hb3⟩
  have HR3 := Lib.hid (HR2.out.below (hb3.mono HB2.out.size))
  have HB3 := Lib.hid (HB2.out.trans (hb3.mono HB2.out.size))
  have HK3 := Lib.hid (HK2.out.below hb3 HK2.out.lt)
  have HX3 := Lib.hid (HX2.out.trans (hb3.mono HX2.out.size))
  clear hb3 HR2 HB2 HK2 k0 k1
  have k0 := HK3.out.cell 0
  have k1 := HK3.out.cell 1
  simp at k0 k1
  rcases hlt : light nss 40 with _ | _
  · have r9 := ((HRS1.out.below HX3.out (by omega)).set_ 0 (.bool true)).cell 0
    have f9 := (HRS1.out.below HX3.out (by omega)).frozen 0
    have c9 := (HRS1.out.below HX3.out (by omega)).cell 0
    simp at f9 c9
    have HB9 := Lib.hid (show Below w.heap.size w (w3.setCell ⟨w.heap.size + 2, 0, none⟩ (.bool true)) from HB3.out.setCell (by simp) _)
    have K9 := Lib.hid r9
    clear r9
    go_wp2
    exact ⟨_, results_cell0 rfl rfl (load_bool K9.out), rfl, HB9.out⟩
  · have hls := rows_light7 hlt (by omega)
    have hF : v % (6 + 1) ≤ 6 := by omega
    have hFM := form7_raw (F := v % (6 + 1)) (width := 5) hlt (by omega) (by omega)
    clear hlt
    go_wp2_with fail
    refine (formula_any v nss _ A c 6 5 w3 hv (by omega) (by omega) hls.1 hls.2 HN.out HR3.out HB3.out.size).mono ?_
    obtain ⟨F, hFF⟩ : ∃ F, F = v % (6 + 1) := ⟨_, rfl⟩
    rw [← hFF] at hF hFM ⊢
    clear hFF
    obtain ⟨cs, hcs⟩ : ∃ cs, cs = rawForm F 5 nss := ⟨_, rfl⟩
    rw [← hcs] at hFM ⊢
    clear hcs
    have HFM := Lib.hid hFM
    have hfew := hFM.few
    rintro e w4 ⟨A4, c4, vs, rfl, hown4, hlist4, hb4⟩
    have HB4 := Lib.hid (HB3.out.trans (hb4.mono HB3.out.size))
    have HX4 := Lib.hid (HX3.out.trans (hb4.mono HX3.out.size))
    have HO4 := Lib.hid hown4
    have HLI4 := Lib.hid hlist4
    clear hFM hown4 hlist4 hb4 HR3 HB3 HK3 k0 k1 hls
    obtain ⟨w5, hw5⟩ : ∃ w5, w5 = w4.alloc (Obj.cells #[Value.int IntKind.i64 F, Value.slice A4 cs.length c4] 30) := ⟨_, rfl⟩
    have HFB5 := Lib.hid (show Blk w5 w4.heap.size 30 #[Value.int IntKind.i64 F, Value.slice A4 cs.length c4] by rw [hw5]; exact Blk.new w4 _ _)
    have hb45 : Below w4.heap.size w4 w5 := by rw [hw5]; exact (Below.refl _ _).alloc (Nat.le_refl _) _
    have HO5 := Lib.hid (own_below HO4.out hb45 fun g hg => (HO4.out.lt g hg).2)
    have HLI5 := Lib.hid (HLI4.out.below hb45 (Nat.le_refl _))
    have HB5 := Lib.hid (HB4.out.trans (hb45.mono HB4.out.size))
    have hs5 : w4.heap.size + 1 = w5.heap.size := by rw [hw5]; simp
    have hs4 := HB4.out.size
    have HST := Lib.hid (store_sx F cs vs _ _ A4 c4 w5 (by omega) (by omega) HFM.out.big HO5.out HLI5.out (HT.out.on HB5.out).here)
    have HW5 := Lib.hid hw5
    clear hw5 hb45 HO4 HLI4 HB4
    go_wp2_with fail
    rw [← HW5.out]
    refine HST.out.mono ?_
    rintro e w6 ⟨base, s, X, rfl, hbase, hsx, hb6⟩
    have HSX := Lib.hid hsx
    have HB6 := Lib.hid (HB5.out.trans (hb6.mono HB5.out.size))
    have HFB6 := Lib.hid (HFB5.out.below hb6 HFB5.out.lt)
    have HO6 := Lib.hid (own_below HO5.out hb6 fun g hg => (HO5.out.lt g hg).2)
    have HLI6 := Lib.hid (HLI5.out.below hb6 (Nat.le_refl _))
    have hs6 := hb6.size
    have HLO : Hid (∀ w', Below w5.heap.size w5 w' → w'.ownsRow w3.heap.size 34 1 (.slice A4 cs.length c4) cs.length vs ∧ OwnList w' w3.heap.size 3 vs cs ∧ Blk w' w4.heap.size 30 #[Value.int IntKind.i64 F, Value.slice A4 cs.length c4]) := Lib.hid fun w' hb => ⟨own_below HO5.out hb fun g hg => (HO5.out.lt g hg).2, HLI5.out.below hb (Nat.le_refl _), HFB5.out.below hb HFB5.out.lt⟩
    have HB56 := Lib.hid hb6
    have HX6 := Lib.hid ((HX4.out.trans ((show Below w4.heap.size w4 w5 by rw [HW5.out]; exact (Below.refl _ _).alloc (Nat.le_refl _) _).mono HX4.out.size)).trans (hb6.mono (by have := HX4.out.size; omega)))
    clear hsx hb6 HO5 HLI5 HFB5 HST HW5
    have f0 := HFB6.out.cell 0
    have f1 := HFB6.out.cell 1
    simp at f0 f1
    have HRS6 := Lib.hid (HRS1.out.below HX6.out (by omega))
    have HV6 := Lib.hid (HV1.out.below HX6.out (by omega))
    have hx16 := HX6.out.size
    clear HX2 HX3 HX4 HX6 HRS1 HV1
    have hslt := HSX.out.lt.2.1
    have h46 : w4.heap.size < w6.heap.size := by omega
    go_wp2_with fail
    obtain ⟨w7, hw7⟩ : ∃ w7, w7 = w6.alloc (.cells #[.pointer (some ⟨s, 0, none⟩)] 32) := ⟨_, rfl⟩
    obtain ⟨w8, hw8⟩ : ∃ w8, w8 = w7.alloc (.cells #[.int .i16 n] 51) := ⟨_, rfl⟩
    have hb68 : Below w6.heap.size w6 w8 := by rw [hw8, hw7]; exact ((Below.refl _ _).alloc (Nat.le_refl _) _).alloc (by simp) _
    have hs7 : w7.heap.size = w6.heap.size + 1 := by rw [hw7]; simp
    have hs8 : w8.heap.size = w6.heap.size + 2 := by rw [hw8, hw7]; simp
    have HSB8 := Lib.hid (show Blk w8 w6.heap.size 32 #[.pointer (some ⟨s, 0, none⟩)] by rw [hw8, hw7]; exact (Blk.new w6 _ _).alloc _)
    have hkn : KInts .i16 w8 w8.heap.size (some ⟨w7.heap.size, 0, none⟩) [n] := fun _ => ⟨w7.heap.size, 0, rfl, by omega, fun j hj => by
      have hj0 : j = 0 := by simp at hj; omega
      subst hj0
      rw [hw8]
      exact (Blk.new w7 51 #[.int .i16 n]).cell 0⟩
    have HLITS := Lib.hid (lits07_any F [n] w8.heap.size (some ⟨w7.heap.size, 0, none⟩) 1 w8 (by omega) (by simp) (fun k => by rcases k with _ | k <;> simp [List.getD] <;> omega) hkn (Nat.le_refl _))
    have HW8 := Lib.hid (show w8 = (w6.alloc (.cells #[.pointer (some ⟨s, 0, none⟩)] 32)).alloc (.cells #[.int .i16 n] 51) by rw [hw8, hw7])
    have HB8 := Lib.hid hb68
    rw [hs7] at HLITS
    clear hkn hb68 hw7 hw8 f0 f1
    rw [← HW8.out]
    refine HLITS.out.mono ?_
    rintro e w9 ⟨A9, c9, rfl, hown9, hb9⟩
    obtain ⟨L, hLL⟩ : ∃ L, L = lits07 F [n] := ⟨_, rfl⟩
    have hLt : ∀ x, x ∈ L → Lt7 F x := by rw [hLL]; exact lits07_lt
    have hll : L.length ≤ 1 := by rw [hLL]; exact lits07_len F [n]
    rw [← hLL] at hown9 ⊢
    have HB69 := Lib.hid (HB8.out.trans (hb9.mono (by omega)))
    have HSB9 := Lib.hid (HSB8.out.below hb9 (by omega))
    have HRS9 := Lib.hid (HRS6.out.below HB69.out (by omega))
    have HV9 := Lib.hid (HV6.out.below HB69.out (by omega))
    have HSX9 := Lib.hid (HSX.out.below HB69.out)
    have HB9 := Lib.hid (HB6.out.trans (HB69.out.mono HB6.out.size))
    have HB59 := Lib.hid (HB56.out.trans (HB69.out.mono hs6))
    have hs9 := hb9.size
    clear hLL hb9 HLITS HSB8 HFB6 HO6 HLI6 HB8 HW8
    have f1 := (HLO.out w9 HB59.out).2.2.cell 1
    have r0 := HRS9.out.cell 0
    have rf := HRS9.out.frozen 0
    simp at f1 r0 rf
    rcases L with _ | ⟨l, L⟩
    · have r9 := (HRS9.out.set_ 0 (.bool true)).cell 0
      have HBX := Lib.hid (show Below w.heap.size w (w9.setCell ⟨w.heap.size + 2, 0, none⟩ (.bool true)) from HB9.out.setCell (by simp) _)
      have K9 := Lib.hid r9
      clear r9 hown9
      go_wp2
      exact ⟨_, results_cell0 rfl rfl (load_bool K9.out), rfl, HBX.out⟩
    obtain rfl : L = [] := by simpa using hll
    have hl := hLt l (by simp)
    obtain ⟨gl, rfl, hgl, hgl2⟩ := own_addr hown9 (by simp)
    have hcl : w9.cell? ⟨gl, 0, none⟩ = some (.int .i64 l) := by
      rw [World.ownsRow.cellAt hown9 0 (by simp)]; rfl
    have HCL := Lib.hid hcl
    have HGB := Lib.hid (own_blk7 hown9)
    have h49 : w4.heap.size < w9.heap.size := by omega
    clear hown9 hLt hll hcl
    go_wp2
    obtain ⟨w10, hw10⟩ : ∃ w10, w10 = w9.alloc (.cells #[.slice none 0 0] 28) := ⟨_, rfl⟩
    have hb910 : Below w9.heap.size w9 w10 := by rw [hw10]; exact (Below.refl _ _).alloc (Nat.le_refl _) _
    have HWB10 := Lib.hid (show Blk w10 w9.heap.size 28 #[.slice none 0 0] by rw [hw10]; exact Blk.new w9 _ _)
    have HB910 := Lib.hid hb910
    have hs10 : w10.heap.size = w9.heap.size + 1 := by rw [hw10]; simp
    rw [← hw10]
    clear hw10 hb910 f1 r0 rf
    obtain ⟨i0, hi, hz0, hz1, hz2⟩ := info_parts Tryd.infoInts
    go_loopg [38] (cs.length + 1) (fun gk i wr => ∃ (k : Nat) (hs : List Value) (Ah : Option Addr) (ch : Nat), k ≤ cs.length ∧ gk = cs.length + 1 - k ∧ i = .int .i64 k ∧ Hid (Blk wr w9.heap.size 28 #[.slice Ah hs.length ch]) ∧ Hid (wr.ownsRow (w9.heap.size + 1) 34 1 (.slice Ah hs.length ch) hs.length hs) ∧ Hid (hs = (hitsAt l cs k).map (fun j => vs.getD j undef)) ∧ Hid (Below w9.heap.size w9 wr))
    case atStart => exact ⟨0, [], none, 0, by omega, by omega, rfl, HWB10, Lib.hid (World.ownsRow_nil _ _ _ _), Lib.hid rfl, HB910⟩
    case round =>
      obtain ⟨k, hs, Ah, ch, hk, rfl, rfl, HWB, HOW, HHS, HBW⟩ := hrel
      have HB5r := Lib.hid (HB59.out.trans (HBW.out.mono (by omega)))
      have w0 := HWB.out.cell 0
      have wf := HWB.out.frozen 0
      have hcl := (HBW.out.cell (p := ⟨gl, 0, none⟩) (by exact hgl2)).trans HCL.out
      simp at w0 wf
      by_cases hlt : k < cs.length
      · obtain ⟨Ak, ck, hvk, hok5⟩ := (HLO.out w5 (Below.refl _ _)).2.1.each k hlt
        have hok := own_below hok5 HB5r.out fun g hg => (hok5.lt g hg).2
        have hob := (HLO.out wr HB5r.out).1
        have hcell : ∃ g, A4 = some ⟨g, 0, none⟩ ∧ wr.cell? ⟨g, k, none⟩ = some (.slice Ak (cs.getD k []).length ck) := by
          obtain ⟨g, rfl, _, _⟩ := own_addr hob (by omega)
          exact ⟨g, rfl, by rw [World.ownsRow.cellAt hob k (by omega)]; exact hvk⟩
        obtain ⟨g, rfl, hc⟩ := hcell
        have hd1 := (HFM.out.each _ (rows_row hlt)).1
        have hvk2 : vs.getD k undef = .slice Ak (cs.getD k []).length ck := by simp [List.getD, hvk]
        have hsk := hitsAt_succ l cs k
        have hsl : hs.length ≤ k := by rw [HHS.out]; simpa using hitsAt_len l cs k
        obtain ⟨d, hdd⟩ : ∃ d, d = cs.getD k [] := ⟨_, rfl⟩
        rw [← hdd] at hc hd1 hok hvk2 hsk
        have HIN := Lib.hid (in_any07 d wr.heap.size Ak ck l wr (by omega) (ints_of_own hok))
        have HVK := Lib.hid hvk2
        clear hvk hok5 hob hok hdd hvk2
        by_cases hin : l ∈ d
        · rw [decide_eq_true hin] at HIN
          rw [if_pos hin] at hsk
          have HSK := Lib.hid hsk
          clear hsk hin
          go_wp2_with fail
          refine HIN.out.mono ?_
          rintro e wq ⟨rfl, rfl⟩
          go_wp2_with (at_builtin; refine wpList_append1 _ rfl _ _ 28 rfl (w9.heap.size + 1) 34 i0 (.slice none 0 0) 24 Tryd.underlying28 hi hz0 hz1 hz2 rfl _ hs.length hs rfl (HOW.out.alloc _) (.slice Ak d.length ck) wr.heap.size rfl (by go_cell) rfl (by unfold maxLen; omega) (by omega) (by simp; have := HBW.out.size; have := HWB.out.lt; omega) ?_)
          intro v' wn hown hg _
          obtain ⟨A', c', hv', _⟩ := own_slice hown
          subst hv'
          have HWBn := Lib.hid ((HWB.out.alloc (.cells #[.slice Ak d.length ck] 34)).grown hg (own_blk_ne HOW.out HWB.out (by decide)))
          have HOWn := Lib.hid hown
          have HBn := Lib.hid ((HBW.out.alloc (by have := HBW.out.size; omega) (.cells #[.slice Ak d.length ck] 34)).grown hg (by have := HBW.out.size; simp; omega) (fun g hg2 => by have := (HOW.out.lt g hg2).1; omega))
          have wn0 := HWBn.out.cell 0
          have wnf := HWBn.out.frozen 0
          simp at wn0 wnf
          clear hown hg w0 wf hc hcl
          go_wp2
          go_roundg (cs.length - k)
          case measure => omega
          case rel =>
            have e1 : (hs ++ [Value.slice Ak d.length ck]).length = hs.length + 1 := by simp
            refine ⟨k + 1, hs ++ [.slice Ak d.length ck], A', c', by omega, by omega, by go_num, Lib.hid ?_, Lib.hid ?_, Lib.hid ?_, Lib.hid ?_⟩
            · rw [e1]; exact HWBn.out.set_ 0 (.slice A' (hs.length + 1) c')
            · rw [e1]; exact own_setCell HOWn.out _ (own_blk_ne HOWn.out HWBn.out (by decide))
            · rw [HSK.out, List.map_append, ← HHS.out, List.map_cons, List.map_nil, HVK.out]
            · exact HBn.out.setCell (by simp) _
        · rw [decide_eq_false hin] at HIN
          rw [if_neg hin] at hsk
          have HSK := Lib.hid hsk
          clear hsk hin
          go_wp2_with fail
          refine HIN.out.mono ?_
          rintro e wq ⟨rfl, rfl⟩
          clear w0 wf hc hcl
          go_wp2
          go_roundg (cs.length - k)
          case measure => omega
          case rel => exact ⟨k + 1, hs, Ah, ch, by omega, by omega, by go_num, HWB, HOW, Lib.hid (by rw [HSK.out]; exact HHS.out), HBW⟩
      · obtain rfl : k = cs.length := by omega
        clear hlt hk
        obtain ⟨wk, rfl⟩ : ∃ wk : World, wk = wr := ⟨_, rfl⟩
        have HB5k := HB5r
        have s0 := (HSB9.out.below HBW.out (by omega)).cell 0
        simp at s0
        go_wp2
        obtain ⟨w11, hw11⟩ : ∃ w11, w11 = wk.alloc (.cells #[.int .i64 0] 3) := ⟨_, rfl⟩
        have hb11 : Below wk.heap.size wk w11 := by rw [hw11]; exact (Below.refl _ _).alloc (Nat.le_refl _) _
        have HKB11 := Lib.hid (show Blk w11 wk.heap.size 3 #[.int .i64 0] by rw [hw11]; exact Blk.new wk _ _)
        have hs11 : w11.heap.size = wk.heap.size + 1 := by rw [hw11]; simp
        have hbs := HBW.out.size
        rw [← hw11]
        clear hw11
        have HW11 := Lib.hid (HBW.out.trans (hb11.mono HBW.out.size))
        have s0 := (HSB9.out.below HW11.out (by omega)).cell 0
        have hcl := (HW11.out.cell (p := ⟨gl, 0, none⟩) (by exact hgl2)).trans HCL.out
        simp at s0
        have HWITH : Hid (Calls Tryd.prog 27 #[.pointer (some ⟨s, 0, none⟩), .int .i64 l] w11.drew fun e w' => e = .returned (.func (.func 40) #[] #[.pointer (some ⟨w11.heap.size, 0, none⟩), .pointer (some ⟨w11.heap.size + 1, 0, none⟩)]) ∧ w' = (w11.drew.alloc (.cells #[.pointer (some ⟨s, 0, none⟩)] 32)).alloc (.cells #[.int .i64 l] 3)) := Lib.hid (with_any s l w11.drew)
        have KE := Lib.hid (fun (w5 : World) (hb : Below w11.heap.size w11 w5) => (show w5.cell? ⟨w6.heap.size, 0, none⟩ = some (.pointer (some ⟨s, 0, none⟩)) ∧ w5.cell? ⟨gl, 0, none⟩ = some (.int .i64 l) from ⟨cell_later hb s0, cell_later hb hcl⟩))
        go_region_held3 (fun w' => w'.cell? ⟨w6.heap.size, 0, none⟩ = some (.pointer (some ⟨s, 0, none⟩)) ∧ w'.cell? ⟨gl, 0, none⟩ = some (.int .i64 l)) (first | exact KK.out | exact ⟨s0, hcl⟩) (first | (go_at_call 27; refine HWITH.out.mono ?_; rintro e5 w12 ⟨rfl, hw12⟩; have HB12 := Lib.hid (below_undrew (show Below w11.drew.heap.size w11.drew w12 by rw [hw12]; exact ((Below.refl _ _).alloc (Nat.le_refl _) _).alloc (by simp) _)); have KK := Lib.hid (KE.out w12 HB12.out); have HW12 := Lib.hid hw12; clear hw12))
        obtain ⟨hws, hX1, hX2, hX3, hX4, hX5, fo, hrest⟩ := HSX9.out
        have hnum : ∀ p, p ∈ X.ps → (X.C p).num ≤ 1000000000 := fun p hp => by have := hrest.shelf.numlt p hp; omega
        have htold := told_at l hX2
        have hHS := HHS.out
        have hNl : (X.hits l).length = hs.length := by
          have e1 := congrArg List.length htold
          have e2 := congrArg List.length hHS
          simp [SX.told] at e1 e2
          omega
        have hIw0 : Iw w6 w6.heap.size w9.heap.size wk.heap.size w11.heap.size (w11.heap.size + 1) gl s l (w9.heap.size + 1) undef [] Ah ch hs 0 w12 := by
          have hb12 := HB12.out
          have hblk : Blk w11 w9.heap.size 28 #[.slice Ah hs.length ch] := HWB.out.below hb11 HWB.out.lt
          have hown : w11.ownsRow (w9.heap.size + 1) 34 1 (.slice Ah hs.length ch) hs.length hs := own_below HOW.out hb11 fun g hg => (HOW.out.lt g hg).2
          obtain ⟨cur, hcur, hcu2⟩ : ∃ cur, Blk w12 gl 3 cur ∧ cur[0]? = some (.int .i64 l) := by
            obtain ⟨cur, hc1⟩ := HGB.out
            have hc2 := (hc1.below HW11.out hgl2).below hb12 (by omega)
            refine ⟨cur, hc2, ?_⟩
            rw [← hc2.cell 0]
            exact KK.out.2
          refine ⟨HB69.out.trans ((HW11.out.trans (hb12.mono (by omega))).mono (by omega)), ((HSB9.out.below HW11.out (by omega)).below hb12 (by omega)), hblk.below hb12 hblk.lt, own_below hown hb12 fun g hg => (hown.lt g hg).2, HKB11.out.below hb12 (by omega), ⟨cur, hcur, hcu2⟩, ?_, ?_, by omega, by omega, by omega⟩
          · rw [HW12.out]; exact (Blk.new w11.drew 32 #[.pointer (some ⟨s, 0, none⟩)]).alloc _
          · rw [HW12.out]; simpa using Blk.new (w11.drew.alloc (.cells #[.pointer (some ⟨s, 0, none⟩)] 32)) 3 #[.int .i64 l]
        have HSEQ := Lib.hid (with_seq base X l w11.heap.size (w11.heap.size + 1) w12 hnum 19 (by omega))
        rw [hNl] at HSEQ
        have HIW0 := Lib.hid hIw0
        have HTOLD := Lib.hid htold
        have hb612 : w6.heap.size ≤ w12.heap.size := hIw0.low.size
        clear hIw0 htold hnum hws hX1 hX2 hX3 hX4 hX5 hrest hHS s0 hcl
        go_wp2_with fail
        refine (wpIn_wide (n := 20)).1 ?_
        have HENT := enters_of Tryd.func40 (by kernel_rfl) rfl
        refine range_it (gf := 40) (lb := #[.pointer (some ⟨w11.heap.size, 0, none⟩), .pointer (some ⟨w11.heap.size + 1, 0, none⟩)]) (N := hs.length) (Arg := Arg7 X l) (Rd := Rd7 base X l w11.heap.size (w11.heap.size + 1)) ?hg HENT HSEQ.out rfl
          (fun k W => w12.heap.size ≤ W.heap.size ∧ Iw w6 w6.heap.size w9.heap.size wk.heap.size w11.heap.size (w11.heap.size + 1) gl s l (w9.heap.size + 1) undef [] Ah ch hs k W)
          (fun cd W => cd = .ret ∧ Below w.heap.size w W ∧ ∃ cur, Blk W (w.heap.size + 2) 4 cur ∧ cur[0]? = some (.bool true)) ?hI ?hIx ?hsz ⟨Nat.le_refl _, HIW0.out⟩ ?hrd ?a1 ?hassign ?hbody ?hdone ?hstop
        case hg => simp [Act.eval]
        case hassign =>
          intro b v W K hK
          gi_wp2
          exact hK
        case hI => exact fun k W W' h hr => ⟨Nat.le_trans h.1 hr.below.size, h.2.rows hr hb612⟩
        case hIx =>
          rintro cd W W' ⟨h1, h2, cur, h3, h4⟩ hr
          exact ⟨h1, h2.trans (hr.below.mono (by omega)), cur, hr.blk h3, h4⟩
        case hsz =>
          exact fun k W h => h.1
        case hrd =>
          rintro k W ⟨_, h⟩
          have hsx := HSX.out.below h.low
          obtain ⟨e1, e2, e3, e4, e5, e6, fo, hrest⟩ := hsx
          refine ⟨?_, ?_, X, fo, SameR.refl X, hrest⟩
          · rw [e1]; exact h.s2.cell 0
          · exact h.l2.cell 0
        case hbody =>
          rintro b k v W0 W1 W ⟨hz0, hi0⟩ hk hb1 ⟨Ac, cc, rfl, hown⟩ hr9 ⟨hz, hiw⟩
          have hhl : (hitsAt l cs cs.length).length = hs.length := by rw [HHS.out]; simp
          obtain ⟨j, hj⟩ : ∃ j, j = (hitsAt l cs cs.length).getD k 0 := ⟨_, rfl⟩
          have hjm : j ∈ hitsAt l cs cs.length := by rw [hj]; simp [List.getD, show k < (hitsAt l cs cs.length).length by omega]
          have hjl : j < cs.length := by have := (List.mem_filter.1 hjm).1; simpa using this
          have hD : (X.told l).getD k [] = normOf (cs.getD j []) := by
            rw [HTOLD.out, hj]
            simp [List.getD, show k < (hitsAt l cs cs.length).length by omega]
          have hwk : hs.getD k undef = vs.getD j undef := by
            conv => lhs; rw [HHS.out]
            rw [hj]
            simp [List.getD, show k < (hitsAt l cs cs.length).length by omega]
          rw [hD] at hown ⊢
          have HLW := HLO.out W (HB56.out.trans (hiw.low.mono hs6))
          obtain ⟨Aj, cj, hvj, hoj⟩ := HLW.2.1.each j hjl
          have hvj2 : hs.getD k undef = .slice Aj (cs.getD j []).length cj := by rw [hwk]; simp [List.getD, hvj]
          obtain ⟨hd1, hd2⟩ := HFM.out.each _ (rows_row hjl)
          obtain ⟨d, hdd⟩ : ∃ d, d = cs.getD j [] := ⟨_, rfl⟩
          rw [← hdd] at hown hvj2 hoj hd1 hd2 ⊢
          obtain ⟨gw, rfl, _, _⟩ := own_addr hiw.own (by omega)
          have hcw : W.cell? ⟨gw, k, none⟩ = some (.slice Aj d.length cj) := by
            rw [World.ownsRow.cellAt hiw.own k (by omega), ← hvj2]
            simp [List.getD, hk]
          have k0 := hiw.kB.cell 0
          have b0 := hiw.wB.cell 0
          simp at k0 b0
          have hownW := hr9.own hown
          obtain ⟨D, hDD⟩ : ∃ D, D = normOf d := ⟨_, rfl⟩
          have hDl : D.length ≤ 100 := by rw [hDD]; exact Nat.le_trans (norm_len d) hd1
          have hD2 : ∀ x, x ∈ D → Lt7 F x := fun x hx => hd2 x (mem_normOf.1 (by rw [← hDD]; exact hx))
          have hDR : Rising D := by rw [hDD]; exact rising_normOf d
          have hset : SameL D d := fun z => by rw [hDD]; exact mem_normOf
          rw [← hDD] at hownW ⊢
          have HSA := Lib.hid (same_any07 D d W.heap.size W.heap.size Ac Aj cc cj W (by omega) (by omega) (ints_of_own hownW) (ints_of_own hoj))
          have HRI := Lib.hid (rising_any07 D W.heap.size Ac cc W (mid_lt7 (by omega) (by omega) hD2) (fun x hx => (hD2 x hx).1) hDR (ints_of_own hownW))
          have HIW := Lib.hid hiw
          have HOW2 := Lib.hid hownW
          have HOJ := Lib.hid hoj
          have HSE := Lib.hid hset
          have HDD := Lib.hid hDD
          have HD2 := Lib.hid hd2
          have HDM : Hid (d ∈ cs) := Lib.hid (by rw [hdd]; exact rows_row hjl)
          have HOJ2 := Lib.hid (fun (W' : World) (hb : Below w6.heap.size w6 W') => (by obtain ⟨Aj', cj', e1, e2⟩ := (HLO.out W' (HB56.out.trans (hb.mono hs6))).2.1.each j hjl; rw [hvj] at e1; injection e1 with e1; injection e1 with e3 e4 e5; subst e3 e5; rw [hdd]; exact e2 : W'.ownsRow w3.heap.size 3 1 (.slice Aj d.length cj) d.length (d.map (Value.int .i64))))
          have HCW := Lib.hid (fun (W' : World) (ho : W'.ownsRow (w9.heap.size + 1) 34 1 (.slice (some ⟨gw, 0, none⟩) hs.length ch) hs.length hs) => (show W'.cell? ⟨gw, k, none⟩ = some (.slice Aj d.length cj) by rw [World.ownsRow.cellAt ho k (by omega), ← hvj2]; simp [List.getD, hk]))
          have HI0 := Lib.hid hi0
          have hkn : (k : Int) < (hs.length : Int) := by omega
          have hkb : k < 1000 := by have := hitsAt_len l cs cs.length; omega
          have HB1 := Lib.hid (hb1.size)
          have HR9 := Lib.hid hr9.below.size
          clear hi0 hiw hhl hj hjm hD hwk hown HLW hvj hoj hvj2 hd2 hdd hownW hD2 hDR hset hDD hb1 hr9
          gi_wp2_with fail
          refine ⟨trivial, CallsIn.inRound _ ((callsIn_wide.2 HSA.out).mono ?_)⟩
          rintro e wq ⟨sm, rfl, hsm, rfl⟩
          obtain rfl : sm = true := hsm.2 HSE.out
          clear hsm
          gi_wp2_with fail
          refine ⟨trivial, CallsIn.inRound _ ((callsIn_wide.2 HRI.out).mono ?_)⟩
          rintro e wq ⟨rfl, q, rfl⟩
          obtain ⟨Wq, hWq⟩ : ∃ Wq, Wq = W.drewN q := ⟨_, rfl⟩
          have HRQ := Lib.hid (show Recs W Wq by rw [hWq]; exact Recs.drewN W q)
          have HIQ := Lib.hid (show Iw w6 w6.heap.size w9.heap.size wk.heap.size w11.heap.size (w11.heap.size + 1) gl s l (w9.heap.size + 1) undef [] (some ⟨gw, 0, none⟩) ch hs k Wq by rw [hWq]; exact HIW.out.below (below_drewN (Below.refl _ _) q))
          have HOQ := Lib.hid (show Wq.ownsRow W0.heap.size 3 1 (.slice Ac D.length cc) D.length (D.map (Value.int .i64)) by rw [hWq]; exact own_below HOW2.out (below_drewN (Below.refl _ _) q) fun g hg => (HOW2.out.lt g hg).2)
          have HSQ := Lib.hid (show w12.heap.size ≤ Wq.heap.size by rw [hWq]; exact hz)
          have HFQ := Lib.hid (show Below w.heap.size w Wq by rw [hWq]; exact below_drewN (HB6.out.trans (HIW.out.low.mono HB6.out.size)) q)
          rw [← hWq]
          clear hWq
          gi_wp2
          gi_loopg [78] (D.length + 1) (fun gk iv wi => ∃ (i : Nat) (zs : List Value), i ≤ D.length ∧ gk = D.length + 1 - i ∧ iv = .int .i64 i ∧ Hid (wi.ownsRow W0.heap.size 3 1 (.slice Ac D.length cc) D.length zs) ∧ Hid (Iw w6 w6.heap.size w9.heap.size wk.heap.size w11.heap.size (w11.heap.size + 1) gl s l (w9.heap.size + 1) undef [] (some ⟨gw, 0, none⟩) ch hs k wi) ∧ Hid (Recs W wi) ∧ Hid (w12.heap.size ≤ wi.heap.size) ∧ Hid (Below w.heap.size w wi))
          case atStart => exact ⟨0, _, by omega, by omega, rfl, HOQ, HIQ, HRQ, HSQ, HFQ⟩
          case round =>
            obtain ⟨i, zs, hi2, rfl, rfl, hoi, hii, hri, hsi, hfi⟩ := hrel
            have hbl := HI0.out.lt
            have hi0s := HI0.out.low.size
            have hw06 := HB6.out.size
            by_cases hil : i < D.length
            · obtain ⟨gc, rfl, hgc, hgc2⟩ := own_addr hoi.out (by omega)
              obtain ⟨cur, hcur⟩ := own_blk7 hoi.out
              have hzl : zs.length = D.length := by have := hoi.out.1; omega
              have hcz : wr.cell? ⟨gc, i, none⟩ = some (zs.getD i undef) := by
                rw [World.ownsRow.cellAt hoi.out i (by omega)]
                simp [List.getD, show i < zs.length by omega]
              have hfz := World.ownsRow.frozenAt hoi.out i
              obtain ⟨z0, hz0'⟩ : ∃ z0, z0 = zs.getD i undef := ⟨_, rfl⟩
              rw [← hz0'] at hcz
              have HO2 := Lib.hid (own_putv hoi.out i (.int .i64 77))
              have HI2 := Lib.hid (hii.out.far hcur (by omega) i (.int .i64 77))
              have HR2 := Lib.hid (hri.out.trans (Recs.set wr ⟨gc, i, none⟩ (.int .i64 77)))
              have HS2 := Lib.hid (show w12.heap.size ≤ (wr.setCell ⟨gc, i, none⟩ (.int .i64 77)).heap.size by simpa using hsi.out)
              have HF2 := Lib.hid (hfi.out.setCell (p := ⟨gc, i, none⟩) (by show w.heap.size ≤ gc; omega) (.int .i64 77))
              clear hz0' hzl hcur hoi hii hri hsi hfi
              gi_wp2
              gi_roundg (D.length - i)
              case measure => omega
              case rel => exact ⟨i + 1, _, by omega, by omega, by go_num, HO2, HI2, HR2, HS2, HF2⟩
            · obtain rfl : i = D.length := by omega
              have q0 := hii.out.kB.cell 0
              have qf := hii.out.kB.frozen 0
              have lv0 := (HV6.out.below hii.out.low (by omega)).cell 0
              simp at q0 qf lv0
              obtain ⟨Wk, hWk⟩ : ∃ Wk, Wk = wr.setCell ⟨wk.heap.size, 0, none⟩ (.int .i64 ((k : Int) + 1)) := ⟨_, rfl⟩
              have HIK := Lib.hid (show Iw w6 w6.heap.size w9.heap.size wk.heap.size w11.heap.size (w11.heap.size + 1) gl s l (w9.heap.size + 1) undef [] (some ⟨gw, 0, none⟩) ch hs (k + 1) Wk by rw [hWk]; exact hii.out.setk)
              have HRK := Lib.hid (show Recs W Wk by rw [hWk]; exact hri.out.trans (Recs.set _ _ _))
              have HSK := Lib.hid (show w12.heap.size ≤ Wk.heap.size by rw [hWk]; simpa using hsi.out)
              have HFK := Lib.hid (show Below w.heap.size w Wk by rw [hWk]; exact hfi.out.setCell (p := ⟨wk.heap.size, 0, none⟩) (by show w.heap.size ≤ wk.heap.size; omega) _)
              gi_wp2
              · have hk1 : IntKind.i64.wrap ((k : Int) + 1 - 1) = (k : Int) := by rw [show (k : Int) + 1 - 1 = (k : Int) by omega]; exact IntWalk.i64_in _ (by omega)
                have HSXK := Lib.hid (HSX.out.below HIK.out.low)
                have hdi : Ints Wk Wk.heap.size Aj d := ints_of_own (HOJ2.out Wk HIK.out.low)
                have HHAS := Lib.hid (has_sx (c := cj) (HSXK.out.below (Below.refl _ _).drew) hdi (Nat.le_refl _) (by omega) (fun x hx => by obtain ⟨a1, a2, a3⟩ := HD2.out x hx; omega) ((HT.out.on HFK.out).here))
                rw [decide_eq_true (show normOf d ∈ cs.map normOf from List.mem_map_of_mem HDM.out)] at HHAS
                have b1 := HIK.out.wB.cell 0
                have b2 := HIK.out.sB.cell 0
                have b3 := HIK.out.kB.cell 0
                have b4 : Wk.cell? ⟨gw, k, none⟩ = some (.slice Aj d.length cj) := HCW.out Wk HIK.out.own
                have hrb := HRS6.out.below HIK.out.low (by omega)
                have HRB := Lib.hid hrb
                simp at b1 b2 b3
                rw [← hWk]
                clear hWk q0 qf lv0
                refine region_round (fun w' => w'.cell? ⟨w6.heap.size, 0, none⟩ = some (.pointer (some ⟨s, 0, none⟩)) ∧ w'.cell? ⟨w9.heap.size, 0, none⟩ = some (.slice (some ⟨gw, 0, none⟩) hs.length ch) ∧ w'.cell? ⟨wk.heap.size, 0, none⟩ = some (.int .i64 ((k : Int) + 1)) ∧ w'.cell? ⟨gw, k, none⟩ = some (.slice Aj d.length cj)) (by kernel_rfl) (by kernel_rfl) ⟨b2, b1, b3, b4⟩ (fun hHeld => ?_)
                refine wpAnyH_take (i := 0) (oi := { dst := some 91, op := Op.load 32 (Operand.tmp 8), type := 32, pos := "law.go:195", after := #[], guard := none }) (v := .pointer (some ⟨s, 0, none⟩)) rfl (by kernel_rfl) (by kernel_rfl) (by kernel_rfl) (fun _ _ _ h => h) (Or.inl ⟨by rfl, ?_⟩) (by assumption) ?_
                · (intro w99 hSw; obtain ⟨s1, s2, s3, s4⟩ := hSw; go_simp)
                try simp only [Act.put, List.setIfInBounds_toArray, List.set_cons_zero, List.set_cons_succ]
                refine wpAnyH_take (i := 1) (oi := { dst := some 92, op := Op.load 28 (Operand.tmp 10), type := 28, pos := "law.go:195", after := #[], guard := none }) (v := .slice (some ⟨gw, 0, none⟩) hs.length ch) rfl (by kernel_rfl) (by kernel_rfl) (by kernel_rfl) (fun _ _ _ h => h) (Or.inl ⟨by rfl, ?_⟩) (by assumption) ?_
                · (intro w99 hSw; obtain ⟨s1, s2, s3, s4⟩ := hSw; go_simp)
                try simp only [Act.put, List.setIfInBounds_toArray, List.set_cons_zero, List.set_cons_succ]
                refine wpAnyH_take (i := 2) (oi := { dst := some 93, op := Op.load 3 (Operand.tmp 13), type := 3, pos := "law.go:195", after := #[], guard := none }) (v := .int .i64 ((k : Int) + 1)) rfl (by kernel_rfl) (by kernel_rfl) (by kernel_rfl) (fun _ _ _ h => h) (Or.inl ⟨by rfl, ?_⟩) (by assumption) ?_
                · (intro w99 hSw; obtain ⟨s1, s2, s3, s4⟩ := hSw; go_simp)
                try simp only [Act.put, List.setIfInBounds_toArray, List.set_cons_zero, List.set_cons_succ]
                refine wpAnyH_take (i := 3) (oi := { dst := some 94, op := Op.binOp BinOp.sub 3 (Operand.tmp 93) (Operand.const (Value.int IntKind.i64 1)) 3, type := 3, pos := "law.go:195", after := #[{ on := 2, ground := Ground.data }], guard := none }) (v := .int .i64 k) rfl (by kernel_rfl) (by kernel_rfl) (by kernel_rfl) (fun _ _ _ h => h) (Or.inl ⟨by rfl, ?_⟩) (by assumption) ?_
                · (intro w99 hSw; obtain ⟨s1, s2, s3, s4⟩ := hSw; go_simp; exact IntWalk.i64_in _ ⟨by omega, by omega⟩)
                try simp only [Act.put, List.setIfInBounds_toArray, List.set_cons_zero, List.set_cons_succ]
                refine wpAnyH_take (i := 4) (oi := { dst := some 95, op := Op.indexAddr 28 (Operand.tmp 92) (Operand.tmp 94), type := 0, pos := "law.go:195", after := #[{ on := 1, ground := Ground.data }, { on := 3, ground := Ground.data }], guard := none }) (v := .pointer (some ⟨gw, k, none⟩)) rfl (by kernel_rfl) (by kernel_rfl) (by kernel_rfl) (fun _ _ _ h => h) (Or.inl ⟨by rfl, ?_⟩) (by assumption) ?_
                · (intro w99 hSw; obtain ⟨s1, s2, s3, s4⟩ := hSw; go_simp; try (intro h9; omega))
                try simp only [Act.put, List.setIfInBounds_toArray, List.set_cons_zero, List.set_cons_succ]
                refine wpAnyH_take (i := 5) (oi := { dst := some 96, op := Op.load 34 (Operand.tmp 95), type := 34, pos := "law.go:195", after := #[{ on := 4, ground := Ground.data }], guard := none }) (v := .slice Aj d.length cj) rfl (by kernel_rfl) (by kernel_rfl) (by kernel_rfl) (fun _ _ _ h => h) (Or.inl ⟨by rfl, ?_⟩) (by assumption) ?_
                · (intro w99 hSw; obtain ⟨s1, s2, s3, s4⟩ := hSw; go_simp)
                try simp only [Act.put, List.setIfInBounds_toArray, List.set_cons_zero, List.set_cons_succ]
                refine wpAnyH_ready (rs := [6]) (by kernel_rfl) (by simp) ?_
                refine AllReadyH.cons rfl (fun K hK => ?_) AllReadyH.nil
                go_simp
                refine HHAS.out.mono ?_
                rintro e1 w2 ⟨rfl, hb2'⟩
                have hb2 := below_undrew hb2'
                have HR2 := Lib.hid (HRB.out.below hb2 HRB.out.lt)
                have HX2 := Lib.hid ((HRK.out.trans (Recs.of_below hb2)).trans (Recs.set w2 ⟨w.heap.size + 2, 0, none⟩ (.bool true)))
                have HF2 := Lib.hid ((HFK.out.trans (hb2.mono HFK.out.size)).setCell (p := ⟨w.heap.size + 2, 0, none⟩) (by show w.heap.size ≤ w.heap.size + 2; omega) (.bool true))
                have hS2 := And.intro (cell_later hb2 b2) (And.intro (cell_later hb2 b1) (And.intro (cell_later hb2 b3) (cell_later hb2 b4)))
                have r0 := HR2.out.cell 0
                have rf := HR2.out.frozen 0
                simp at r0 rf
                refine hK.out _ _ hS2 (fun hHeld3 => ?_)
                clear hK hb2'
                try simp only [Act.put, List.setIfInBounds_toArray, List.set_cons_zero, List.set_cons_succ]
                refine wpAnyH_ready (rs := [7]) (by kernel_rfl) (by simp) ?_
                refine AllReadyH.cons (o := _) rfl (fun K hK => ?_) AllReadyH.nil
                go_simp
                obtain ⟨q1, q2, q3, q4⟩ := hS2
                have hgwl : w9.heap.size + 1 ≤ gw := (HIK.out.own.lt gw rfl).1
                refine hK.out _ _ ⟨(World.cell?_setCell_other _ _ _ _ (by intro e; injection e with e; omega)).trans q1, (World.cell?_setCell_other _ _ _ _ (by intro e; injection e with e; omega)).trans q2, (World.cell?_setCell_other _ _ _ _ (by intro e; injection e with e; omega)).trans q3, (World.cell?_setCell_other _ _ _ _ (by intro e; injection e with e; omega)).trans q4⟩ (fun hHeld4 => ?_)
                refine wpAnyH_done (by kernel_rfl) ?_ _
                dsimp only [Calm]
                clear hK q1 q2 q3 q4 hHeld hHeld3 hHeld4 r0 rf
                gi_wp2
                exact ⟨HX2.out, rfl, HF2.out, _, HR2.out.set_ 0 (.bool true), by simp⟩
              · rw [← hWk]
                exact ⟨HRK.out, HSK.out, HIK.out⟩
        case hdone =>
          rintro D W hD ⟨hz, hiw⟩ hdf
          have hbl := hiw.lt
          have c1 := hiw.kB.cell 0
          have c2 := hiw.wB.cell 0
          have c3 := hiw.sB.cell 0
          have cc4 := (HLO.out W (HB56.out.trans (hiw.low.mono hs6))).2.2.cell 1
          simp at c1 c2 c3 cc4
          have hlen := len_sx (HSX.out.below hiw.low.drew)
          rw [List.length_map] at hlen
          have HLEN := Lib.hid hlen
          have HRS := Lib.hid (HRS6.out.below hiw.low (by omega))
          have r0 := HRS.out.cell 0
          have rf := HRS.out.frozen 0
          simp at r0 rf
          have hw06 := HB6.out.size
          have HFW := Lib.hid (HB6.out.trans (hiw.low.mono HB6.out.size))
          have HDF := Lib.hid hdf
          have hDW : D < W.heap.size := (Array.getElem?_eq_some_iff.1 hdf).1
          clear hlen hdf
          go_wp2_with fail
          go_region_held3 (fun w' => w'.cell? ⟨wk.heap.size, 0, none⟩ = some (.int .i64 (hs.length : Nat)) ∧ w'.cell? ⟨w9.heap.size, 0, none⟩ = some (.slice Ah hs.length ch) ∧ w'.cell? ⟨w6.heap.size, 0, none⟩ = some (.pointer (some ⟨s, 0, none⟩)) ∧ w'.cell? ⟨w4.heap.size, 1, none⟩ = some (.slice A4 cs.length c4)) (first | exact KK.out | exact ⟨c1, c2, c3, cc4⟩ | exact ⟨(World.cell?_setCell_other _ _ _ _ (by intro e; injection e with e; omega)).trans KK.out.1, (World.cell?_setCell_other _ _ _ _ (by intro e; injection e with e; omega)).trans KK.out.2.1, (World.cell?_setCell_other _ _ _ _ (by intro e; injection e with e; omega)).trans KK.out.2.2.1, (World.cell?_setCell_other _ _ _ _ (by intro e; injection e with e; omega)).trans KK.out.2.2.2⟩) (first | (go_at_call 24; refine HLEN.out.mono ?_; rintro e5 w5 ⟨rfl, q, rfl⟩; have KK := Lib.hid (And.intro c1 (And.intro c2 (And.intro c3 cc4)))))
          have K9 := Lib.hid (((HRS.out.drewN (1 + q)).set_ 0 (.bool true)).cell 0)
          have HFR := Lib.hid ((below_drewN HFW.out (1 + q)).setCell (p := ⟨w.heap.size + 2, 0, none⟩) (by show w.heap.size ≤ w.heap.size + 2; omega) (.bool true))
          have HDI2 := Lib.hid (show ((W.drewN (1 + q)).setCell ⟨w.heap.size + 2, 0, none⟩ (.bool true)).heap[D]? = some (.deferred (some [])) from (Below.heap_setCell _ ⟨w.heap.size + 2, 0, none⟩ _ D (by show D ≠ w.heap.size + 2; omega)).trans HDF.out)
          go_wp2_with fail
          refine ⟨by simp, .inl ⟨_, _, rfl, run_takeDeferred HDI2.out, ?_⟩⟩
          obtain ⟨Y, hY⟩ : ∃ Y, Y = (W.drewN (1 + q)).setCell ⟨w.heap.size + 2, 0, none⟩ (.bool true) := ⟨_, rfl⟩
          have hres := K9.out
          have hfr := HFR.out
          have hdi := HDI2.out
          rw [← hY] at hres hfr hdi
          have hbp : Below (w.heap.size + 3) Y (Y.putObj D (.deferred none)) := (rows9_put (B := w.heap.size + 3) Y D (.deferred none) _ hdi (by rintro (⟨_, _, _, h⟩ | ⟨_, _, h⟩) <;> cases h) (by omega)).below
          have hfin : (Y.putObj D (.deferred none)).cell? ⟨w.heap.size + 2, 0, none⟩ = some (.bool true) := (hbp.cell (p := ⟨w.heap.size + 2, 0, none⟩) (by show w.heap.size + 2 < _; omega)).trans (by simpa using hres)
          have hfrr := hfr.trans (hbp.mono (by omega))
          rw [hY] at hfin hfrr
          exact ⟨_, results_cell0 rfl rfl (load_bool hfin), rfl, hfrr⟩
        case hstop =>
          rintro D cd W hD ⟨rfl, hb, cur, hr, hr2⟩ hdf
          have hw06 := HB6.out.size
          have hs := hr.cell 0
          rw [hr2] at hs
          gi_wp2_with fail
          refine ⟨by simp, .inl ⟨_, _, rfl, run_takeDeferred hdf, ?_⟩⟩
          have hbp : Below (w.heap.size + 3) W (W.putObj D (.deferred none)) := (rows9_put (B := w.heap.size + 3) W D (.deferred none) _ hdf (by rintro (⟨_, _, _, h⟩ | ⟨_, _, h⟩) <;> cases h) (by omega)).below
          exact ⟨_, results_cell0 rfl rfl (load_bool ((hbp.cell (p := ⟨w.heap.size + 2, 0, none⟩) (by show w.heap.size + 2 < _; omega)).trans hs)), rfl, hb.trans (hbp.mono (by omega))⟩
theorem with_raw (u : Int) (nss : List (List Int)) (A : Option Addr) (c : Nat) (n : Int) (lv : Int) (w : World) (hu : (Lit.int .u8 u).wf = true) (hx : nss.length ≤ 5864062014805) (hm : ∀ j, (nss.getD j []).length * 2 ≤ 140737488351232) (hn : ∀ j i, (Lit.int .i16 ((nss.getD j []).getD i 0)).wf = true) (h : KRows .i16 w w.heap.size A nss) (h1 : (Lit.int .i16 n).wf = true) (h2 : (Lit.int .u8 lv).wf = true) (hT : Tab7 w) :
    Calls Tryd.prog 6 #[.agg #[.int .u8 u, .slice A nss.length c], .int .i16 n, .int .u8 lv] w fun e w' => e = .returned (.bool true) ∧ Below w.heap.size w w' := by
  obtain ⟨v, rfl, hv⟩ := raw_nat7 hu
  obtain ⟨x, rfl, hx2⟩ := raw_nat7 h2
  have hn16 : -32768 ≤ n ∧ n ≤ 32767 := by
    simp [Lit.wf, IntKind.min, IntKind.max, IntKind.signed, IntKind.bits] at h1
    omega
  exact with_law v nss A c n x w hv (by omega) (raw_rows7 hm hn).1 (raw_rows7 hm hn).2 h hT hn16 hx2
end Go.Proofs.YtlkgicaajenhaaaDoor
