/- What follows, and whether it clashes, is the document's: the walk. -/
import Derived.Test.YtbjccfdmedbkjaaDoorUse07
import Derived.Test.YtbjccfdmedbkjaaDoorDoor7
namespace Go.Proofs.YtbjccfdmedbkjaaDoor
open Go.RowKit
set_option linter.unusedVariables false
set_option linter.unusedSimpArgs false

set_option maxRecDepth 100000 in
set_option maxHeartbeats 3200000 in
theorem follows_law (v : Nat) (nss : List (List Int)) (A : Option Addr) (c : Nat) (ns1 : List Int) (A1 : Option Addr) (c1 : Nat)  (w : World) (hv : v ≤ 255) (hx : nss.length ≤ 140737488355328) (hl : ∀ j, (nss.getD j []).length ≤ 140737488355328) (hn : ∀ j k, -32768 ≤ (nss.getD j []).getD k 0 ∧ (nss.getD j []).getD k 0 ≤ 32767) (h : KRows .i16 w w.heap.size A nss) (hm1 : ns1.length ≤ 70368744175616) (hb1 : ∀ k, -32768 ≤ ns1.getD k 0 ∧ ns1.getD k 0 ≤ 32767) (hi1 : KInts .i16 w w.heap.size A1 ns1) (hT : Tab7 w) :
    Calls Tryd.prog 3 #[.agg #[.int .u8 v, .slice A nss.length c], .slice A1 ns1.length c1] w fun e w' => e = .returned (.bool true) ∧ Below w.heap.size w w' := by
  have H := Lib.hid h
  have HL := Lib.hid hl
  have HN := Lib.hid hn
  have HT := Lib.hid hT.b
  have HI1 := Lib.hid hi1
  have HBI1 := Lib.hid hb1
  clear h hl hn hT hi1 hb1
  go_enter Tryd.func3, Tryd.ntmps3
  go_wp2_with fail
  obtain ⟨w1, hw1⟩ : ∃ w1, w1 = w.alloc (Obj.cells #[Value.int IntKind.u8 v, Value.slice A nss.length c] 24) := ⟨_, rfl⟩
  have HR1 := Lib.hid (show KRows .i16 w1 w.heap.size A nss by rw [hw1]; exact H.out.alloc (Nat.le_refl _) _)
  have HB1 := Lib.hid (show Below w.heap.size w w1 by rw [hw1]; exact (Below.refl _ _).alloc (Nat.le_refl _) _)
  have HK1 := Lib.hid (show Blk w1 w.heap.size 24 #[Value.int IntKind.u8 v, Value.slice A nss.length c] by rw [hw1]; exact Blk.new w _ _)
  rw [← hw1]
  clear hw1
  refine (fit07_any w1 (HT.out.on HB1.out).here).mono ?_
  rintro e w2 ⟨rfl, hb2⟩
  have HR2 := Lib.hid (HR1.out.below (hb2.mono HB1.out.size))
  have HB2 := Lib.hid (HB1.out.trans (hb2.mono HB1.out.size))
  have HK2 := Lib.hid (HK1.out.below hb2 HK1.out.lt)
  clear hb2 HR1 HB1 HK1
  have k0 := HK2.out.cell 0
  have k1 := HK2.out.cell 1
  simp at k0 k1
  go_wp2_with fail
  refine (light_any v nss _ A c 40 w2 (by omega) hx HL.out HR2.out HB2.out.size).mono ?_
  rintro e w3 ⟨rfl, hb3⟩
  have HR3 := Lib.hid (HR2.out.below (hb3.mono HB2.out.size))
  have HB3 := Lib.hid (HB2.out.trans (hb3.mono HB2.out.size))
  have HK3 := Lib.hid (HK2.out.below hb3 HK2.out.lt)
  clear hb3 HR2 HB2 HK2 k0 k1
  have k0 := HK3.out.cell 0
  have k1 := HK3.out.cell 1
  simp at k0 k1
  rcases hlt : light nss 40 with _ | _
  · go_wp2
    go_ret
    exact ⟨rfl, HB3.out⟩
  · by_cases hov : 20 < ns1.length
    · go_wp2
      go_ret
      exact ⟨rfl, HB3.out⟩
    · have hls := rows_light7 hlt (by omega)
      have hF : v % (15 + 1) ≤ 15 := by omega
      have hFM := form7_raw (F := v % (15 + 1)) (width := 6) hlt (by omega) (by omega)
      clear hlt
      go_wp2_with fail
      refine (formula_any v nss _ A c 15 6 w3 hv (by omega) (by omega) hls.1 hls.2 HN.out HR3.out HB3.out.size).mono ?_
      obtain ⟨F, hFF⟩ : ∃ F, F = v % (15 + 1) := ⟨_, rfl⟩
      rw [← hFF] at hF hFM ⊢
      clear hFF
      obtain ⟨cs, hcs⟩ : ∃ cs, cs = rawForm F 6 nss := ⟨_, rfl⟩
      rw [← hcs] at hFM ⊢
      clear hcs
      have HFM := Lib.hid hFM
      have hfew := hFM.few
      rintro e w4 ⟨A4, c4, vs, rfl, hown4, hlist4, hb4⟩
      have HB4 := Lib.hid (HB3.out.trans (hb4.mono HB3.out.size))
      have HO4 := Lib.hid hown4
      have HLI4 := Lib.hid hlist4
      clear hFM hown4 hlist4 hb4 HR3 HB3 HK3 k0 k1 hls
      obtain ⟨w5, hw5⟩ : ∃ w5, w5 = w4.alloc (Obj.cells #[Value.int IntKind.i64 F, Value.slice A4 cs.length c4] 30) := ⟨_, rfl⟩
      have HFB5 := Lib.hid (show Blk w5 w4.heap.size 30 #[Value.int IntKind.i64 F, Value.slice A4 cs.length c4] by rw [hw5]; exact Blk.new w4 _ _)
      have hb45 : Below w4.heap.size w4 w5 := by rw [hw5]; exact (Below.refl _ _).alloc (Nat.le_refl _) _
      have HO5 := Lib.hid (own_below HO4.out hb45 fun g hg => (HO4.out.lt g hg).2)
      have HLI5 := Lib.hid (HLI4.out.below hb45 (Nat.le_refl _))
      have HB5 := Lib.hid (HB4.out.trans (hb45.mono HB4.out.size))
      have hs5 : w4.heap.size + 1 = w5.heap.size := by rw [hw5]; simp
      have hs4 := HB4.out.size
      have HST := Lib.hid (store_sx F cs vs _ _ A4 c4 w5 (by omega) (by omega) HFM.out.big HO5.out HLI5.out (HT.out.on HB5.out).here)
      have HW5 := Lib.hid hw5
      clear hw5 hb45 HO4 HLI4 HB4
      go_wp2_with fail
      rw [← HW5.out]
      refine HST.out.mono ?_
      rintro e w6 ⟨base, s, X, rfl, hbase, hsx, hb6⟩
      have HSX := Lib.hid hsx
      have HB6 := Lib.hid (HB5.out.trans (hb6.mono HB5.out.size))
      have HFB6 := Lib.hid (HFB5.out.below hb6 HFB5.out.lt)
      have HO6 := Lib.hid (own_below HO5.out hb6 fun g hg => (HO5.out.lt g hg).2)
      have HLI6 := Lib.hid (HLI5.out.below hb6 (Nat.le_refl _))
      have hs6 := hb6.size
      clear hsx hb6 HO5 HLI5 HFB5 HST HW5
      have f0 := HFB6.out.cell 0
      have f1 := HFB6.out.cell 1
      simp at f0 f1
      go_wp2_with fail
      refine (lits07_any F ns1 w.heap.size A1 c1 w6 (by omega) (by omega) HBI1.out (Cells.below HI1.out HB6.out) (Nat.le_trans (Nat.le_refl _) HB6.out.size)).mono ?_
      rintro e w7 ⟨A7, c7, rfl, hown7, hb7⟩
      have hll := lits07_len F ns1
      have hLt : ∀ x, x ∈ lits07 F ns1 → Lt7 F x := lits07_lt
      obtain ⟨L, hLL⟩ : ∃ L, L = lits07 F ns1 := ⟨_, rfl⟩
      rw [← hLL] at hown7 hll hLt ⊢
      have HLT := Lib.hid hLt
      have HB7 := Lib.hid (HB6.out.trans (hb7.mono HB6.out.size))
      have HFB7 := Lib.hid (HFB6.out.below hb7 HFB6.out.lt)
      have HO7 := Lib.hid (own_below HO6.out hb7 fun g hg => (HO6.out.lt g hg).2)
      have HLI7 := Lib.hid (HLI6.out.below hb7 (Nat.le_refl _))
      have HSX7 := Lib.hid (HSX.out.below hb7)
      have HAP7 := Lib.hid (HSX.out.apart_high hb7 hown7)
      have hs7 := hb7.size
      clear hown7 hb7 hLL hLt HO6 HLI6 HFB6 HSX f0 f1
      have f0 := HFB7.out.cell 0
      have f1 := HFB7.out.cell 1
      simp at f0 f1
      have HRF := Lib.hid (follow_any07 cs L w7.heap.size w7.heap.size A4 A7 c4 c7 w7 (by omega) (HFM.out.mid (by omega)) (Nat.le_trans HFM.out.flat (by omega)) (mid_lt7 (by omega) (by omega) HLT.out) (by omega) (HLI7.out.rows HO7.out) HAP7.out.ints (Nat.le_refl _) (Nat.le_refl _))
      go_wp2_with fail
      refine HRF.out.mono ?_
      rintro e w8 ⟨r, ok, Ar, cr, rfl, htold, hmid, hrl, hown8, hb8⟩
      have HTO := Lib.hid htold
      have HMI := Lib.hid hmid
      have HB8 := Lib.hid (HB7.out.trans (hb8.mono HB7.out.size))
      have HSX8 := Lib.hid (HSX7.out.below hb8)
      have HAP8 := Lib.hid (HAP7.out.under hb8)
      have HAR8 := Lib.hid (HSX7.out.apart_high hb8 hown8)
      have hs8 := hb8.size
      clear htold hmid hown8 hb8 HSX7 HAP7 HO7 HLI7 HFB7 f0 f1 HRF
      have HFO := Lib.hid (follow_sx HSX8.out HAP8.out HLT.out (by omega))
      go_wp2_with fail
      refine HFO.out.mono ?_
      rintro e w9 ⟨X9, ok9, r9, A9, c9, rfl, hsx9, ht9, hl9, hr9, hap9, htold9, hris9, hlt9⟩
      have hokk : ok9 = ok := htold9.ok_eq HTO.out (clash_congr (alike_norm cs).symm fun _ => Iff.rfl)
      have HB9 := Lib.hid (show Below w.heap.size w w9 from HB8.out.trans (ht9.below.mono (by omega)))
      have HAR9 := Lib.hid (HSX8.out.turn HAR8.out ht9 hl9)
      subst hokk
      cases ok9 with
      | false =>
        obtain rfl : r9 = [] := (htold9.no rfl).2
        clear hsx9 ht9 hl9 hap9 htold9 hris9 hlt9
        go_wp2
        go_ret
        exact ⟨rfl, HB9.out⟩
      | true =>
        have hset : SameL r9 r := fun z => by rw [(htold9.yes rfl).2 z, (HTO.out.yes rfl).2 z]; exact (fol_congr (alike_norm cs).symm fun _ => Iff.rfl)
        have hmid9 : Mid r9 := mid_lt7 (by omega) hr9 hlt9
        have HSA := Lib.hid (same_any07 r9 r w9.heap.size w9.heap.size A9 Ar c9 cr w9 (by omega) (by omega) hap9.ints HAR9.out.ints)
        have HRI := Lib.hid (fun (w' : World) (hw : Below w9.heap.size w9 w') => rising_any07 r9 w9.heap.size A9 c9 w' hmid9 (fun x hx => (hlt9 x hx).1) hris9 (Cells.below hap9.ints hw))
        have HSE := Lib.hid hset
        clear hsx9 ht9 hl9 hap9 htold9 hris9 hlt9 hset hmid9
        go_wp2_with fail
        refine HSA.out.mono ?_
        rintro e w10 ⟨b, rfl, hb, rfl⟩
        obtain rfl : b = true := hb.2 HSE.out
        have HRI' := Lib.hid (HRI.out _ (Below.refl _ _))
        go_wp2_with fail
        refine HRI'.out.mono ?_
        rintro e w11 ⟨rfl, q, rfl⟩
        go_wp2
        go_ret
        exact ⟨rfl, below_drewN HB9.out q⟩
theorem follows_raw (u : Int) (nss : List (List Int)) (A : Option Addr) (c : Nat) (ns1 : List Int) (A1 : Option Addr) (c1 : Nat)  (w : World) (hu : (Lit.int .u8 u).wf = true) (hx : nss.length ≤ 5864062014805) (hm : ∀ j, (nss.getD j []).length * 2 ≤ 140737488351232) (hn : ∀ j i, (Lit.int .i16 ((nss.getD j []).getD i 0)).wf = true) (h : KRows .i16 w w.heap.size A nss) (hl1 : ns1.length ≤ 70368744175616) (hb1 : ∀ j, (Lit.int .i16 (ns1.getD j 0)).wf = true) (h1 : KInts .i16 w w.heap.size A1 ns1) (hT : Tab7 w) :
    Calls Tryd.prog 3 #[.agg #[.int .u8 u, .slice A nss.length c], .slice A1 ns1.length c1] w fun e w' => e = .returned (.bool true) ∧ Below w.heap.size w w' := by
  obtain ⟨v, rfl, hv⟩ := raw_nat7 hu
  exact follows_law v nss A c ns1 A1 c1 w hv (by omega) (raw_rows7 hm hn).1 (raw_rows7 hm hn).2 h hl1 (raw_ints7 hb1) h1 hT
end Go.Proofs.YtbjccfdmedbkjaaDoor
