/- What satisfies all clauses satisfies each one that is implied: the walk. -/
import Derived.Test.YtbjccfdmedbkjaaDoorUse07
import Derived.Test.YtbjccfdmedbkjaaDoorDoor7
import Derived.Test.YtbjccfdmedbkjaaDoorBoolBlk
import Derived.Deep.OwnRows
namespace Go.Proofs.YtbjccfdmedbkjaaDoor
open Go.RowKit
set_option linter.unusedVariables false
set_option linter.unusedSimpArgs false

theorem holds_opp7 {l : Int} {n : Nat} {z : Nat → Bool} (h : litHolds l n z = true) : litHolds (-l) n z = false := by
  unfold litHolds at *
  rw [litVar_opp]
  split at h
  · rename_i hv
    rw [if_pos hv]
    rcases Int.lt_trichotomy l 0 with hlt | heq | hgt
    · rw [decide_eq_false (show ¬ 0 < l by omega)] at h
      rw [decide_eq_true (show 0 < -l by omega)]
      simp at h
      simp [h]
    · subst heq
      simp [litVar] at hv
    · rw [decide_eq_true hgt] at h
      rw [decide_eq_false (show ¬ 0 < -l by omega)]
      simp at h
      simp [h]
  · cases h
theorem holds_not7 {l : Int} {n : Nat} {z : Nat → Bool} (hl : Lt7 n l) (h : litHolds l n z = false) : litHolds (-l) n z = true := by
  obtain ⟨h0, h1, h2⟩ := hl
  have hv : 1 ≤ litVar l ∧ litVar l ≤ n := by unfold litVar; split <;> omega
  unfold litHolds at *
  rw [litVar_opp, if_pos hv]
  rw [if_pos hv] at h
  rcases Int.lt_trichotomy l 0 with hlt | heq | hgt
  · rw [decide_eq_false (show ¬ 0 < l by omega)] at h
    rw [decide_eq_true (show 0 < -l by omega)]
    simp at h
    simp [h]
  · exact absurd heq h0
  · rw [decide_eq_true hgt] at h
    rw [decide_eq_false (show ¬ 0 < -l by omega)]
    simp at h
    simp [h]
theorem implied_sat {z : List Bool} {cs : List (List Int)} {c : List Int} (hs : formSat z cs = true) (hl : ∀ y, y ∈ c → Lt7 z.length y) (hc : Clash cs (negs c)) : clauseSat z c = true := by
  cases hz : clauseSat z c with
  | true => rfl
  | false =>
    exfalso
    have hall : ∀ d, d ∈ cs → clauseSat z d = true := fun d hd => List.all_eq_true.1 hs d hd
    have hfol : ∀ x, Fol cs (negs c) x → litHolds x z.length (fun j => z.getD j false) = true := fun x hx => by
      refine hx.least (K := fun x => litHolds x z.length (fun j => z.getD j false) = true) (fun y hy => ?_) fun d hd x hx hall2 => ?_
      · obtain ⟨u, hu, rfl⟩ := List.mem_map.1 hy
        exact holds_not7 (hl u hu) (by simpa using (List.any_eq_false.1 hz) u hu)
      · obtain ⟨y, hy, ht⟩ := List.any_eq_true.1 (hall d hd)
        by_cases e : y = x
        · rw [← e]; exact ht
        · have := holds_opp7 (hall2 y hy e)
          rw [Int.neg_neg, ht] at this
          cases this
    rcases hc with ⟨x, h1, h2⟩ | ⟨d, hd, h⟩
    · have := holds_opp7 (hfol x h1)
      rw [hfol _ h2] at this
      cases this
    · obtain ⟨y, hy, ht⟩ := List.any_eq_true.1 (hall d hd)
      have := holds_opp7 (hfol _ (h y hy))
      rw [Int.neg_neg, ht] at this
      cases this
theorem Tryd.infoBool7 : (Tryd.prog.info? 4).map (fun i => (i.zero, i.size, i.bytes)) = some (some (.bool false), 1, 1) := by kernel_rfl
theorem madeBools7 (n : Nat) : madeCells #[Value.bool false] n = boolCells (List.replicate n false) := by
  apply Array.ext'
  rw [toList_madeCells_one]
  simp [boolCells]
/-- a row of bools that is none of the store's -/
def Bz (w : World) (X : SX) (g : Nat) (z : List Bool) : Prop := BlkB w g 4 z ∧ g ≠ X.fb
theorem Sx.bz {w w' : World} {base s V N g : Nat} {cs : List (List Int)} {X X' : SX} {z : List Bool} (h : Sx w base s V cs N X) (hz : Bz w X g z) (ht : Tn base X w w') (hl : Later7 w X X') : Bz w' X' g z := by
  obtain ⟨h1, h2, h3, h4, h5, h6, fo, h7⟩ := h
  exact ⟨ht.blk g _ _ hz.1 (by decide) (by decide) (by decide) (by decide) hz.2 (own_blk_ne h7.sto.fnd hz.1 (by decide)), by rw [hl.1]; exact hz.2⟩
theorem Bz.below {w w' : World} {X : SX} {g : Nat} {z : List Bool} (h : Bz w X g z) (hb : Below w.heap.size w w') : Bz w' X g z := ⟨Blk.below h.1 hb (Blk.lt h.1), h.2⟩
theorem Sx.fb_lt {w : World} {base s V N : Nat} {cs : List (List Int)} {X : SX} (h : Sx w base s V cs N X) : X.fb < w.heap.size := by
  obtain ⟨h1, h2, h3, h4, h5, h6, fo, h7⟩ := h
  exact h7.sto.fol.lt
theorem Form7.short7 {F : Nat} {cs : List (List Int)} (h : Form7 F cs) (j : Nat) : (cs.getD j []).length ≤ 1099511627776 := by
  by_cases hj : j < cs.length
  · have := (h.each _ (rows_row hj)).1; omega
  · rw [List.getD, List.getElem?_eq_none (by omega)]; simp
theorem one_bd7 {F : Nat} {L : List Int} (h : ∀ x, x ∈ L → Lt7 F x) (j k : Nat) : -(F : Int) ≤ ([L].getD j []).getD k 0 ∧ ([L].getD j []).getD k 0 ≤ F := by
  have aux : ∀ k, -(F : Int) ≤ L.getD k 0 ∧ L.getD k 0 ≤ F := fun k => by
    by_cases hk : k < L.length
    · obtain ⟨_, a, b⟩ := h _ (take_snoc7 hk).2
      exact ⟨a, b⟩
    · rw [List.getD, List.getElem?_eq_none (by omega)]; simp
  rcases j with _ | j
  · exact aux k
  · simp [List.getD]
theorem Form7.bd7 {F : Nat} {cs : List (List Int)} (h : Form7 F cs) (j k : Nat) : -(F : Int) ≤ (cs.getD j []).getD k 0 ∧ (cs.getD j []).getD k 0 ≤ F := by
  by_cases hj : j < cs.length
  · have := one_bd7 (h.each _ (rows_row hj)).2 0 k
    exact this
  · rw [show cs.getD j [] = [] by rw [List.getD, List.getElem?_eq_none (by omega)]; rfl]; simp
theorem rows_one7 {w : World} {b0 c : Nat} {A : Option Addr} {L : List Int} (h : w.ownsRow b0 3 1 (.slice A L.length c) L.length (L.map (Value.int .i64))) (o : Array Value) (ho : o = #[.slice A L.length c]) : Rows (w.alloc (.cells o 34)) (w.alloc (.cells o 34)).heap.size (some ⟨w.heap.size, 0, none⟩) [L] := by
  subst ho
  intro _
  refine ⟨w.heap.size, 0, rfl, by simp, fun j hj => ?_⟩
  have hj0 : j = 0 := by simp at hj; omega
  subst hj0
  refine ⟨A, c, ?_, ?_⟩
  · exact (Blk.new w 34 #[.slice A L.length c]).cell 0
  · exact (Cells.alloc (ints_of_own h) (Nat.le_refl _) _).more (by simp)

set_option maxRecDepth 100000 in
set_option maxHeartbeats 3200000 in
theorem holds_law (v : Nat) (nss : List (List Int)) (A : Option Addr) (c : Nat) (ns1 : List Int) (A1 : Option Addr) (c1 : Nat) (bits : Int) (w : World) (hv : v ≤ 255) (hx : nss.length ≤ 140737488355328) (hl : ∀ j, (nss.getD j []).length ≤ 140737488355328) (hn : ∀ j k, -32768 ≤ (nss.getD j []).getD k 0 ∧ (nss.getD j []).getD k 0 ≤ 32767) (h : KRows .i16 w w.heap.size A nss) (hm1 : ns1.length ≤ 70368744175616) (hb1 : ∀ k, -32768 ≤ ns1.getD k 0 ∧ ns1.getD k 0 ≤ 32767) (hi1 : KInts .i16 w w.heap.size A1 ns1) (hT : Tab7 w) :
    Calls Tryd.prog 4 #[.agg #[.int .u8 v, .slice A nss.length c], .slice A1 ns1.length c1, .int .u16 bits] w fun e w' => e = .returned (.bool true) ∧ Below w.heap.size w w' := by
  have H := Lib.hid h
  have HL := Lib.hid hl
  have HN := Lib.hid hn
  have HT := Lib.hid hT.b
  have HI1 := Lib.hid hi1
  have HBI1 := Lib.hid hb1
  clear h hl hn hT hi1 hb1
  go_enter Tryd.func4, Tryd.ntmps4
  go_wp2_with fail
  obtain ⟨w1, hw1⟩ : ∃ w1, w1 = w.alloc (Obj.cells #[Value.int IntKind.u8 v, Value.slice A nss.length c] 24) := ⟨_, rfl⟩
  have HR1 := Lib.hid (show KRows .i16 w1 w.heap.size A nss by rw [hw1]; exact H.out.alloc (Nat.le_refl _) _)
  have HB1 := Lib.hid (show Below w.heap.size w w1 by rw [hw1]; exact (Below.refl _ _).alloc (Nat.le_refl _) _)
  have HK1 := Lib.hid (show Blk w1 w.heap.size 24 #[Value.int IntKind.u8 v, Value.slice A nss.length c] by rw [hw1]; exact Blk.new w _ _)
  rw [← hw1]
  clear hw1
  refine (fit07_any w1 (HT.out.on HB1.out).here).mono ?_
  rintro e w2 ⟨rfl, hb2⟩
  have HR2 := Lib.hid (HR1.out.below (hb2.mono HB1.out.size))
  have HB2 := Lib.hid (HB1.out.trans (hb2.mono HB1.out.size))
  have HK2 := Lib.hid (HK1.out.below hb2 HK1.out.lt)
  clear hb2 HR1 HB1 HK1
  have k0 := HK2.out.cell 0
  have k1 := HK2.out.cell 1
  simp at k0 k1
  go_wp2_with fail
  refine (light_any v nss _ A c 40 w2 (by omega) hx HL.out HR2.out HB2.out.size).mono ?_
  rintro e w3 ⟨rfl, hb3⟩
  have HR3 := Lib.hid (HR2.out.below (hb3.mono HB2.out.size))
  have HB3 := Lib.hid (HB2.out.trans (hb3.mono HB2.out.size))
  have HK3 := Lib.hid (HK2.out.below hb3 HK2.out.lt)
  clear hb3 HR2 HB2 HK2 k0 k1
  have k0 := HK3.out.cell 0
  have k1 := HK3.out.cell 1
  simp at k0 k1
  rcases hlt : light nss 40 with _ | _
  · go_wp2
    go_ret
    exact ⟨rfl, HB3.out⟩
  · by_cases hov : 20 < ns1.length
    · go_wp2
      go_ret
      exact ⟨rfl, HB3.out⟩
    · have hls := rows_light7 hlt (by omega)
      have hF : v % (12 + 1) ≤ 12 := by omega
      have hFM := form7_raw (F := v % (12 + 1)) (width := 6) hlt (by omega) (by omega)
      clear hlt
      go_wp2_with fail
      refine (formula_any v nss _ A c 12 6 w3 hv (by omega) (by omega) hls.1 hls.2 HN.out HR3.out HB3.out.size).mono ?_
      obtain ⟨F, hFF⟩ : ∃ F, F = v % (12 + 1) := ⟨_, rfl⟩
      rw [← hFF] at hF hFM ⊢
      clear hFF
      obtain ⟨cs, hcs⟩ : ∃ cs, cs = rawForm F 6 nss := ⟨_, rfl⟩
      rw [← hcs] at hFM ⊢
      clear hcs
      have HFM := Lib.hid hFM
      have hfew := hFM.few
      rintro e w4 ⟨A4, c4, vs, rfl, hown4, hlist4, hb4⟩
      have HB4 := Lib.hid (HB3.out.trans (hb4.mono HB3.out.size))
      have HO4 := Lib.hid hown4
      have HLI4 := Lib.hid hlist4
      clear hFM hown4 hlist4 hb4 HR3 HB3 HK3 k0 k1 hls
      obtain ⟨w5, hw5⟩ : ∃ w5, w5 = w4.alloc (Obj.cells #[Value.int IntKind.i64 F, Value.slice A4 cs.length c4] 30) := ⟨_, rfl⟩
      have HFB5 := Lib.hid (show Blk w5 w4.heap.size 30 #[Value.int IntKind.i64 F, Value.slice A4 cs.length c4] by rw [hw5]; exact Blk.new w4 _ _)
      have hb45 : Below w4.heap.size w4 w5 := by rw [hw5]; exact (Below.refl _ _).alloc (Nat.le_refl _) _
      have HO5 := Lib.hid (own_below HO4.out hb45 fun g hg => (HO4.out.lt g hg).2)
      have HLI5 := Lib.hid (HLI4.out.below hb45 (Nat.le_refl _))
      have HB5 := Lib.hid (HB4.out.trans (hb45.mono HB4.out.size))
      have hs5 : w4.heap.size + 1 = w5.heap.size := by rw [hw5]; simp
      have hs4 := HB4.out.size
      have HST := Lib.hid (store_sx F cs vs _ _ A4 c4 w5 (by omega) (by omega) HFM.out.big HO5.out HLI5.out (HT.out.on HB5.out).here)
      have HW5 := Lib.hid hw5
      clear hw5 hb45 HO4 HLI4 HB4
      go_wp2_with fail
      rw [← HW5.out]
      refine HST.out.mono ?_
      rintro e w6 ⟨base, s, X, rfl, hbase, hsx, hb6⟩
      have HSX := Lib.hid hsx
      have HB6 := Lib.hid (HB5.out.trans (hb6.mono HB5.out.size))
      have HFB6 := Lib.hid (HFB5.out.below hb6 HFB5.out.lt)
      have HO6 := Lib.hid (own_below HO5.out hb6 fun g hg => (HO5.out.lt g hg).2)
      have HLI6 := Lib.hid (HLI5.out.below hb6 (Nat.le_refl _))
      have hs6 := hb6.size
      have HLO : Hid (∀ w', Below w5.heap.size w5 w' → w'.ownsRow w3.heap.size 34 1 (.slice A4 cs.length c4) cs.length vs ∧ OwnList w' w3.heap.size 3 vs cs ∧ Blk w' w4.heap.size 30 #[Value.int IntKind.i64 F, Value.slice A4 cs.length c4]) := Lib.hid fun w' hb => ⟨own_below HO5.out hb fun g hg => (HO5.out.lt g hg).2, HLI5.out.below hb (Nat.le_refl _), HFB5.out.below hb HFB5.out.lt⟩
      have HB56 := Lib.hid hb6
      clear hsx hb6 HO5 HLI5 HFB5 HST HW5
      have f0 := HFB6.out.cell 0
      have f1 := HFB6.out.cell 1
      simp at f0 f1
      go_wp2_with fail
      refine (lits07_any F ns1 w.heap.size A1 c1 w6 (by omega) (by omega) HBI1.out (Cells.below HI1.out HB6.out) HB6.out.size).mono ?_
      rintro e w7 ⟨A7, c7, rfl, hown7, hb7⟩
      have hll := lits07_len F ns1
      have hLt : ∀ x, x ∈ lits07 F ns1 → Lt7 F x := lits07_lt
      obtain ⟨L, hLL⟩ : ∃ L, L = lits07 F ns1 := ⟨_, rfl⟩
      rw [← hLL] at hown7 hll hLt ⊢
      have HLT := Lib.hid hLt
      have HB7 := Lib.hid (HB6.out.trans (hb7.mono HB6.out.size))
      have HB57 := Lib.hid (HB56.out.trans (hb7.mono hs6))
      have HSX7 := Lib.hid (HSX.out.below hb7)
      have HAP7 := Lib.hid (HSX.out.apart_high hb7 hown7)
      have hs7 := hb7.size
      have hfb := HSX.out.fb_lt
      clear hown7 hb7 hLL hLt HO6 HLI6 HFB6 f0 f1
      have f0 := (HLO.out w7 HB57.out).2.2.cell 0
      simp at f0
      have hmk := run_make_row' (P := Tryd.prog) 43 4 (.bool false) 1 Tryd.underlying43 Tryd.infoBool7 rfl .i64 .i64 F (by omega) (by omega)
      go_wp2
      clear f0
      obtain ⟨w8, hw8⟩ : ∃ w8, w8 = w7.alloc (Obj.cells (madeCells #[Value.bool false] F) 4) := ⟨_, rfl⟩
      have HBK8 := Lib.hid (show BlkB w8 w7.heap.size 4 (List.replicate F false) by rw [hw8, madeBools7]; exact Blk.new w7 _ _)
      have HB78 := Lib.hid (show Below w7.heap.size w7 w8 by rw [hw8]; exact (Below.refl _ _).alloc (Nat.le_refl _) _)
      have hs8 : w7.heap.size + 1 = w8.heap.size := by rw [hw8]; simp
      rw [← hw8]
      clear hw8 hmk
      go_loopg [39] (F + 1) (fun gk i wr => ∃ (j : Nat) (z : List Bool), j ≤ F ∧ gk = F - j + 1 ∧ i = .int .i64 j ∧ Hid (z.length = F) ∧ BlkB wr w7.heap.size 4 z ∧ w8.grownBy wr (some w7.heap.size))
      case atStart => exact ⟨0, _, by omega, by omega, rfl, Lib.hid (by simp), HBK8.out, World.grownBy.refl _ _⟩
      case round =>
        obtain ⟨j, z, hj, rfl, rfl, hz, hbk, hgr⟩ := hrel
        have HBKr := Lib.hid hbk
        have HGr := Lib.hid hgr
        clear hbk hgr HBK8
        by_cases hjl : j < F
        · have hc : wr.cell? ⟨w7.heap.size, j, none⟩ = some (.bool (z.getD j false)) := HBKr.out.cell (by rw [hz.out]; omega)
          have hf : wr.frozen? ⟨w7.heap.size, j, none⟩ = false := HBKr.out.frozen j
          obtain ⟨zj, hzj⟩ : ∃ zj, zj = z.getD j false := ⟨_, rfl⟩
          rw [← hzj] at hc
          clear hzj
          go_wp2
          go_roundg (F - j)
          case measure => omega
          case rel => exact ⟨j + 1, _, by omega, by omega, by go_num, Lib.hid (by simp [hz.out]), HBKr.out.set_ j _, grown_trans HGr.out (grown_setCell _ ⟨w7.heap.size, j, none⟩ _)⟩
        · have hbl := HB78.out.trans (below_of_grown HGr.out (show w7.heap.size ≤ w8.heap.size by omega) (Nat.le_refl _))
          have hjF : F = j := by omega
          obtain ⟨w9, rfl⟩ : ∃ w9 : World, w9 = wr := ⟨_, rfl⟩
          have HB9 := Lib.hid (HB7.out.trans (hbl.mono HB7.out.size))
          have HB59 := Lib.hid (HB57.out.trans (hbl.mono (by omega)))
          have HSX9 := Lib.hid (HSX7.out.below hbl)
          have HAP9 := Lib.hid (HAP7.out.under hbl)
          have HBZ9 : Hid (Bz w9 X w7.heap.size z) := Lib.hid ⟨HBKr.out, by omega⟩
          have hs9 := hbl.size
          have f1 : w9.cell? ⟨w4.heap.size, 1, none⟩ = some (.slice A4 cs.length c4) := ((HLO.out w9 HB59.out).2.2.cell 1)
          have HF1 := Lib.hid f1
          have HIM := Lib.hid (fun w' (hb : Below w9.heap.size w9 w') => implied_sx (HSX9.out.below hb) (HAP9.out.under hb) HLT.out (by omega))
          have HRM := Lib.hid (fun w' (hb : Below w5.heap.size w5 w' ∧ Ints w' w'.heap.size A7 L) => implied_any07 cs L w'.heap.size w'.heap.size A4 A7 c4 c7 w' (by omega) (HFM.out.mid (by omega)) (Nat.le_trans HFM.out.flat (by omega)) (mid_lt7 (by omega) (by omega) HLT.out) (by omega) ((HLO.out w' hb.1).2.1.rows (HLO.out w' hb.1).1) hb.2 (Nat.le_refl _) (Nat.le_refl _))
          have HR0 : Hid (Below w5.heap.size w5 w9.drew ∧ Ints w9.drew w9.drew.heap.size A7 L) := Lib.hid ⟨HB59.out.drew, (HAP9.out.under (Below.refl _ _).drew).ints⟩
          have HB0 : Hid (Below w9.heap.size w9 w9.drew) := Lib.hid (Below.refl _ _).drew
          have HLF := Lib.hid (fun w' (hb : Below w5.heap.size w5 w') => (show w'.cell? ⟨w4.heap.size, 1, none⟩ = some (.slice A4 cs.length c4) from (HLO.out w' hb).2.2.cell 1))
          subst hjF
          clear hbl hj hjl HGr HBKr HSX7 HAP7 HB57 HB78 HSX f1
          go_upto_region 16 with fail
          go_cut [58] (fun vv wx => vv = .bool false ∧ ∃ X', Sx wx base s F (cs.map normOf) cs.length X' ∧ Apart wx X' w6.heap.size A7 c7 L ∧ Below base w9 wx ∧ Bz wx X' w7.heap.size z)
          case first =>
            go_region_held3 (fun w' => w'.cell? ⟨w4.heap.size, 1, none⟩ = some (.slice A4 cs.length c4)) (first | exact KKB.out | exact KKA.out | exact HF1.out | go_keep)
              (first
                | (go_at_call 18
                   refine (HIM.out _ HB0.out).mono ?_
                   rintro eA wA ⟨XA, bA, rfl, hsxA, htA, hlA, hbA⟩
                   have HA := Lib.hid (⟨hsxA, htA, hlA, hbA⟩ : _ ∧ _ ∧ _ ∧ _)
                   have HR1 : Hid (Below w5.heap.size w5 wA ∧ Ints wA wA.heap.size A7 L) := Lib.hid ⟨HB59.out.trans ((show Below base w9 wA from ⟨htA.below.os, htA.below.tape, htA.below.output, htA.below.size, htA.below.block⟩).mono hbase), ((HSX9.out.below HB0.out).turn (HAP9.out.under HB0.out) htA hlA).ints⟩
                   have KKA := Lib.hid (HLF.out wA HR1.out.1)
                   clear hsxA htA hlA hbA)
                | (go_at_call 19
                   refine (HRM.out _ HR1.out).mono ?_
                   rintro eB wB ⟨bB, rfl, hbB, hbeB⟩
                   have HBB := Lib.hid (⟨hbB, hbeB⟩ : _ ∧ _)
                   have KKB : Hid (wB.cell? ⟨w4.heap.size, 1, none⟩ = some (.slice A4 cs.length c4)) := Lib.hid (HLF.out wB (HR1.out.1.trans (hbeB.mono HR1.out.1.size)))
                   clear hbB hbeB))
            obtain ⟨hsxA, htA, hlA, hbA⟩ := HA.out
            obtain ⟨hbB, hbeB⟩ := HBB.out
            have hbb : bA = bB := by
              rw [Bool.eq_iff_iff, hbA, hbB]
              exact clash_congr (alike_norm cs).symm fun _ => Iff.rfl
            have hsA := htA.below.size
            have hbw : base ≤ w9.heap.size := by have := HSX9.out.lt; omega
            have HEND : Hid (∃ X', Sx wB base s F (cs.map normOf) cs.length X' ∧ Apart wB X' w6.heap.size A7 c7 L ∧ Below base w9 wB ∧ Bz wB X' w7.heap.size z) :=
              Lib.hid ⟨XA, hsxA.below hbeB, ((HSX9.out.below HB0.out).turn (HAP9.out.under HB0.out) htA hlA).under hbeB, (show Below base w9 wA from ⟨htA.below.os, htA.below.tape, htA.below.output, htA.below.size, htA.below.block⟩).trans (hbeB.mono (Nat.le_trans hbw hsA)), ((HSX9.out.below HB0.out).bz (HBZ9.out.below HB0.out) htA hlA).below hbeB⟩
            clear hsxA htA hlA hbA hbB hbeB hsA hbw
            subst hbb
            go_wp2_with fail
            go_meet
            exact ⟨by cases bA <;> rfl, HEND.out⟩
          case rest =>
            obtain ⟨rfl, X1, hsx, hap, hbw, hbz⟩ := hcut
            have HSXc := Lib.hid hsx
            have HAPc := Lib.hid hap
            have HBWc := Lib.hid hbw
            have HBZc := Lib.hid hbz
            clear hsx hap hbw hbz HSX9 HAP9 HBZ9 HIM HRM HR0 HB0 HF1
            go_upto_region 18 with fail
            go_cut [76] (fun vv wx => vv = .bool false ∧ ∃ X', Sx wx base s F (cs.map normOf) cs.length X' ∧ Below base w9 wx)
            case first =>
              have HB5c := Lib.hid (HB59.out.trans (HBWc.out.mono hbase))
              have HIP := Lib.hid (implied_sx HSXc.out HAPc.out HLT.out (by omega))
              go_wp2_with fail
              refine HIP.out.mono ?_
              rintro e w11 ⟨X2, b, rfl, hsx, ht, hl, hb⟩
              have HSX2 := Lib.hid hsx
              have HAP2 := Lib.hid (HSXc.out.turn HAPc.out ht hl)
              have HBZ2 := Lib.hid (HSXc.out.bz HBZc.out ht hl)
              have HBW2 := Lib.hid (HBWc.out.trans ht.below)
              have HB52 := Lib.hid (HB5c.out.trans (ht.below.mono hbase))
              have HCL := Lib.hid hb
              clear hsx ht hl hb HSXc HAPc HBZc HIP
              cases b with
              | false =>
                go_wp2_with fail
                go_meet
                exact ⟨rfl, X2, HSX2.out, HBW2.out⟩
              | true =>
                have f0 := (HLO.out w11 HB52.out).2.2.cell 0
                have f1 := (HLO.out w11 HB52.out).2.2.cell 1
                simp at f0 f1
                have hzl := hz.out
                have HDH := Lib.hid (docholds_any F cs w11.heap.size w11.heap.size A4 (some ⟨w7.heap.size, 0, none⟩) z c4 F w11 (by omega) (fun j => HFM.out.short7 j) (fun j k => by rw [hzl]; exact HFM.out.bd7 j k) (by omega) ((HLO.out w11 HB52.out).2.1.rows (HLO.out w11 HB52.out).1) HBZ2.out.1.bools (Nat.le_refl _) (Nat.le_refl _))
                rw [hzl] at HDH
                clear hzl
                go_wp2_with fail
                refine HDH.out.mono ?_
                rintro e w12 ⟨rfl, hb12⟩
                have HSX3 := Lib.hid (HSX2.out.below hb12)
                have HAP3 := Lib.hid (HAP2.out.under hb12)
                have HBZ3 := Lib.hid (HBZ2.out.below hb12)
                have hsz : base ≤ w11.heap.size := by have := HSX2.out.lt; omega
                have HBW3 := Lib.hid (HBW2.out.trans (hb12.mono hsz))
                have HB53 := Lib.hid (HB52.out.trans (hb12.mono HB52.out.size))
                clear hb12 HSX2 HAP2 HBZ2 HBW2 f0 f1 HDH
                cases hfs : formSat z cs with
                | false =>
                  go_wp2_with fail
                  go_meet
                  exact ⟨rfl, X2, HSX3.out, HBW3.out⟩
                | true =>
                  have HFS := Lib.hid hfs
                  have f0 := (HLO.out w12 HB53.out).2.2.cell 0
                  simp at f0
                  obtain ⟨w13, hw13⟩ : ∃ w13, w13 = w12.alloc (.cells #[.slice A7 L.length c7] 34) := ⟨_, rfl⟩
                  have hb13 : Below w12.heap.size w12 w13 := by rw [hw13]; exact (Below.refl _ _).alloc (Nat.le_refl _) _
                  have HRO := Lib.hid (show Rows w13 w13.heap.size (some ⟨w12.heap.size, 0, none⟩) [L] by rw [hw13]; exact rows_one7 HAP3.out.own _ rfl)
                  have hzl := hz.out
                  have HDH := Lib.hid (docholds_any F [L] w13.heap.size w13.heap.size (some ⟨w12.heap.size, 0, none⟩) (some ⟨w7.heap.size, 0, none⟩) z 1 F w13 (by simp) (fun j => by rcases j with _ | j <;> simp [List.getD]; omega) (fun j k => by rw [hzl]; exact one_bd7 HLT.out j k) (by omega) HRO.out (HBZ3.out.below hb13).1.bools (Nat.le_refl _) (Nat.le_refl _))
                  have hsat : formSat z [L] = true := by
                    have h1 := implied_sat (c := L) HFS.out (by rw [hzl]; exact HLT.out) ((clash_congr (alike_norm cs).symm fun _ => Iff.rfl).1 (HCL.out.1 (by first | rfl | trivial)))
                    simp [formSat, h1]
                  rw [hzl, hsat] at HDH
                  have HSX4 := Lib.hid (HSX3.out.below hb13)
                  have HBW4 := Lib.hid (HBW3.out.trans (hb13.mono (by have := HSX3.out.lt; omega)))
                  have HW13 := Lib.hid hw13
                  clear hzl hsat hb13 hw13 hfs
                  go_wp2_with fail
                  rw [← HW13.out]
                  refine HDH.out.mono ?_
                  rintro e w14 ⟨rfl, hb14⟩
                  have HFIN : Hid (∃ X', Sx w14 base s F (cs.map normOf) cs.length X' ∧ Below base w9 w14) := Lib.hid ⟨X2, HSX4.out.below hb14, HBW4.out.trans (hb14.mono (by have := HSX4.out.lt; omega))⟩
                  clear hb14
                  go_wp2_with fail
                  go_meet
                  exact ⟨rfl, HFIN.out⟩
            case rest =>
              obtain ⟨rfl, X1, hsx, hbw⟩ := hcut
              have HSXd := Lib.hid hsx
              have HBWd := Lib.hid hbw
              have HB5d := Lib.hid (HB59.out.trans (hbw.mono hbase))
              have f1 := (HLO.out _ HB5d.out).2.2.cell 1
              simp at f1
              clear hsx hbw HSXc HAPc HBWc HBZc
              go_wp2
              go_loopg [80] (cs.length + 1) (fun gk i wr => ∃ (k : Nat) (Y : SX), k ≤ cs.length ∧ gk = cs.length - k + 1 ∧ i = .int .i64 k ∧ Hid (Sx wr base s F (cs.map normOf) cs.length Y) ∧ Hid (Below base w9 wr))
              case atStart => exact ⟨0, X1, by omega, by omega, rfl, HSXd, HBWd⟩
              case round =>
                obtain ⟨k, Y, hk, rfl, rfl, HSXr, HBWr⟩ := hrel
                have HB5r := Lib.hid (HB59.out.trans (HBWr.out.mono hbase))
                by_cases hlt : k < cs.length
                · obtain ⟨Ak, ck, hvk, hok5⟩ := (HLO.out w5 (Below.refl _ _)).2.1.each k hlt
                  have hok := own_below hok5 HB5r.out fun g hg => (hok5.lt g hg).2
                  have hob := (HLO.out wr HB5r.out).1
                  have hcell : ∃ g, A4 = some ⟨g, 0, none⟩ ∧ wr.cell? ⟨g, k, none⟩ = some (.slice Ak (cs.getD k []).length ck) := by
                    obtain ⟨g, rfl, _, _⟩ := own_addr hob (by omega)
                    exact ⟨g, rfl, by rw [World.ownsRow.cellAt hob k (by omega)]; exact hvk⟩
                  obtain ⟨g, rfl, hc⟩ := hcell
                  have hmem : cs.getD k [] ∈ cs := rows_row hlt
                  obtain ⟨hd1, hd2⟩ := HFM.out.each _ hmem
                  have hap : Apart wr Y w3.heap.size Ak ck (cs.getD k []) := HSXr.out.apart_low hok fun g hg => by have := (hok5.lt g hg).2; omega
                  obtain ⟨d, hdd⟩ : ∃ d, d = cs.getD k [] := ⟨_, rfl⟩
                  rw [← hdd] at hc hmem hd1 hd2 hap
                  have HAPk := Lib.hid hap
                  have HD2 := Lib.hid hd2
                  have HMEM := Lib.hid hmem
                  have HIP := Lib.hid (implied_sx HSXr.out hap hd2 (by omega))
                  clear hvk hok5 hok hob hmem hd2 hap hdd
                  go_wp2_with fail
                  refine HIP.out.mono ?_
                  rintro e w11 ⟨Y2, b, rfl, hsx, ht, hl, hb⟩
                  obtain rfl : b = true := hb.2 (.inr ⟨normOf d, List.mem_map_of_mem HMEM.out, fun y hy => .given (List.mem_map.2 ⟨y, mem_normOf.1 hy, rfl⟩)⟩)
                  have HSX2 := Lib.hid hsx
                  have HBW2 := Lib.hid (HBWr.out.trans ht.below)
                  have HIN2 := Lib.hid (HSXr.out.turn HAPk.out ht hl).ints
                  have HBB := Lib.hid (HB9.out.trans (HBW2.out.mono (Nat.le_trans HB5.out.size hbase)))
                  have HHA := Lib.hid (has_sx (c := ck) hsx HIN2.out (Nat.le_refl _) (by omega) (fun x hx => by obtain ⟨a1, a2, a3⟩ := HD2.out x hx; omega) (HT.out.on HBB.out).here)
                  rw [decide_eq_true (List.mem_map_of_mem (f := normOf) HMEM.out)] at HHA
                  clear hsx ht hl hb hc
                  go_wp2_with fail
                  refine HHA.out.mono ?_
                  rintro e w12 ⟨rfl, hb12⟩
                  have HSX3 := Lib.hid (HSX2.out.below hb12)
                  have HBW3 := Lib.hid (HBW2.out.trans (hb12.mono (by have := HSX2.out.lt; omega)))
                  clear hb12
                  go_wp2
                  go_roundg (cs.length - k)
                  case measure => omega
                  case rel => exact ⟨k + 1, Y2, by omega, by omega, by go_num, HSX3, HBW3⟩
                · obtain rfl : k = cs.length := by omega
                  go_wp2
                  go_ret
                  exact ⟨rfl, HB9.out.trans (HBWr.out.mono (Nat.le_trans HB5.out.size hbase))⟩
theorem holds_raw (u : Int) (nss : List (List Int)) (A : Option Addr) (c : Nat) (ns1 : List Int) (A1 : Option Addr) (c1 : Nat) (bits : Int) (w : World) (hu : (Lit.int .u8 u).wf = true) (hx : nss.length ≤ 5864062014805) (hm : ∀ j, (nss.getD j []).length * 2 ≤ 140737488351232) (hn : ∀ j i, (Lit.int .i16 ((nss.getD j []).getD i 0)).wf = true) (h : KRows .i16 w w.heap.size A nss) (hl1 : ns1.length ≤ 70368744175616) (hb1 : ∀ j, (Lit.int .i16 (ns1.getD j 0)).wf = true) (h1 : KInts .i16 w w.heap.size A1 ns1) (hT : Tab7 w) :
    Calls Tryd.prog 4 #[.agg #[.int .u8 u, .slice A nss.length c], .slice A1 ns1.length c1, .int .u16 bits] w fun e w' => e = .returned (.bool true) ∧ Below w.heap.size w w' := by
  obtain ⟨v, rfl, hv⟩ := raw_nat7 hu
  exact holds_law v nss A c ns1 A1 c1 bits w hv (by omega) (raw_rows7 hm hn).1 (raw_rows7 hm hn).2 h hl1 (raw_ints7 hb1) h1 hT
end Go.Proofs.YtbjccfdmedbkjaaDoor
