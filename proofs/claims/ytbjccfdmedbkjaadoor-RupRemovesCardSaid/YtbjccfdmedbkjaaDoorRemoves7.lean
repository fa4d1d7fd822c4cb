/- Clauses go one by one: the walk. -/
import Derived.Test.YtbjccfdmedbkjaaDoorRemRef07
import Derived.Test.YtbjccfdmedbkjaaDoorDoor7
namespace Go.Proofs.YtbjccfdmedbkjaaDoor
open Go.RowKit
set_option linter.unusedVariables false
set_option linter.unusedSimpArgs false

set_option maxRecDepth 100000 in
set_option maxHeartbeats 3200000 in
theorem removes_law (v : Nat) (nss : List (List Int)) (A : Option Addr) (c : Nat) (ms : List (List Int)) (Al : Option Addr) (cl : Nat) (w : World) (hv : v ≤ 255) (hx : nss.length ≤ 140737488355328) (hl : ∀ j, (nss.getD j []).length ≤ 140737488355328) (hn : ∀ j k, -32768 ≤ (nss.getD j []).getD k 0 ∧ (nss.getD j []).getD k 0 ≤ 32767) (h : KRows .i16 w w.heap.size A nss) (hT : Tab7 w) (hml : ms.length ≤ 140737488355328) (hlm : ∀ j, (ms.getD j []).length ≤ 140737488355328) (hnm : ∀ j k, -32768 ≤ (ms.getD j []).getD k 0 ∧ (ms.getD j []).getD k 0 ≤ 32767) (hkm : KRows .i16 w w.heap.size Al ms) :
    Calls Tryd.prog 5 #[.agg #[.int .u8 v, .slice A nss.length c], .slice Al ms.length cl] w fun e w' => e = .returned (.bool true) ∧ Below w.heap.size w w' := by
  have H := Lib.hid h
  have HL := Lib.hid hl
  have HN := Lib.hid hn
  have HT := Lib.hid hT.b
  have HLM := Lib.hid hlm
  have HNM := Lib.hid hnm
  have HKM := Lib.hid hkm
  clear h hl hn hT hlm hnm hkm
  go_enter Tryd.func5, Tryd.ntmps5
  go_wp2_with fail
  obtain ⟨w1, hw1⟩ : ∃ w1, w1 = w.alloc (Obj.cells #[Value.int IntKind.u8 v, Value.slice A nss.length c] 24) := ⟨_, rfl⟩
  have HR1 := Lib.hid (show KRows .i16 w1 w.heap.size A nss by rw [hw1]; exact H.out.alloc (Nat.le_refl _) _)
  have HB1 := Lib.hid (show Below w.heap.size w w1 by rw [hw1]; exact (Below.refl _ _).alloc (Nat.le_refl _) _)
  have HK1 := Lib.hid (show Blk w1 w.heap.size 24 #[Value.int IntKind.u8 v, Value.slice A nss.length c] by rw [hw1]; exact Blk.new w _ _)
  rw [← hw1]
  clear hw1
  refine (fit07_any w1 (HT.out.on HB1.out).here).mono ?_
  rintro e w2 ⟨rfl, hb2⟩
  have HR2 := Lib.hid (HR1.out.below (hb2.mono HB1.out.size))
  have HB2 := Lib.hid (HB1.out.trans (hb2.mono HB1.out.size))
  have HK2 := Lib.hid (HK1.out.below hb2 HK1.out.lt)
  clear hb2 HR1 HB1 HK1
  have k0 := HK2.out.cell 0
  have k1 := HK2.out.cell 1
  simp at k0 k1
  go_wp2_with fail
  refine (light_any v nss _ A c 40 w2 (by omega) hx HL.out HR2.out HB2.out.size).mono ?_
  rintro e w3 ⟨rfl, hb3⟩
  have HR3 := Lib.hid (HR2.out.below (hb3.mono HB2.out.size))
  have HB3 := Lib.hid (HB2.out.trans (hb3.mono HB2.out.size))
  have HK3 := Lib.hid (HK2.out.below hb3 HK2.out.lt)
  clear hb3 HR2 HB2 HK2 k0 k1
  have k0 := HK3.out.cell 0
  have k1 := HK3.out.cell 1
  simp at k0 k1
  rcases hlt : light nss 40 with _ | _
  · go_wp2
    go_ret
    exact ⟨rfl, HB3.out⟩
  · by_cases hov : 30 < ms.length
    · go_wp2
      go_ret
      exact ⟨rfl, HB3.out⟩
    · have hls := rows_light7 hlt (by omega)
      have hF : v % (5 + 1) ≤ 5 := by omega
      have hFM := form7_raw (F := v % (5 + 1)) (width := 4) hlt (by omega) (by omega)
      clear hlt
      go_wp2_with fail
      refine (formula_any v nss _ A c 5 4 w3 hv (by omega) (by omega) hls.1 hls.2 HN.out HR3.out HB3.out.size).mono ?_
      obtain ⟨F, hFF⟩ : ∃ F, F = v % (5 + 1) := ⟨_, rfl⟩
      rw [← hFF] at hF hFM ⊢
      clear hFF
      obtain ⟨cs, hcs⟩ : ∃ cs, cs = rawForm F 4 nss := ⟨_, rfl⟩
      rw [← hcs] at hFM ⊢
      clear hcs
      have HFM := Lib.hid hFM
      have hfew := hFM.few
      rintro e w4 ⟨A4, c4, vs, rfl, hown4, hlist4, hb4⟩
      have HB4 := Lib.hid (HB3.out.trans (hb4.mono HB3.out.size))
      have HO4 := Lib.hid hown4
      have HLI4 := Lib.hid hlist4
      clear hFM hown4 hlist4 hb4 HR3 HB3 HK3 k0 k1 hls
      obtain ⟨w5, hw5⟩ : ∃ w5, w5 = w4.alloc (Obj.cells #[Value.int IntKind.i64 F, Value.slice A4 cs.length c4] 30) := ⟨_, rfl⟩
      have HFB5 := Lib.hid (show Blk w5 w4.heap.size 30 #[Value.int IntKind.i64 F, Value.slice A4 cs.length c4] by rw [hw5]; exact Blk.new w4 _ _)
      have hb45 : Below w4.heap.size w4 w5 := by rw [hw5]; exact (Below.refl _ _).alloc (Nat.le_refl _) _
      have HO5 := Lib.hid (own_below HO4.out hb45 fun g hg => (HO4.out.lt g hg).2)
      have HLI5 := Lib.hid (HLI4.out.below hb45 (Nat.le_refl _))
      have HB5 := Lib.hid (HB4.out.trans (hb45.mono HB4.out.size))
      have hs5 : w4.heap.size + 1 = w5.heap.size := by rw [hw5]; simp
      have hs4 := HB4.out.size
      have HST := Lib.hid (store_sx F cs vs _ _ A4 c4 w5 (by omega) (by omega) HFM.out.big HO5.out HLI5.out (HT.out.on HB5.out).here)
      have HW5 := Lib.hid hw5
      clear hw5 hb45 HO4 HLI4 HB4
      go_wp2_with fail
      rw [← HW5.out]
      refine HST.out.mono ?_
      rintro e w6 ⟨base, s, X, rfl, hbase, hsx, hb6⟩
      have HSX := Lib.hid hsx
      have HB6 := Lib.hid (HB5.out.trans (hb6.mono HB5.out.size))
      have HFB6 := Lib.hid (HFB5.out.below hb6 HFB5.out.lt)
      have HO6 := Lib.hid (own_below HO5.out hb6 fun g hg => (HO5.out.lt g hg).2)
      have HLI6 := Lib.hid (HLI5.out.below hb6 (Nat.le_refl _))
      have hs6 := hb6.size
      have HLO : Hid (∀ w', Below w5.heap.size w5 w' → w'.ownsRow w3.heap.size 34 1 (.slice A4 cs.length c4) cs.length vs ∧ OwnList w' w3.heap.size 3 vs cs ∧ Blk w' w4.heap.size 30 #[Value.int IntKind.i64 F, Value.slice A4 cs.length c4]) := Lib.hid fun w' hb => ⟨own_below HO5.out hb fun g hg => (HO5.out.lt g hg).2, HLI5.out.below hb (Nat.le_refl _), HFB5.out.below hb HFB5.out.lt⟩
      have HB56 := Lib.hid hb6
      clear hsx hb6 HO5 HLI5 HFB5 HST HW5
      have f0 := HFB6.out.cell 0
      have f1 := HFB6.out.cell 1
      simp at f0 f1
      obtain ⟨i0, hi, hz0, hz1, hz2⟩ := info_parts infoRow8
      obtain ⟨ii0, hii, hzi0, hzi1, hzi2⟩ := info_parts Tryd.infoInt3
      have HC6 := Lib.hid (cells_of_own HO6.out undef)
      have HONE : Hid (∀ j, j < cs.length → (vs.getD j undef).oneCell' = true) := Lib.hid fun j hj => by obtain ⟨Aq, cq, e, _⟩ := HLI6.out.each j hj; simp only [List.getD]; rw [e]; rfl
      go_wp2_with (
        at_builtin
        refine wpList_append_cells _ rfl _ _ 28 rfl w6.heap.size 34 i0 (.slice none 0 0) 24 Tryd.underlying28 hi hz0 hz1 hz2 rfl (.slice none 0 0) 0 [] rfl (World.ownsRow_nil _ _ _ _) w6.heap.size A4 cs.length c4 _ rfl HC6.out HONE.out (by unfold maxLen; omega) (by omega) (Nat.le_refl _) ?_
        intro v7 w7 hown7 hg7 hob7
        obtain ⟨A7, c7, hv7, hc7, _⟩ := own_slice hown7
        subst hv7
        rw [Nat.zero_add, List.nil_append] at hown7
        have hb7 : Below w6.heap.size w6 w7 := ⟨hg7.os, hg7.tape, hg7.output, hg7.size, fun i hi => hg7.block i hi (by simp [Value.ownBlock])⟩
        have HO7 := Lib.hid hown7
        have HB67 := Lib.hid hb7
        rw [Nat.zero_add] at hc7
        have hs7 := hb7.size
        clear hown7 hg7 hob7 hb7
        )
      have HOL7 : Hid (OL w6.heap.size base F w7 cs A7 c7 ((List.range cs.length).map fun j => vs.getD j undef)) := Lib.hid ⟨HO7.out, fun j hj => by
          obtain ⟨Aj, cj, e, ho⟩ := (HLO.out w5 (Below.refl _ _)).2.1.each j hj
          refine ⟨Aj, cj, ?_, ?_⟩
          · simp [List.getD, hj, e]
          · exact Cells.more (Cells.below (ints_of_own ho) (HB56.out.trans (HB67.out.mono hs6))) hbase, HFM.out.each, hfew⟩
      have HSX7 := Lib.hid (HSX.out.below HB67.out)
      have HBb := Lib.hid (show Below base w6 w7 from HB67.out.mono (by have := HSX.out.lt; omega))
      clear HSX HO6 HLI6 HFB6 HC6 HONE HO7 HB67 f0 f1
      go_loopg [37, 7] (ms.length + 1) (fun gk i vo wr => ∃ (k : Nat) (os : List (List Int)) (A2 : Option Addr) (c2 : Nat) (hs : List Value) (Y : SX), k ≤ ms.length ∧ gk = ms.length - k + 1 ∧ i = .int .i64 k ∧ vo = .slice A2 os.length c2 ∧ Hid (Sx wr base s F (os.map normOf) (cs.length + 2 * k) Y) ∧ Hid (OL w6.heap.size base F wr os A2 c2 hs) ∧ Hid (Below base w6 wr))
      case atStart => exact ⟨0, cs, A7, c7, _, X, by omega, by omega, rfl, rfl, HSX7, HOL7, HBb⟩
      case round =>
        obtain ⟨k, os, A2, c2, hs, Y, hk, rfl, rfl, rfl, HSr, HOr, HBr⟩ := hrel
        have HB5r := Lib.hid (HB56.out.trans (HBr.out.mono hbase))
        have HBwr := Lib.hid (HB6.out.trans (HBr.out.mono (Nat.le_trans HB5.out.size hbase)))
        have hfewo := HOr.out.few
        have f0 := (HLO.out wr HB5r.out).2.2.cell 0
        simp at f0
        by_cases hlt : k < ms.length
        · obtain ⟨bm, om, Ak, ck, rfl, hbm, hcm, hrk⟩ := KRows.at_ (KRows.below HKM.out HBwr.out) hlt
          have hnk := fun q => HNM.out k q
          obtain ⟨ns, hns⟩ : ∃ ns, ns = ms.getD k [] := ⟨_, rfl⟩
          rw [← hns] at hcm hrk hnk
          have HRK := Lib.hid hrk
          have HNK := Lib.hid hnk
          clear hrk hnk hns
          by_cases hlen : 10 < ns.length
          · go_wp2
            go_ret
            exact ⟨rfl, HBwr.out⟩
          · go_wp2_with fail
            refine (lits07_any F ns w.heap.size Ak ck wr (by omega) (by omega) HNK.out HRK.out HBwr.out.size).mono ?_
            rintro e wq ⟨Ac, cc, rfl, hownc, hbc⟩
            have hll := lits07_len F ns
            have hLt : ∀ x, x ∈ lits07 F ns → Lt7 F x := lits07_lt
            obtain ⟨L0, hL0⟩ : ∃ L0, L0 = lits07 F ns := ⟨_, rfl⟩
            rw [← hL0] at hownc hll hLt ⊢
            have HLT0 := Lib.hid hLt
            have HI0 := Lib.hid (ints_of_own hownc)
            have HBq := Lib.hid hbc
            have HSq := Lib.hid (HSr.out.below hbc)
            have HOq := Lib.hid (HOr.out.below hbc (by have := HSr.out.lt; omega))
            have hsq := hbc.size
            have HSr' : Hid (base ≤ wr.heap.size) := Lib.hid (by have := HSr.out.lt; omega)
            clear hownc hbc hLt hL0 hcm f0 HSr HOr
            go_upto_region 16 with fail
            go_cut [56] (fun vb wx => ∃ bb : Bool, vb = .bool bb ∧ Hid (bb = true → 0 < os.length) ∧ wx = wq)
            case first =>
              by_cases hk2 : (k : Int) % 2 = 0
              · by_cases hos : 0 < os.length
                · go_wp2_with fail
                  go_meet
                  exact ⟨true, by rfl, Lib.hid fun _ => hos, rfl⟩
                · go_wp2_with fail
                  go_meet
                  exact ⟨false, by rfl, Lib.hid fun e => by simp at e, rfl⟩
              · go_wp2_with fail
                go_meet
                exact ⟨false, by rfl, Lib.hid fun e => by simp at e, rfl⟩
            case rest =>
              obtain ⟨bb, rfl, HOS, rfl⟩ := hcut
              obtain ⟨wq, rfl⟩ : ∃ w', w' = wc := ⟨_, rfl⟩
              go_upto_if 56 with fail
              go_cut [10] (fun vc wx => ∃ (L : List Int) (Ax : Option Addr) (cx : Nat), vc = .slice Ax L.length cx ∧ L.length ≤ 1000 ∧ Hid (∀ x, x ∈ L → Lt7 F x) ∧ Hid (Ints wx wx.heap.size Ax L) ∧ Hid (Below wq.heap.size wq wx))
              case first =>
                cases bb with
                | false =>
                  go_wp2_with fail
                  go_meet
                  exact ⟨L0, Ac, cc, rfl, by omega, HLT0, HI0, Lib.hid (Below.refl _ _)⟩
                | true =>
                  have hos := HOS.out rfl
                  obtain ⟨q, hq, hqm⟩ : ∃ q, ns.length % os.length = q ∧ ((ns.length : Int) % (os.length : Int) = (q : Int)) := ⟨_, rfl, by omega⟩
                  have hqm' : Int.tmod (ns.length : Int) (os.length : Int) = (q : Int) := by rw [Int.tmod_eq_emod_of_nonneg (by omega)]; exact hqm
                  have hql : q < os.length := by rw [← hq]; exact Nat.mod_lt _ hos
                  obtain ⟨Ad, cd, hvd, hid⟩ := HOq.out.rows q hql
                  obtain ⟨hd1, hd2⟩ := HOq.out.each _ (rows_row hql)
                  obtain ⟨bo, oo, rfl, hbo, hco⟩ := Cells.at_ (cells_of_own HOq.out.own undef) hql
                  rw [hvd] at hco
                  obtain ⟨d, hdd⟩ : ∃ d, d = os.getD q [] := ⟨_, rfl⟩
                  rw [← hdd] at hco hid hd1 hd2
                  have HID := Lib.hid hid
                  have HD2 := Lib.hid hd2
                  have hsl := HSq.out.lt
                  clear hvd hid hd2 hdd hq
                  go_wp2_with fail
                  go_loopg [67, 10] (d.length + 1) (fun gk i vc wr => ∃ (j : Nat) (Lj : List Int) (Aj : Option Addr) (cj : Nat), j ≤ d.length ∧ gk = d.length - j + 1 ∧ i = .int .i64 j ∧ vc = .slice Aj Lj.length cj ∧ Hid (Lj = (d.take j).reverse) ∧ Hid (Ints wr wr.heap.size Aj Lj) ∧ Hid (Below wq.heap.size wq wr))
                  case atStart => exact ⟨0, [], none, 0, by omega, by omega, rfl, rfl, Lib.hid (by simp), Lib.hid fun h => by simp at h, Lib.hid (Below.refl _ _)⟩
                  case round =>
                    obtain ⟨j, Lj, Aj, cj, hj, rfl, rfl, rfl, HLj, HIj, HBj⟩ := hrel
                    have hjl : Lj.length = j := by rw [HLj.out]; simp; omega
                    have hjl1 : Lj.length ≤ j := by omega
                    have hjl2 : j ≤ Lj.length := by omega
                    clear hjl
                    by_cases hjd : j < d.length
                    · obtain ⟨bd, od, rfl, hbd, hcd⟩ := Cells.at_ (Cells.below HID.out (HBj.out.mono (by omega))) hjd
                      have htk : d.take (j + 1) = d.take j ++ [d.getD j 0] := (take_snoc7 hjd).1
                      obtain ⟨x, hx⟩ : ∃ x, x = d.getD j 0 := ⟨_, rfl⟩
                      rw [← hx] at hcd htk
                      have HTK := Lib.hid htk
                      have HCA : Hid (Cells (wr.alloc (.cells #[.int .i64 x] 3)) wr.heap.size Aj Lj.length fun j => .int .i64 (Lj.getD j 0)) := Lib.hid (Cells.alloc HIj.out (Nat.le_refl _) _)
                      clear htk hx
                      go_wp2_with (
                        at_builtin
                        refine wpList_append_cells _ rfl _ _ 34 rfl wr.heap.size 3 ii0 (.int .i64 0) 8 Tryd.underlying34 hii hzi0 hzi1 hzi2 rfl (.slice (some ⟨wr.heap.size, 0, none⟩) 1 1) 1 _ rfl (one_own8 wr x) wr.heap.size Aj Lj.length cj _ rfl HCA.out (fun j hj => rfl) (by unfold maxLen; omega) (by omega) (by simp) ?_
                        intro v3 w3 hown3 hg3 hob3
                        obtain ⟨A3, c3, hv3, _⟩ := own_slice hown3
                        rw [Nat.add_comm 1] at hv3
                        rw [range_ints07, Nat.add_comm 1] at hown3
                        subst hv3
                        have hb3 : Below wr.heap.size wr w3 := (((Below.refl _ _).alloc (Nat.le_refl _) _) : Below wr.heap.size wr (wr.alloc (.cells #[.int .i64 x] 3))).grown hg3 (by simp) (fun g hg => by simp [Value.ownBlock] at hg; omega)
                        have HI3 := Lib.hid (ints_of_own (xs := x :: Lj) hown3)
                        have HB3 := Lib.hid (HBj.out.trans (hb3.mono HBj.out.size))
                        clear hown3 hg3 hob3 hb3
                        )
                      go_roundg (d.length - j)
                      case measure => omega
                      case rel => exact ⟨j + 1, x :: Lj, A3, c3, by omega, by omega, by go_num, by rfl, Lib.hid (by rw [HTK.out, HLj.out]; simp), HI3, HB3⟩
                    · obtain rfl : j = d.length := by omega
                      rw [List.take_length] at HLj
                      go_wp2_with fail
                      go_meet
                      exact ⟨Lj, Aj, cj, rfl, by omega, Lib.hid fun x hx => HD2.out x (by rw [HLj.out] at hx; exact List.mem_reverse.1 hx), HIj, HBj⟩
              case rest =>
                obtain ⟨L, Ax, cx, rfl, hLl, HLT, HIx, HBx⟩ := hcut
                obtain ⟨wx, rfl⟩ : ∃ w', w' = wc := ⟨_, rfl⟩
                have HSx := Lib.hid (HSq.out.below HBx.out)
                have HOx := Lib.hid (HOq.out.below HBx.out (by have := HSq.out.lt; omega))
                have HBbx := Lib.hid (HBr.out.trans ((HBq.out.trans (HBx.out.mono hsq)).mono (by have := HSr'.out; omega)))
                have hsx := HBx.out.size
                have hbx : w6.heap.size ≤ wx.heap.size := HBbx.out.size
                have HRM := Lib.hid (remref_any os L wx.heap.size wx.heap.size base A2 Ax c2 cx (fun j => hs.getD j undef) wx (by omega) (fun j => Nat.le_trans (HOx.out.short j) (by omega)) (by omega) HOx.out.own8 HIx.out (Nat.le_refl _) (by have := HSx.out.lt; omega) (Nat.le_refl _))
                clear HSq HOq HBq HI0 HLT0
                go_wp2_with fail
                refine HRM.out.mono ?_
                intro e wz hrem
                obtain ⟨A3, c3, hs3, rfl, hol, hbz⟩ := HOx.out.removed hrem hbx
                have HOz := Lib.hid hol
                have HSz := Lib.hid (HSx.out.below hbz)
                have HIz := Lib.hid ((Cells.below HIx.out hbz).more hbz.size)
                have HBz := Lib.hid (HBbx.out.trans (hbz.mono (by have := HSx.out.lt; omega)))
                have HTz := Lib.hid (HT.out.on (HB6.out.trans (HBz.out.mono (Nat.le_trans HB5.out.size hbase)))).here
                have hLm : ∀ x, x ∈ L → -1000000 ≤ x ∧ x ≤ 1000000 := fun x hx => by obtain ⟨a1, a2, a3⟩ := HLT.out x hx; omega
                have HLM := Lib.hid hLm
                have HHA := Lib.hid (has_sx (c := cx) HSz.out HIz.out (Nat.le_refl _) (by omega) hLm HTz.out)
                clear hol hbz hLm hrem HRM HSx HOx HIx
                rcases hba : os.any (sameN L) with _ | _
                · have HD := Lib.hid (show decide (normOf L ∈ os.map normOf) = false by rw [← any_norm]; exact hba)
                  rw [HD.out] at HHA
                  clear hba
                  go_wp2_with fail
                  refine HHA.out.mono ?_
                  rintro e wy ⟨rfl, hby⟩
                  have hbz2 : base ≤ wz.heap.size := by have := HSz.out.lt; omega
                  have HSy := Lib.hid (HSz.out.below hby)
                  have HOy := Lib.hid (HOz.out.below hby hbz2)
                  have HIy := Lib.hid (Cells.more (Cells.below HIz.out hby) hby.size)
                  have HBy := Lib.hid (HBz.out.trans (hby.mono hbz2))
                  have HTy := Lib.hid (HT.out.on (HB6.out.trans (HBy.out.mono (Nat.le_trans HB5.out.size hbase)))).here
                  have HRV := Lib.hid (remove_sx (c := cx) HSy.out HIy.out (Nat.le_refl _) (by omega) HLM.out HTy.out (by omega))
                  rw [HD.out, erase_norm] at HRV
                  clear hby hbz2 HHA HSz HOz HIz HBz HTz
                  go_wp2_with fail
                  refine HRV.out.mono ?_
                  rintro e wv ⟨rfl, Y2, hsv, htv, hlv⟩
                  have HSv := Lib.hid hsv
                  have HOv := Lib.hid (HOy.out.tn HSy.out htv)
                  have HBv := Lib.hid (HBy.out.trans htv.below)
                  have HLE := Lib.hid (len_sx hsv)
                  rw [List.length_map] at HLE
                  clear hsv htv hlv HRV HSy HOy HIy HBy HTy
                  go_wp2_with fail
                  refine HLE.out.mono ?_
                  rintro e wu ⟨rfl, q, rfl⟩
                  have HSu := Lib.hid (HSv.out.below (below_drewN (Below.refl _ _) q))
                  have HOu := Lib.hid (HOv.out.below (below_drewN (Below.refl _ _) q) (by have := HSv.out.lt; omega))
                  have HBu := Lib.hid (below_drewN HBv.out q)
                  clear HSv HOv HBv HLE
                  go_wp2
                  go_roundg (ms.length - k)
                  case measure => omega
                  case rel => exact ⟨k + 1, os.eraseP (sameN L), A3, c3, hs3, Y2, by omega, by omega, by go_num, by rfl, Lib.hid (HSu.out.more (by omega)), HOu, HBu⟩
                · have HD := Lib.hid (show decide (normOf L ∈ os.map normOf) = true by rw [← any_norm]; exact hba)
                  rw [HD.out] at HHA
                  clear hba
                  go_wp2_with fail
                  refine HHA.out.mono ?_
                  rintro e wy ⟨rfl, hby⟩
                  have hbz2 : base ≤ wz.heap.size := by have := HSz.out.lt; omega
                  have HSy := Lib.hid (HSz.out.below hby)
                  have HOy := Lib.hid (HOz.out.below hby hbz2)
                  have HIy := Lib.hid (Cells.more (Cells.below HIz.out hby) hby.size)
                  have HBy := Lib.hid (HBz.out.trans (hby.mono hbz2))
                  have HTy := Lib.hid (HT.out.on (HB6.out.trans (HBy.out.mono (Nat.le_trans HB5.out.size hbase)))).here
                  have HRV := Lib.hid (remove_sx (c := cx) HSy.out HIy.out (Nat.le_refl _) (by omega) HLM.out HTy.out (by omega))
                  rw [HD.out, erase_norm] at HRV
                  clear hby hbz2 HHA HSz HOz HIz HBz HTz
                  go_wp2_with fail
                  refine HRV.out.mono ?_
                  rintro e wv ⟨rfl, Y2, hsv, htv, hlv⟩
                  have HSv := Lib.hid hsv
                  have HOv := Lib.hid (HOy.out.tn HSy.out htv)
                  have HBv := Lib.hid (HBy.out.trans htv.below)
                  have HLE := Lib.hid (len_sx hsv)
                  rw [List.length_map] at HLE
                  clear hsv htv hlv HRV HSy HOy HIy HBy HTy
                  go_wp2_with fail
                  refine HLE.out.mono ?_
                  rintro e wu ⟨rfl, q, rfl⟩
                  have HSu := Lib.hid (HSv.out.below (below_drewN (Below.refl _ _) q))
                  have HOu := Lib.hid (HOv.out.below (below_drewN (Below.refl _ _) q) (by have := HSv.out.lt; omega))
                  have HBu := Lib.hid (below_drewN HBv.out q)
                  clear HSv HOv HBv HLE
                  go_wp2
                  go_roundg (ms.length - k)
                  case measure => omega
                  case rel => exact ⟨k + 1, os.eraseP (sameN L), A3, c3, hs3, Y2, by omega, by omega, by go_num, by rfl, Lib.hid (HSu.out.more (by omega)), HOu, HBu⟩
        · obtain rfl : k = ms.length := by omega
          have HLT1 : Hid (¬ Lt7 F ((F : Int) + 1)) := Lib.hid fun h => by have := h.2.2; omega
          have hbs : w.heap.size ≤ base := Nat.le_trans HB5.out.size hbase
          have hbr : base ≤ wr.heap.size := by have := HSr.out.lt; omega
          have hba : Below wr.heap.size wr (wr.alloc (.cells #[.int .i64 ((F : Int) + 1)] 3)) := (Below.refl _ _).alloc (Nat.le_refl _) _
          have HHA := Lib.hid (has_sx (c := 1) (HSr.out.below hba) (one_ints8 wr ((F : Int) + 1)) (Nat.le_refl _) (by simp) (by simp; omega) (HT.out.on (HBwr.out.trans (hba.mono HBwr.out.size))).here)
          rw [no_norm HOr.out.each HLT1.out] at HHA
          go_wp2_with fail
          refine HHA.out.mono ?_
          rintro e w8 ⟨rfl, hb8⟩
          have hb8r : Below wr.heap.size wr w8 := hba.trans (hb8.mono hba.size)
          have HS8 := Lib.hid (HSr.out.below hb8r)
          have HO8 := Lib.hid (HOr.out.below hb8r hbr)
          have HB8 := Lib.hid (HBr.out.trans (hb8r.mono hbr))
          clear hb8 hb8r hba hbr HHA HSr HOr HBr HBwr HB5r f0
          have hb8s : base ≤ w8.heap.size := by have := HS8.out.lt; omega
          have hba : Below w8.heap.size w8 (w8.alloc (.cells #[.int .i64 0] 3)) := (Below.refl _ _).alloc (Nat.le_refl _) _
          have HB8a := Lib.hid (HB8.out.trans (hba.mono hb8s))
          have HO8a := Lib.hid (HO8.out.below hba hb8s)
          have HS8a := Lib.hid (HS8.out.below hba)
          have HRV := Lib.hid (remove_sx (c := 1) HS8a.out (one_ints8 w8 0) (Nat.le_refl _) (by simp) (by simp) (HT.out.on (HB6.out.trans (HB8a.out.mono hbs))).here (by omega))
          have hn0 := no_norm (x := 0) HO8.out.each (fun h : Lt7 F 0 => h.1 rfl)
          rw [hn0, List.erase_of_not_mem (decide_eq_false_iff_not.1 hn0)] at HRV
          clear hn0 hba
          go_wp2_with fail
          refine HRV.out.mono ?_
          rintro e w9 ⟨rfl, Y9, hs9, ht9, hl9⟩
          have HS9 := Lib.hid hs9
          have HO9 := Lib.hid (HO8a.out.tn HS8a.out ht9)
          have HB9 := Lib.hid (HB8a.out.trans ht9.below)
          clear hs9 ht9 hl9 HRV HS8 HO8 HB8 HS8a HO8a HB8a hb8s
          have hb9s : base ≤ w9.heap.size := by have := HS9.out.lt; omega
          have f0 := (HLO.out w9 (HB56.out.trans (HB9.out.mono hbase))).2.2.cell 0
          simp at f0
          have hba : Below w9.heap.size w9 (w9.alloc (.cells #[.int .i64 (-(F : Int) - 1)] 3)) := (Below.refl _ _).alloc (Nat.le_refl _) _
          have HB9a := Lib.hid (HB9.out.trans (hba.mono hb9s))
          have HS9a := Lib.hid (HS9.out.below hba)
          have HAP : Hid (Apart (w9.alloc (.cells #[.int .i64 (-(F : Int) - 1)] 3)) Y9 w9.heap.size (some ⟨w9.heap.size, 0, none⟩) 1 [-(F : Int) - 1]) := Lib.hid (HS9.out.apart_new [-(F : Int) - 1] (by simp))
          have HAD := Lib.hid (add_sx_no HS9a.out HAP.out (by simp; omega) ⟨_, List.mem_singleton.2 rfl, fun h => by have := h.2.1; omega⟩ (by simp) (by omega) ((HT.out.on (HB6.out.trans (HB9a.out.mono hbs))).mono hbs))
          clear hba
          go_wp2_with fail
          refine HAD.out.mono ?_
          rintro e w10 ⟨rfl, hs10, ht10⟩
          have HB10 := Lib.hid (HB9a.out.trans ht10.below)
          have HLE := Lib.hid (len_sx hs10)
          rw [List.length_map] at HLE
          clear hs10 ht10 HAD HAP HS9a HB9a HS9 HO9 HB9 f0
          go_wp2_with fail
          refine HLE.out.mono ?_
          rintro e w11 ⟨rfl, q, rfl⟩
          go_wp2
          go_ret
          exact ⟨rfl, below_drewN (HB6.out.trans (HB10.out.mono hbs)) q⟩
theorem removes_raw (u : Int) (nss : List (List Int)) (A : Option Addr) (c : Nat) (ms : List (List Int)) (Al : Option Addr) (cl : Nat) (w : World) (hu : (Lit.int .u8 u).wf = true) (hx : nss.length ≤ 5864062014805) (hm : ∀ j, (nss.getD j []).length * 2 ≤ 140737488351232) (hn : ∀ j i, (Lit.int .i16 ((nss.getD j []).getD i 0)).wf = true) (h : KRows .i16 w w.heap.size A nss) (hml : ms.length ≤ 5864062014805) (hlm : ∀ j, (ms.getD j []).length * 2 ≤ 140737488351232) (hnm : ∀ j i, (Lit.int .i16 ((ms.getD j []).getD i 0)).wf = true) (hkm : KRows .i16 w w.heap.size Al ms) (hT : Tab7 w) :
    Calls Tryd.prog 5 #[.agg #[.int .u8 u, .slice A nss.length c], .slice Al ms.length cl] w fun e w' => e = .returned (.bool true) ∧ Below w.heap.size w w' := by
  obtain ⟨v, rfl, hv⟩ := raw_nat7 hu
  exact removes_law v nss A c ms Al cl w hv (by omega) (raw_rows7 hm hn).1 (raw_rows7 hm hn).2 h hT (by omega) (raw_rows7 hlm hnm).1 (raw_rows7 hlm hnm).2 hkm
end Go.Proofs.YtbjccfdmedbkjaaDoor

namespace Go.Proofs.YtbjccfdmedbkjaaDoor
open Go.ChangeShapes Go.WideShapes Go.ChangeAt Go.RowKit
open Go.Joins
/-- rows of rows that came in, from an argument -/
theorem krows7_of {H : Type} {enc : TypeId × Value → H} {P : Program} {W : World} {t e q : TypeId} {k : IntKind} {r : Reach} {base bytes : Nat} {v : Value} {d : DataW H} {p : List MemPlace}
    (ht : P.underlying t = some (.slice e)) (he : P.underlying e = some (.slice q)) (hq : P.underlying q = some (.int k)) (ce : P.cellsOf e = 1) (cq : P.cellsOf q = 1) (be : P.bytesOf e = 24) (bq : P.bytesOf q = bytes)
    (hv : Value.okWide P W r base t v) (h : DataW.Trod enc P W 0 (fun _ => true) true t v d p) (hs : Sz P t d) :
    ∃ (A : Option Addr) (c : Nat) (nss : List (List Int)), v = .slice A nss.length c ∧ nss.length ≤ 5864062014805 ∧ (∀ j, (nss.getD j []).length * bytes ≤ 140737488351232) ∧ (∀ j i, (Lit.int k ((nss.getD j []).getD i 0)).wf = true) ∧ KRows k W W.heap.size A nss := by
  obtain ⟨a, len, cap, rfl⟩ := okWide_slice ht hv
  obtain ⟨fuel, hf⟩ := h
  exact krows_of (y := (d, p)) ht he hq ce cq be bq hf hs
end Go.Proofs.YtbjccfdmedbkjaaDoor
