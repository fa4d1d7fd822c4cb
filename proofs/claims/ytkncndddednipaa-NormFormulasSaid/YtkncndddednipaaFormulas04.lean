/- The statement that a formula's clauses in normal form are satisfied by the same assignments: the walk. -/
import Derived.Test.YtkncndddednipaaFit04
import Derived.Test.YtkncndddednipaaClauses04
import Derived.Test.YtkncndddednipaaFormsMath04
import Derived.Test.YtkncndddednipaaHolds04
import Derived.Test.YtkncndddednipaaRawForm
import Derived.Test.YtkncndddednipaaBoolBlk
import Derived.Deep.OwnRows
import Derived.Shelf.SlSortCmp.QuietGrown
namespace Go.Proofs.Ytkncndddednipaa
open Go.RowKit

theorem Try.infoBool5 : (Try.prog.info? 4).map (fun i => (i.zero, i.size, i.bytes)) = some (some (.bool false), 1, 1) := by kernel_rfl
theorem madeBools5 (n : Nat) : madeCells #[Value.bool false] n = boolCells (List.replicate n false) := by
  apply Array.ext'
  rw [toList_madeCells_one]
  simp [boolCells]

set_option maxRecDepth 100000 in
set_option maxHeartbeats 3200000 in
theorem formulas_any (v : Nat) (nss : List (List Int)) (A : Option Addr) (c : Nat) (bits : Int) (w : World) (hv : v ≤ 255)
    (hx : nss.length ≤ 140737488355328) (hl : ∀ j, (nss.getD j []).length ≤ 140737488355328) (hn : ∀ j k, -32768 ≤ (nss.getD j []).getD k 0 ∧ (nss.getD j []).getD k 0 ≤ 32767) (h : KRows .i16 w w.heap.size A nss) :
    Calls Try.prog 4 #[.agg #[.int .u8 v, .slice A nss.length c], .int .u16 bits] w fun e w' => e = .returned (.bool true) ∧ Below w.heap.size w w' := by
  have H := Lib.hid h
  have HL := Lib.hid hl
  have HN := Lib.hid hn
  clear h hl hn
  go_enter Try.func4, Try.ntmps4
  go_wp2_with fail
  obtain ⟨w1, hw1⟩ : ∃ w1, w1 = w.alloc (Obj.cells #[Value.int IntKind.u8 v, Value.slice A nss.length c] 33) := ⟨_, rfl⟩
  have HR1 := Lib.hid (show KRows .i16 w1 w.heap.size A nss by rw [hw1]; exact H.out.alloc (Nat.le_refl _) _)
  have HB1 := Lib.hid (show Below w.heap.size w w1 by rw [hw1]; exact (Below.refl _ _).alloc (Nat.le_refl _) _)
  have HK1 := Lib.hid (show Blk w1 w.heap.size 33 #[Value.int IntKind.u8 v, Value.slice A nss.length c] by rw [hw1]; exact Blk.new w _ _)
  rw [← hw1]
  clear hw1
  refine (fit04_any w1).mono ?_
  rintro e w2 ⟨rfl, hb2⟩
  have HR2 := Lib.hid (HR1.out.below (hb2.mono HB1.out.size))
  have HB2 := Lib.hid (HB1.out.trans (hb2.mono HB1.out.size))
  have HK2 := Lib.hid (HK1.out.below hb2 HK1.out.lt)
  clear hb2 HR1 HB1 HK1
  have k0 := HK2.out.cell 0
  have k1 := HK2.out.cell 1
  simp at k0 k1
  go_wp2_with fail
  refine (light_any v nss _ A c 40 w2 (by omega) hx HL.out HR2.out HB2.out.size).mono ?_
  rintro e w3 ⟨rfl, hb3⟩
  have HR3 := Lib.hid (HR2.out.below (hb3.mono HB2.out.size))
  have HB3 := Lib.hid (HB2.out.trans (hb3.mono HB2.out.size))
  have HK3 := Lib.hid (HK2.out.below hb3 HK2.out.lt)
  clear hb3 HR2 HB2 HK2 k0 k1
  have k0 := HK3.out.cell 0
  have k1 := HK3.out.cell 1
  simp at k0 k1
  rcases hlt : light nss 40 with _ | _
  · go_wp2
    go_ret
    exact ⟨rfl, HB3.out⟩
  · have hls := light_rows hlt
    have hF : v % (12 + 1) ≤ 12 := by omega
    have hFM := lightForm_raw (F := v % (12 + 1)) hlt
    clear hlt
    go_wp2_with fail
    refine (formula_any v nss _ A c 12 9 w3 hv (by omega) (by omega) hls.1 hls.2 HN.out HR3.out HB3.out.size).mono ?_
    obtain ⟨F, hFF⟩ : ∃ F, F = v % (12 + 1) := ⟨_, rfl⟩
    rw [← hFF] at hF hFM ⊢
    clear hFF
    obtain ⟨xss, hxs⟩ : ∃ xss, xss = rawForm F 9 nss := ⟨_, rfl⟩
    rw [← hxs] at hFM ⊢
    clear hxs
    have hx1 := hFM.few
    have HFM := Lib.hid hFM
    rintro e w4 ⟨A4, c4, vs, rfl, hown4, hlist4, hb4⟩
    have HB4 := Lib.hid (HB3.out.trans (hb4.mono HB3.out.size))
    have HRO4 := Lib.hid (hlist4.rows hown4)
    clear hFM hown4 hlist4 hb4 HR3 HB3 HK3 k0 k1 hls
    go_wp2_with fail
    obtain ⟨w5, hw5⟩ : ∃ w5, w5 = w4.alloc (Obj.cells #[Value.int IntKind.i64 F, Value.slice A4 xss.length c4] 38) := ⟨_, rfl⟩
    have HFB5 := Lib.hid (show Blk w5 w4.heap.size 38 #[Value.int IntKind.i64 F, Value.slice A4 xss.length c4] by rw [hw5]; exact Blk.new w4 _ _)
    have HRO5 := Lib.hid (show Rows w5 w4.heap.size A4 xss by rw [hw5]; exact HRO4.out.alloc (Nat.le_refl _) _)
    have HB5 := Lib.hid (show Below w.heap.size w w5 by rw [hw5]; exact HB4.out.alloc HB4.out.size _)
    have hs5 : w4.heap.size + 1 ≤ w5.heap.size := by rw [hw5]; simp
    have hs4 := HB4.out.size
    rw [← hw5]
    clear hw5 HRO4 HB4
    refine (formula_norm_any F xss _ A4 c4 w5 (by omega) (HFM.out.lit (by omega)) HRO5.out (by omega)).mono ?_
    have HYF := Lib.hid HFM.out.norm
    obtain ⟨yss, hys⟩ : ∃ yss, yss = normForm xss := ⟨_, rfl⟩
    rw [← hys] at HYF ⊢
    have HYS := Lib.hid hys
    have hy1 := HYF.out.few
    clear hys
    rintro e w6 ⟨Al, cl, vl, rfl, hown6, hlist6, hb6⟩
    obtain ⟨eb, heb⟩ : ∃ eb, eb = yss.any fun y => y.isEmpty := ⟨_, rfl⟩
    rw [← heb]
    have HEB := Lib.hid heb
    have HRL6 := Lib.hid (hlist6.rows hown6)
    have HRO6 := Lib.hid (HRO5.out.below (hb6.mono (by omega)))
    have HFB6 := Lib.hid (HFB5.out.below hb6 HFB5.out.lt)
    have HB6 := Lib.hid (HB5.out.trans (hb6.mono HB5.out.size))
    have hs6 := hb6.size
    clear heb hown6 hlist6 hb6 HRO5 HFB5 HB5
    have f0 := HFB6.out.cell 0
    have f1 := HFB6.out.cell 1
    simp at f0 f1
    have hmk := run_make_row' (P := Try.prog) 42 4 (.bool false) 1 Try.underlying42 Try.infoBool5 rfl .i64 .i64 F (by omega) (by omega)
    go_wp2
    clear f0 f1
    obtain ⟨w7, hw7⟩ : ∃ w7, w7 = w6.alloc (Obj.cells (madeCells #[Value.bool false] F) 4) := ⟨_, rfl⟩
    have HBK7 := Lib.hid (show BlkB w7 w6.heap.size 4 (List.replicate F false) by rw [hw7, madeBools5]; exact Blk.new w6 _ _)
    have HFB7 := Lib.hid (show Blk w7 w4.heap.size 38 #[Value.int IntKind.i64 F, Value.slice A4 xss.length c4] by rw [hw7]; exact HFB6.out.alloc _)
    have HRO7 := Lib.hid (show Rows w7 w6.heap.size A4 xss by rw [hw7]; exact Rows.more (HRO6.out.alloc (by omega) _) (by omega))
    have HRL7 := Lib.hid (show Rows w7 w6.heap.size Al yss by rw [hw7]; exact HRL6.out.alloc (Nat.le_refl _) _)
    have HB7 := Lib.hid (show Below w.heap.size w w7 by rw [hw7]; exact HB6.out.alloc HB6.out.size _)
    have hs7 : w6.heap.size + 1 ≤ w7.heap.size := by rw [hw7]; simp
    have hs06 := HB6.out.size
    rw [← hw7]
    clear hw7 hmk HRO6 HRL6 HFB6 HB6
    go_loopg [34] (F + 1) (fun gk i wr => ∃ (j : Nat) (z : List Bool), j ≤ F ∧ gk = F - j + 1 ∧ i = .int .i64 j ∧ Hid (z.length = F) ∧ BlkB wr w6.heap.size 4 z ∧ w7.grownBy wr (some w6.heap.size))
    case atStart => exact ⟨0, _, by omega, by omega, rfl, Lib.hid (by simp), HBK7.out, World.grownBy.refl _ _⟩
    case round =>
      obtain ⟨j, z, hj, rfl, rfl, hz, hbk, hgr⟩ := hrel
      have HBKr := Lib.hid hbk
      have HGr := Lib.hid hgr
      clear hbk hgr HBK7
      by_cases hjl : j < F
      · have hc : wr.cell? ⟨w6.heap.size, j, none⟩ = some (.bool (z.getD j false)) := HBKr.out.cell (by rw [hz.out]; omega)
        have hf : wr.frozen? ⟨w6.heap.size, j, none⟩ = false := HBKr.out.frozen j
        obtain ⟨zj, hzj⟩ : ∃ zj, zj = z.getD j false := ⟨_, rfl⟩
        rw [← hzj] at hc
        clear hzj
        go_wp2
        go_roundg (F - j)
        case measure => omega
        case rel => exact ⟨j + 1, _, by omega, by omega, by go_num, Lib.hid (by simp [hz.out]), HBKr.out.set_ j _, grown_trans HGr.out (grown_setCell _ ⟨w6.heap.size, j, none⟩ _)⟩
      · have hbl := below_of_grown HGr.out (show w6.heap.size ≤ w7.heap.size by omega) (Nat.le_refl _)
        have HFB8 := Lib.hid (HFB7.out.below hbl (by omega))
        have HRO8 := Lib.hid (HRO7.out.below hbl)
        have HRL8 := Lib.hid (HRL7.out.below hbl)
        have HZ8 := Lib.hid HBKr.out.bools
        have HB8 := Lib.hid (HB7.out.trans (hbl.mono (by omega)))
        have hs8 := hbl.size
        have hs08 := HBKr.out.lt
        clear hbl HFB7 HRO7 HRL7 HB7 HGr HBKr
        obtain ⟨w8, rfl⟩ : ∃ w8 : World, w8 = wr := ⟨_, rfl⟩
        have hjF : F = j := by omega
        subst hjF
        clear hj hjl
        have f1 : w8.cell? ⟨w4.heap.size, 1, none⟩ = some (.slice A4 xss.length c4) := by rw [HFB8.out.cell]; rfl
        go_wp2
        clear f1
        go_loopw [10, 11, 49] (fun tk ts ti wr => ∃ (k kk : Nat) (sb : Bool), k ≤ xss.length ∧ ti = .int .i64 k ∧ tk = .int .i64 kk ∧ ts = .bool sb ∧ Hid (kk = (normForm (xss.take k)).length) ∧ Hid (sb = (normForm (xss.take k)).any fun y => y.isEmpty) ∧ kk ≤ k ∧ Below w8.heap.size w8 wr) (fun _ _ ti _ => xss.length - (intOf ti).toNat)
        case atStart => exact ⟨0, 0, false, by omega, rfl, rfl, rfl, Lib.hid rfl, Lib.hid rfl, Nat.le_refl _, Below.refl _ _⟩
        case round =>
          obtain ⟨k, kk, sb, hk, rfl, rfl, rfl, HKK, HSB, hkk, hbel⟩ := hrel
          have HBr := Lib.hid hbel
          have hsr := hbel.size
          clear hbel
          by_cases hlt : k < xss.length
          · obtain ⟨bb, off, Ak, ck, hA4, _, hcell, hint⟩ := (HRO8.out.below (HBr.out.mono (by omega))).at_ hlt
            have hLk := HFM.out.lit (by omega) k
            have hl9 := HFM.out.len k
            have hget := fun ht => normForm_get (xss := xss) hlt ht
            have hnx := fun ht => normForm_next (xss := xss) hlt ht
            have htt := fun ht => normForm_taut (xss := xss) hlt ht
            rw [← HYS.out, ← HKK.out] at hget
            obtain ⟨xs, hxs⟩ : ∃ xs, xs = xss.getD k [] := ⟨_, rfl⟩
            simp only [← hxs] at hcell hint hLk hget hnx htt hl9
            have HI := Lib.hid hint
            have HLK := Lib.hid hLk
            have HGET := Lib.hid hget
            have HNX := Lib.hid hnx
            have HTT := Lib.hid htt
            have HA4 := Lib.hid hA4
            subst hA4
            clear hint hLk hget hnx htt hxs
            go_wp2
            clear hcell
            go_loopg [14, 55] (xs.length + 1) (fun g b1 i w' => ∃ (j : Nat) (p : Bool), wr = w' ∧ j ≤ xs.length ∧ g = xs.length - j + 1 ∧ i = .int .i64 j ∧ b1 = .bool p ∧ Hid (p = (xs.take j).any fun y => xs.contains (-y)))
            case atStart => exact ⟨0, false, rfl, by omega, by omega, rfl, rfl, Lib.hid rfl⟩
            case round =>
              obtain ⟨j, p, hw, hj, rfl, rfl, rfl, HP⟩ := hrel
              subst hw
              by_cases hjl : j < xs.length
              · obtain ⟨b1, o1, hA1, _, hc1⟩ := Cells.at_ HI.out hjl
                have hyb := HLK.out.getD j
                have hp' := any_take (p := fun y => xs.contains (-y)) hjl
                rw [← HP.out] at hp'
                obtain ⟨y, hy⟩ : ∃ y, y = xs.getD j 0 := ⟨_, rfl⟩
                rw [← hy] at hc1 hp' hyb
                obtain ⟨hy1, hy2⟩ := hyb
                obtain ⟨r1, hr1⟩ : ∃ r1, r1 = xs.contains (-y) := ⟨_, rfl⟩
                simp only [← hr1] at hp'
                have HR1 := Lib.hid hr1
                have HP' := Lib.hid hp'
                subst hA1
                clear hy hr1 hp' HP
                rcases p with _ | _
                · go_wp2_with fail
                  refine (in_any xs (-y) _ _ ck _ (by omega) HI.out).mono ?_
                  rintro e w' ⟨rfl, rfl⟩
                  rw [← HR1.out]
                  go_wp2
                  go_roundg (xs.length - j)
                  case measure => omega
                  case rel => exact ⟨j + 1, _, rfl, by omega, by omega, by go_num, rfl, Lib.hid HP'.out.symm⟩
                · go_wp2
                  go_roundg (xs.length - j)
                  case measure => omega
                  case rel => exact ⟨j + 1, _, rfl, by omega, by omega, by go_num, rfl, Lib.hid HP'.out.symm⟩
              · have hp : p = tautOf xs := by rw [HP.out, List.take_of_length_le (by omega)]; rfl
                have HPT := Lib.hid hp
                clear hp HP
                rcases p with _ | _
                · have ht := HPT.out.symm
                  obtain ⟨hg1, hg2⟩ := HGET.out ht
                  have hn1 := HNX.out ht
                  have hie := norm_empty xs
                  have hnn := norm_norm xs
                  have hLN := HLK.out.norm
                  have hRN := rising_normOf xs
                  have hnl := norm_len xs
                  obtain ⟨b2, o2, Am, cm, hAl, _, hcl, hil⟩ := (HRL8.out.below (HBr.out.mono (by omega))).at_ hg1
                  rw [hg2] at hcl hil
                  obtain ⟨yn, hyn⟩ : ∃ yn, yn = normOf xs := ⟨_, rfl⟩
                  rw [← hyn] at hcl hil hn1 hie hLN hRN hnl
                  have hsame2 : (normOf yn == normOf xs) = true := by rw [hyn, hnn]; simp
                  have hsb : ((normForm (xss.take k) ++ [yn]).any fun y => y.isEmpty) = (sb || ((xs.length : Int) == 0)) := by
                    rw [List.any_append, ← HSB.out]
                    simp only [List.any_cons, List.any_nil, Bool.or_false, hie]
                    cases xs with
                    | nil => simp
                    | cons y r => simp; intro h; omega
                  have HN1 := Lib.hid hn1
                  have HSBN := Lib.hid hsb
                  have HIL := Lib.hid hil
                  have HLN := Lib.hid hLN
                  have HRN := Lib.hid hRN
                  have HSM := Lib.hid hsame2
                  have HAL := Lib.hid hAl
                  have HKK2 : Hid (kk + 1 = (normForm (xss.take k) ++ [yn]).length) := Lib.hid (by rw [List.length_append, ← HKK.out]; rfl)
                  subst hAl
                  have hge : ¬ ((yss.length : Int) ≤ (kk : Int)) := by omega
                  have hge' : (kk : Int) < (yss.length : Int) := by omega
                  clear ht hg2 hn1 hie hnn hLN hRN hil hsame2 hyn hsb HPT HKK HSB hge
                  rcases hq : ((xs.length : Int) == 0) with _ | _
                  all_goals rw [hq] at HSBN
                  all_goals rcases sb with _ | _
                  all_goals
                    go_wp2_with fail
                    refine (form_any yn _ Am cm _ (by omega) HLN.out.getD HRN.out HIL.out).mono ?_
                    rintro e w9 ⟨rfl, m9, rfl⟩
                    go_wp2_with fail
                    have hr := same_norm_any yn xs _ _ Am Ak cm ck (wr.drewN m9) HLN.out HLK.out (show Ints (wr.drewN m9) w6.heap.size Am yn from HIL.out) (show Ints (wr.drewN m9) w6.heap.size Ak xs from HI.out) (show w6.heap.size ≤ wr.heap.size by omega) (show w6.heap.size ≤ wr.heap.size by omega)
                    rw [HSM.out] at hr
                    refine hr.mono ?_
                    clear hr
                    rintro e w10 ⟨rfl, hb10⟩
                    have HB10 := Lib.hid ((below_drewN HBr.out m9).trans (hb10.mono hsr))
                    clear hb10
                    go_wp2
                    go_roundw
                    case rel => exact ⟨k + 1, kk + 1, _, by omega, by go_num, by go_num, rfl, Lib.hid (by rw [HN1.out]; exact HKK2.out), Lib.hid (by rw [HN1.out]; exact HSBN.out.symm), by omega, HB10.out⟩
                    case measure => simp [intOf]; omega
                · have hn1 := HTT.out HPT.out.symm
                  have HN1 := Lib.hid hn1
                  clear hn1
                  go_wp2
                  go_roundw
                  case rel => exact ⟨k + 1, kk, sb, by omega, by go_num, rfl, rfl, Lib.hid (by rw [HN1.out]; exact HKK.out), Lib.hid (by rw [HN1.out]; exact HSB.out), by omega, HBr.out⟩
                  case measure => simp [intOf]; omega
          · obtain rfl : k = xss.length := by omega
            have h1 := HKK.out
            have h2 := HSB.out
            rw [List.take_of_length_le (Nat.le_refl _), ← HYS.out] at h1 h2
            rw [← HEB.out] at h2
            subst h1
            subst h2
            have HF9 := Lib.hid (HFB8.out.below HBr.out (by omega))
            have HRO9 := Lib.hid (HRO8.out.below (HBr.out.mono (by omega)))
            have HRL9 := Lib.hid (HRL8.out.below (HBr.out.mono (by omega)))
            have HZ9 := Lib.hid (HZ8.out.below HBr.out)
            have HB9 := Lib.hid (HB8.out.trans (HBr.out.mono (by omega)))
            have hsat : formSat z yss = formSat z xss := by
              rw [HYS.out]
              exact norm_sat fun c hc l hl => by rw [hz.out]; exact HFM.out.lits c hc l hl
            have HSAT := Lib.hid hsat
            clear hsat HKK HSB HFB8 HRO8 HRL8 HZ8 HB8
            have mixed : Try.prog.follows .mixedOrders = true := by kernel_rfl
            have hs9 := HB9.out.size
            have hkeep : ∀ (n : Nat) (os : Array Obj) (p : Addr), p.block < wr.heap.size → (Go.Sort.grow (wr.drewN n) os).cell? p = wr.cell? p := fun n os p hp => Go.Sort.cell?_grow (wr.drewN n) os p hp
            have hgs : ∀ (n : Nat) (os : Array Obj), wr.heap.size ≤ (Go.Sort.grow (wr.drewN n) os).heap.size := fun n os => by rw [Go.Sort.size_grow]; exact Nat.le_add_right _ _
            have f0 : ∀ (n : Nat) (os : Array Obj), (Go.Sort.grow (wr.drewN n) os).cell? ⟨w4.heap.size, 0, none⟩ = some (.int .i64 F) := fun n os => by
              rw [hkeep n os _ (by show w4.heap.size < _; omega), HF9.out.cell]; rfl
            have f1 : ∀ (n : Nat) (os : Array Obj), (Go.Sort.grow (wr.drewN n) os).cell? ⟨w4.heap.size, 1, none⟩ = some (.slice A4 xss.length c4) := fun n os => by
              rw [hkeep n os _ (by show w4.heap.size < _; omega), HF9.out.cell]; rfl
            have HQ1 : ∀ (n : Nat) (os : Array Obj), Calls Try.prog 18 #[.agg #[.int .i64 F, .slice A4 xss.length c4], .slice (some ⟨w6.heap.size, 0, none⟩) F F] (Go.Sort.grow (wr.drewN n) os) fun e w' => e = .returned (.bool (formSat z xss)) ∧ ∃ q os', w' = Go.Sort.grow ((Go.Sort.grow (wr.drewN n) os).drewN q) os' := fun n os => by
              have h1 := docholds_grown F xss _ _ A4 (some ⟨w6.heap.size, 0, none⟩) z c4 F (Go.Sort.grow (wr.drewN n) os) (by omega) (fun j => by have := HFM.out.len j; omega) (fun j k => by rw [hz.out]; exact HFM.out.bd j k) (by rw [hz.out]; omega)
                (HRO9.out.keep fun p hp => hkeep n os p (by omega)) (Cells.keep HZ9.out fun p hp => hkeep n os p (by omega)) (by have := hgs n os; omega) (by have := hgs n os; omega)
              rw [hz.out] at h1
              exact h1
            have HQ2 : ∀ (n : Nat) (os : Array Obj), Calls Try.prog 18 #[.agg #[.int .i64 F, .slice Al yss.length cl], .slice (some ⟨w6.heap.size, 0, none⟩) F F] (Go.Sort.grow (wr.drewN n) os) fun e w' => e = .returned (.bool (formSat z xss)) ∧ ∃ q os', w' = Go.Sort.grow ((Go.Sort.grow (wr.drewN n) os).drewN q) os' := fun n os => by
              have h1 := docholds_grown F yss _ _ Al (some ⟨w6.heap.size, 0, none⟩) z cl F (Go.Sort.grow (wr.drewN n) os) (by omega) (fun j => by have := HYF.out.len j; omega) (fun j k => by rw [hz.out]; exact HYF.out.bd j k) (by rw [hz.out]; omega)
                (HRL9.out.keep fun p hp => hkeep n os p (by omega)) (Cells.keep HZ9.out fun p hp => hkeep n os p (by omega)) (by have := hgs n os; omega) (by have := hgs n os; omega)
              rw [hz.out, HSAT.out] at h1
              exact h1
            obtain ⟨sb, hsb⟩ : ∃ sb, sb = formSat z xss := ⟨_, rfl⟩
            rw [← hsb] at HQ1 HQ2
            have HQ1' := Lib.hid HQ1
            have HQ2' := Lib.hid HQ2
            clear HQ1 HQ2 hsb hkeep hgs HSAT HF9 HRO9 HRL9 HZ9
            go_wp2_with fail
            go_quiet_grown ((go_at_call 18; first
              | (with_reducible exact Calls.grown_of (HQ1'.out _ _))
              | (with_reducible exact Calls.grown_of (HQ2'.out _ _))))
            go_wp2
            go_ret
            refine ⟨rfl, ?_⟩
            have hgb : Below wr.heap.size wr (Go.Sort.grow (wr.drewN nq) osq) := below_grown wr nq osq
            exact HB9.out.trans (hgb.mono hs9)

theorem u8_nat5 {u : Int} (h : (Lit.int .u8 u).wf = true) : ∃ v : Nat, u = v ∧ v ≤ 255 := by
  have := bounds_u8 h
  exact ⟨u.toNat, by omega, by omega⟩
theorem formulas_raw (u : Int) (nss : List (List Int)) (A : Option Addr) (c : Nat) (bits : Int) (w : World) (hu : (Lit.int .u8 u).wf = true)
    (hx : nss.length ≤ 5864062014805) (m : ∀ j, (nss.getD j []).length * 2 ≤ 140737488351232) (hn : ∀ j i, (Lit.int .i16 ((nss.getD j []).getD i 0)).wf = true) (h : KRows .i16 w w.heap.size A nss) :
    Calls Try.prog 4 #[.agg #[.int .u8 u, .slice A nss.length c], .int .u16 bits] w fun e w' => e = .returned (.bool true) ∧ Below w.heap.size w w' := by
  obtain ⟨v, rfl, hv⟩ := u8_nat5 hu
  exact formulas_any v nss A c bits w hv (by omega) (fun j => by have := m j; omega) (fun j k => by have := bounds_i16 (hn j k); omega) h
end Go.Proofs.Ytkncndddednipaa
