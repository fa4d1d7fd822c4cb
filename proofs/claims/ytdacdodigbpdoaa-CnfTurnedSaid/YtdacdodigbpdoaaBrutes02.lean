/- The statement that the first assignment that satisfies is found: walked. -/
import Derived.Test.YtdacdodigbpdoaaEval02
namespace Go.Proofs.Ytdacdodigbpdoaa
open Go.RowKit

/-- the assignment that a number is, the last variable the lowest -/
def bitsOf (F n : Nat) : List Bool := (List.range F).map fun i => n / 2 ^ (F - 1 - i) % 2 == 1
theorem bitsOf_length (F n : Nat) : (bitsOf F n).length = F := by simp [bitsOf]
theorem bitsOf_succ (F n : Nat) : bitsOf (F + 1) n = (n / 2 ^ F % 2 == 1) :: bitsOf F n := by
  unfold bitsOf
  rw [List.range_succ_eq_map, List.map_cons, List.map_map]
  congr 1
  apply List.map_congr_left
  intro i hi
  have := List.mem_range.1 hi
  show (n / 2 ^ (F + 1 - 1 - (i + 1)) % 2 == 1) = _
  rw [show F + 1 - 1 - (i + 1) = F - 1 - i by omega]
theorem bval_bitsOf (n : Nat) : ∀ F, bval (bitsOf F n) = n % 2 ^ F
  | 0 => by simp [bitsOf, bval, Nat.mod_one]
  | F + 1 => by
    rw [bitsOf_succ, bval, bval_bitsOf n F, bitsOf_length, Nat.pow_succ, Nat.mod_mul]
    rcases Nat.mod_two_eq_zero_or_one (n / 2 ^ F) with h | h <;> rw [h] <;> simp <;> omega
theorem bitsOf_bval {F : Nat} {z : List Bool} (hz : z.length = F) : bitsOf F (bval z) = z := by
  refine bval_inj _ _ (by rw [bitsOf_length, hz]) ?_
  rw [bval_bitsOf, Nat.mod_eq_of_lt]
  have := bval_lt z
  rwa [hz] at this

/-- what Brute told -/
def BruteInfo (V : Nat) (xss : List (List Int)) (w' : World) (ok : Bool) (A : Option Addr) (n : Nat) : Prop :=
  (ok = true ∧ n = V ∧ ∃ z : List Bool, z.length = V ∧ Bools w' w'.heap.size A z ∧ formSat z xss = true ∧ ∀ b, b.length = V → formSat b xss = true → bval z ≤ bval b) ∨
  (ok = false ∧ n = 0 ∧ ∀ b : List Bool, b.length = V → formSat b xss = false)
theorem Bruted.info {V : Nat} {xss : List (List Int)} {w : World} {e : Ending} {w' : World} (h : Bruted V xss w e w') :
    ∃ ok A n c, e = .returned (.tuple #[.slice A n c, .bool ok]) ∧ BruteInfo V xss w' ok A n ∧ Below w.heap.size w w' := by
  rcases h with ⟨g, z, rfl, hz, hblk, hsat, hmin, hb, _⟩ | ⟨rfl, hno, hb⟩
  · exact ⟨true, _, _, _, rfl, .inl ⟨rfl, rfl, z, hz, hblk.bools, hsat, hmin⟩, hb⟩
  · exact ⟨false, _, _, _, rfl, .inr ⟨rfl, rfl, hno⟩, hb⟩

set_option maxHeartbeats 800000 in
theorem brutes_any (v : Nat) (nss : List (List Int)) (A : Option Addr) (c : Nat) (w : World) (hv : v ≤ 255)
    (hx : nss.length ≤ 140737488355328) (hl : ∀ j, (nss.getD j []).length ≤ 140737488355328) (hn : ∀ j k, -32768 ≤ (nss.getD j []).getD k 0 ∧ (nss.getD j []).getD k 0 ≤ 32767) (h : KRows .i16 w w.heap.size A nss) :
    Calls Try.prog 4 #[.agg #[.int .u8 v, .slice A nss.length c]] w fun e w' => e = .returned (.bool true) ∧ Below w.heap.size w w' := by
  have H := Lib.hid h
  have HL := Lib.hid hl
  have HN := Lib.hid hn
  clear h hl hn
  go_enter Try.func4, Try.ntmps4
  go_wp2_with fail
  obtain ⟨w1, hw1⟩ : ∃ w1, w1 = w.alloc (Obj.cells #[Value.int IntKind.u8 v, Value.slice A nss.length c] 24) := ⟨_, rfl⟩
  have HR1 := Lib.hid (show KRows .i16 w1 w.heap.size A nss by rw [hw1]; exact H.out.alloc (Nat.le_refl _) _)
  have HB1 := Lib.hid (show Below w.heap.size w w1 by rw [hw1]; exact (Below.refl _ _).alloc (Nat.le_refl _) _)
  have HK1 := Lib.hid (show Blk w1 w.heap.size 24 #[Value.int IntKind.u8 v, Value.slice A nss.length c] by rw [hw1]; exact Blk.new w _ _)
  rw [← hw1]
  clear hw1
  refine (fit02_any w1).mono ?_
  rintro e w2 ⟨rfl, hb2⟩
  have HR2 := Lib.hid (HR1.out.below (hb2.mono HB1.out.size))
  have HB2 := Lib.hid (HB1.out.trans (hb2.mono HB1.out.size))
  have HK2 := Lib.hid (HK1.out.below hb2 HK1.out.lt)
  clear hb2 HR1 HB1 HK1
  have k0 := HK2.out.cell 0
  have k1 := HK2.out.cell 1
  simp at k0 k1
  go_wp2_with fail
  refine (light_any v nss _ A c 40 w2 (by omega) hx HL.out HR2.out HB2.out.size).mono ?_
  rintro e w3 ⟨rfl, hb3⟩
  have HR3 := Lib.hid (HR2.out.below (hb3.mono HB2.out.size))
  have HB3 := Lib.hid (HB2.out.trans (hb3.mono HB2.out.size))
  have HK3 := Lib.hid (HK2.out.below hb3 HK2.out.lt)
  clear hb3 HR2 HB2 HK2 k0 k1
  have k0 := HK3.out.cell 0
  have k1 := HK3.out.cell 1
  simp at k0 k1
  rcases hlt : light nss 40 with _ | _
  · go_wp2
    go_ret
    exact ⟨rfl, HB3.out⟩
  · have hls := light_small hlt (by omega)
    have HLT := Lib.hid hlt
    clear hlt
    go_wp2_with fail
    refine (formula_any v nss _ A c 9 9 w3 hv (by omega) (by omega) hls.1 hls.2 HN.out HR3.out HB3.out.size).mono ?_
    have hF : v % (9 + 1) ≤ 9 := by omega
    obtain ⟨F, hFF⟩ : ∃ F, F = v % (9 + 1) := ⟨_, rfl⟩
    rw [← hFF] at hF ⊢
    clear hFF
    have hrf := raw_facts (F := F) (width := 9) (by omega) (by omega) (by omega) HLT.out
    obtain ⟨xss, hxs⟩ : ∃ xss, xss = rawForm F 9 nss := ⟨_, rfl⟩
    rw [← hxs] at hrf ⊢
    clear hxs
    obtain ⟨hx1, hx2, hx3, hx4, hx5⟩ := hrf
    rintro e w4 ⟨A4, c4, vs, rfl, hown4, hlist4, hb4⟩
    have HX2 := Lib.hid hx2
    have HX3 := Lib.hid hx3
    have HX5 := Lib.hid hx5
    have HB4 := Lib.hid (HB3.out.trans (hb4.mono HB3.out.size))
    have HRO4 := Lib.hid (hlist4.rows hown4)
    clear hx2 hx3 hx5 hown4 hlist4 hb4 HR3 HB3 HK3 k0 k1 hls
    go_wp2_with fail
    obtain ⟨w5, hw5⟩ : ∃ w5, w5 = w4.alloc (Obj.cells #[Value.int IntKind.i64 F, Value.slice A4 xss.length c4] 30) := ⟨_, rfl⟩
    have HFB5 := Lib.hid (show Blk w5 w4.heap.size 30 #[Value.int IntKind.i64 F, Value.slice A4 xss.length c4] by rw [hw5]; exact Blk.new w4 _ _)
    have HRO5 := Lib.hid (show Rows w5 w4.heap.size A4 xss by rw [hw5]; exact HRO4.out.alloc (Nat.le_refl _) _)
    have HB5 := Lib.hid (show Below w.heap.size w w5 by rw [hw5]; exact HB4.out.alloc HB4.out.size _)
    have hs5 : w5.heap.size = w4.heap.size + 1 := by rw [hw5]; simp
    have hs4 := HB4.out.size
    rw [← hw5]
    clear hw5 HRO4 HB4
    refine (brute_any F xss _ A4 c4 w5 (by omega) HX5.out HRO5.out (by omega)).mono ?_
    rintro e w6 hbr
    obtain ⟨ok, Ag, ng, cg, rfl, hinfo, hb6⟩ := Bruted.info hbr
    clear hbr
    have HINF := Lib.hid hinfo
    have HFB6 := Lib.hid (HFB5.out.below hb6 HFB5.out.lt)
    have HRO6 := Lib.hid (HRO5.out.below (hb6.mono (by omega)))
    have HB6 := Lib.hid (HB5.out.trans (hb6.mono (by omega)))
    have hs6 := hb6.size
    clear hinfo hb6 HFB5 HRO5 HB5
    have f0 := HFB6.out.cell 0
    have f1 := HFB6.out.cell 1
    simp at f0 f1
    obtain ⟨P, hP⟩ : ∃ P, P = 2 ^ F := ⟨_, rfl⟩
    have hP1 : P ≤ 512 := by
      have : 2 ^ F ≤ 2 ^ 9 := Nat.pow_le_pow_right (by decide) hF
      omega
    have hPi : wrap64 ((2 : Int) ^ F) = (P : Int) := by
      have e : (2 : Int) ^ F = (P : Int) := by rw [hP]; simp
      rw [e]
      exact IntWalk.wrap64_in _ ⟨by omega, by omega⟩
    have HP := Lib.hid hP
    have HPI := Lib.hid hPi
    clear hP hPi
    go_wp2
    rw [HPI.out]
    clear f0 f1
    have hmk := run_make_row' (P := Try.prog) 32 4 (.bool false) 1 Try.underlying32 Try.infoBool rfl .i64 .i64 F (by omega) (by omega)
    go_loopg [25] (P + 1) (fun gk i wr => ∃ n : Nat, n ≤ P ∧ gk = P - n + 1 ∧ i = .int .i64 n ∧ Hid (∀ m, m < n → formSat (bitsOf F m) xss = false) ∧ Below w6.heap.size w6 wr)
    case atStart => exact ⟨0, by omega, by omega, rfl, Lib.hid (fun m hm => by omega), Below.refl _ _⟩
    case round =>
      obtain ⟨n, hn, rfl, rfl, hall, hb⟩ := hrel
      obtain ⟨wo, rfl⟩ : ∃ wo : World, wo = wr := ⟨_, rfl⟩
      have HBo := Lib.hid hb
      have hso := hb.size
      have HFBo := Lib.hid (HFB6.out.below hb HFB6.out.lt)
      clear hb
      have f0 := HFBo.out.cell 0
      have f1 := HFBo.out.cell 1
      simp at f0 f1
      by_cases hnl : n < P
      · go_wp2
        obtain ⟨w7, hw7⟩ : ∃ w7, w7 = wo.alloc (Obj.cells (madeCells #[Value.bool false] F) 4) := ⟨_, rfl⟩
        have HBK7 := Lib.hid (show BlkB w7 wo.heap.size 4 (List.replicate F false) by rw [hw7, madeBools]; exact Blk.new wo _ _)
        have HB7 := Lib.hid (show Below w6.heap.size w6 w7 by rw [hw7]; exact HBo.out.alloc hso _)
        have hs7 : w7.heap.size = wo.heap.size + 1 := by rw [hw7]; simp
        rw [← hw7]
        clear hw7 f0 f1
        go_loopg [33] (F + 1) (fun gk i wr => ∃ (j : Nat) (z : List Bool), j ≤ F ∧ gk = F - j + 1 ∧ i = .int .i64 j ∧ Hid (z.length = F) ∧ BlkB wr wo.heap.size 4 z ∧ w7.grownBy wr (some wo.heap.size) ∧ Hid (∀ i, i < j → z.getD i false = (n / 2 ^ (F - 1 - i) % 2 == 1)))
        case atStart => exact ⟨0, _, by omega, by omega, rfl, Lib.hid (by simp), HBK7.out, World.grownBy.refl _ _, Lib.hid (fun i hi => by omega)⟩
        case round =>
          obtain ⟨j, z, hj, rfl, rfl, hz, hbk, hgr, hbits⟩ := hrel
          have HBKr := Lib.hid hbk
          have HGr := Lib.hid hgr
          clear hbk hgr HBK7
          have HFBr := Lib.hid ((HFB6.out.below HB7.out HFB6.out.lt).grown HGr.out (fun e => by injection e; have := HFB6.out.lt; omega))
          have f0 := HFBr.out.cell 0
          have f1 := HFBr.out.cell 1
          simp at f0 f1
          by_cases hjl : j < F
          · have hc : wr.cell? ⟨wo.heap.size, j, none⟩ = some (.bool (z.getD j false)) := HBKr.out.cell (by rw [hz.out]; omega)
            have hf : wr.frozen? ⟨wo.heap.size, j, none⟩ = false := HBKr.out.frozen j
            obtain ⟨zj, hzj⟩ : ∃ zj, zj = z.getD j false := ⟨_, rfl⟩
            rw [← hzj] at hc
            clear hzj
            go_wp2
            go_roundg (F - j)
            case measure => omega
            case rel =>
              refine ⟨j + 1, _, by omega, by omega, by go_num, Lib.hid (by simp [hz.out]), HBKr.out.set_ j _, grown_trans HGr.out (grown_setCell _ ⟨wo.heap.size, j, none⟩ _), Lib.hid (fun i hi => ?_)⟩
              rcases Nat.lt_or_ge i j with hlt | hge
              · rw [← hbits.out i hlt]
                simp [List.getD, List.getElem?_set_ne (show j ≠ i by omega)]
              · obtain rfl : i = j := by omega
                rw [i64_and_1]
                have e : ((n : Int) / 2 ^ (F - 1 - i)) % 2 = ((n / 2 ^ (F - 1 - i) % 2 : Nat) : Int) := by simp
                rw [e]
                simp [List.getD, hz.out, hjl]
                rw [Bool.eq_iff_iff]
                simp
                omega
          · have hzb : z = bitsOf F n := by
              apply List.ext_getElem
              · rw [hz.out, bitsOf_length]
              · intro i h1 h2
                have := hbits.out i (by rw [hz.out] at h1; omega)
                rw [List.getD, List.getElem?_eq_getElem h1] at this
                rw [show z[i] = _ from this]
                simp [bitsOf]
            have hmn := HB7.out
            have HBw := Lib.hid (HB7.out.trans (below_of_grown (B := w6.heap.size) HGr.out (by omega) (by omega)))
            have hzr := Cells.more HBKr.out.bools (Nat.le_refl _)
            have HZr := Lib.hid hzr
            have hgl := HBKr.out.lt
            have hdh := docholds_any F xss w4.heap.size wr.heap.size A4 (some ⟨wo.heap.size, 0, none⟩) z c4 F wr (by omega) (fun j => by have := HX2.out j; omega) (fun j i => by rw [hz.out]; exact HX3.out j i) (by rw [hz.out]; omega)
              (HRO6.out.below (HBw.out.mono (by omega))) HZr.out (by have := HBw.out.size; omega) (Nat.le_refl _)
            rw [hz.out] at hdh
            have HDH := Lib.hid hdh
            have HZB := Lib.hid hzb
            have HZL := Lib.hid hz.out
            clear hzb hmn hzr hdh hbits hz HGr
            rcases hfv : formSat z xss with _ | _
            · rw [hfv] at HDH
              have HFV := Lib.hid hfv
              clear hfv
              go_wp2_with (go_at_call 12; refine HDH.out.mono ?_; rintro e w8 ⟨rfl, hb8⟩)
              go_roundg (P - n)
              case measure => omega
              case rel =>
                have hb8' : Below wr.heap.size wr w8 := by assumption
                refine ⟨n + 1, by omega, by omega, by go_num, Lib.hid (fun m hm => ?_), HBw.out.trans (hb8'.mono HBw.out.size)⟩
                rcases Nat.lt_or_ge m n with h | h
                · exact hall.out m h
                · obtain rfl : m = n := by omega
                  rw [← HZB.out]; exact HFV.out
            · rw [hfv] at HDH
              rcases HINF.out with ⟨hok, hng, z', hzl', hZ', hsat', hmin'⟩ | ⟨hok, hng, hno⟩
              · have hnb : bval z = n := by rw [HZB.out, bval_bitsOf, Nat.mod_eq_of_lt (by have := HP.out; omega)]
                have hzz : z' = z := by
                  have h1 := hmin' z HZL.out hfv
                  refine bval_inj _ _ (by rw [hzl', HZL.out]) ?_
                  rcases Nat.lt_or_ge (bval z') n with h | h
                  · have := hall.out _ h
                    rw [bitsOf_bval hzl', hsat'] at this
                    cases this
                  · omega
                subst hok hng hzz
                have HZ' := Lib.hid hZ'
                clear hnb hzl' hsat' hmin' hZ' hfv HZB hall HINF
                go_wp2_with fail
                refine HDH.out.mono ?_
                rintro e w8 ⟨rfl, hb8⟩
                have HZ8 := Lib.hid ((HZ'.out.below HBw.out).below (hb8.mono HBw.out.size))
                have HY8 := Lib.hid (HZr.out.below hb8)
                have HB8 := Lib.hid (HB6.out.trans ((HBw.out.trans (hb8.mono HBw.out.size)).mono HB6.out.size))
                clear hb8 f0 f1
                go_wp2
                go_loopg [64] (ng + 1) (fun gk i wx => ∃ j m : Nat, wx = w8.drewN m ∧ j ≤ ng ∧ gk = ng - j + 1 ∧ i = .int .i64 j)
                case atStart => exact ⟨0, 0, rfl, by omega, by omega, rfl⟩
                case round =>
                  obtain ⟨j3, m3, rfl, hj3, rfl, rfl⟩ := hrel
                  by_cases hjl3 : j3 < ng
                  · obtain ⟨b1, o1, hA1, _, hc1⟩ := HZ8.out.at_ (k := j3) (by rw [HZL.out]; omega)
                    obtain ⟨b2, o2, hA2, _, hc2⟩ := HY8.out.at_ (k := j3) (by rw [HZL.out]; omega)
                    injection hA2 with hA2
                    injection hA2 with e1 e2
                    subst e1 e2 hA1
                    simp only [Nat.zero_add] at hc2
                    have hj0 : (0 : Int) ≤ (j3 : Int) := Int.natCast_nonneg _
                    have hj1 : (j3 : Int) < (ng : Int) := by omega
                    obtain ⟨vb, hvb⟩ : ∃ vb, vb = z'.getD j3 false := ⟨_, rfl⟩
                    rw [← hvb] at hc1 hc2
                    clear hvb
                    have hq : (vb != vb) = false := by simp
                    go_wp2
                    go_quiet (fail)
                    go_wp2
                    go_roundg (ng - j3)
                    case measure => omega
                    case rel => exact ⟨j3 + 1, _, rfl, by omega, by omega, by go_num⟩
                  · go_wp2
                    go_ret
                    exact ⟨rfl, below_drewN HB8.out _⟩
              · have := hno z HZL.out
                rw [hfv] at this
                cases this
      · have hnP : n = P := by omega
        rcases HINF.out with ⟨hok, hng, z', hzl', hZ', hsat', hmin'⟩ | ⟨hok, hng, hno⟩
        · have h1 := bval_lt z'
          rw [hzl', ← HP.out, ← hnP] at h1
          have := hall.out _ h1
          rw [bitsOf_bval hzl', hsat'] at this
          cases this
        · subst hok hng
          clear hnP
          go_wp2
          go_ret
          exact ⟨rfl, HB6.out.trans (HBo.out.mono HB6.out.size)⟩

theorem brutes_raw (u : Int) (nss : List (List Int)) (A : Option Addr) (c : Nat) (w : World) (hu : (Lit.int .u8 u).wf = true)
    (hx : nss.length ≤ 5864062014805) (m : ∀ j, (nss.getD j []).length * 2 ≤ 140737488351232) (hn : ∀ j i, (Lit.int .i16 ((nss.getD j []).getD i 0)).wf = true) (h : KRows .i16 w w.heap.size A nss) :
    Calls Try.prog 4 #[.agg #[.int .u8 u, .slice A nss.length c]] w fun e w' => e = .returned (.bool true) ∧ Below w.heap.size w w' := by
  obtain ⟨v, rfl, hv⟩ := raw_nat hu
  exact brutes_any v nss A c w hv (by omega) (raw_rows m hn).1 (raw_rows m hn).2 h
end Go.Proofs.Ytdacdodigbpdoaa
