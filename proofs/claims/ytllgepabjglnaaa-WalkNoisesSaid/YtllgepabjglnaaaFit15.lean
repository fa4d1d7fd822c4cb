/- The statements' own helpers of layer 15: ways that may be, what is chosen, how many clauses are left, the example. -/
import Derived.Test.YtllgepabjglnaaaLaw15
namespace Go.Proofs.Ytllgepabjglnaaa
open Go.RowKit
set_option linter.unusedVariables false
set_option linter.unusedSimpArgs false

def rightW (k b n : Int) : Bool := decide (k = 2 ∧ b = 0 ∧ 0 ≤ n ∧ n ≤ 1000) || (decide (k ≠ 2) && rightB k b && decide (n = 0))
set_option maxHeartbeats 1000000 in
theorem wright_any15 (k b n : Int) (w : World) : Calls Try.prog 28 #[.agg #[.int .i64 k, .int .i64 b, .int .i64 n]] w fun e w' => e = .returned (.bool (rightW k b n)) ∧ Below w.heap.size w w' := by
  by_cases h2 : k = 2
  · subst h2
    have hr : rightW 2 b n = (decide (b = 0) && decide (0 ≤ n) && decide (n ≤ 1000)) := by
      rw [Bool.eq_iff_iff]; simp [rightW]; omega
    rw [hr]
    clear hr
    by_cases h0 : b = 0
    · by_cases h1 : 0 ≤ n
      · go_enter Try.func28, Try.ntmps28
        go_wp2
        go_ret
        exact ⟨by simp [h0, h1], (Below.refl _ _).alloc (Nat.le_refl _) _⟩
      · have h1' : decide (0 ≤ n) = false := decide_eq_false h1
        go_enter Try.func28, Try.ntmps28
        go_wp2
        go_ret
        exact ⟨by simp [h0, h1], (Below.refl _ _).alloc (Nat.le_refl _) _⟩
    · have h0' : (b == 0) = false := by simp; exact h0
      go_enter Try.func28, Try.ntmps28
      go_wp2
      go_ret
      exact ⟨by simp [h0], (Below.refl _ _).alloc (Nat.le_refl _) _⟩
  · have hr : rightW k b n = (rightB k b && decide (n = 0)) := by
      rw [Bool.eq_iff_iff]; simp [rightW, h2]
    rw [hr]
    have hk2 : (k == 2) = false := by simp; exact h2
    have HT := Lib.hid (fun W => tab_right k b W)
    obtain ⟨rb, hrb⟩ : ∃ rb, rightB k b = rb := ⟨_, rfl⟩
    rw [hrb] at HT ⊢
    clear hr hrb
    rcases rb with _ | _
    · go_enter Try.func28, Try.ntmps28
      go_wp2_with fail
      refine (HT.out _).mono ?_
      rintro e w1 ⟨rfl, rfl⟩
      go_wp2
      go_ret
      exact ⟨rfl, (Below.refl _ _).alloc (Nat.le_refl _) _⟩
    · go_enter Try.func28, Try.ntmps28
      go_wp2_with fail
      refine (HT.out _).mono ?_
      rintro e w1 ⟨rfl, rfl⟩
      go_wp2
      go_ret
      exact ⟨by by_cases hn : n = 0 <;> simp [hn], (Below.refl _ _).alloc (Nat.le_refl _) _⟩

set_option maxRecDepth 100000 in
set_option maxHeartbeats 1000000 in
theorem walk_no15 (F n : Nat) (A Az : Option Addr) (k cA cz r : Nat) (x0 x1 x2 most : Int) (w : World) (hF : F ≤ 1000) (hn : n ≤ 1000) (hne : n ≠ F) :
    Calls Try.prog 25 #[.agg #[.int .i64 F, .slice A k cA], .slice Az n cz, .agg #[.int .i64 x0, .int .i64 x1, .int .i64 x2], .pointer (some ⟨r, 0, none⟩), .int .i64 most] w fun e w' => e = .returned (.tuple #[.agg #[.slice none 0 0, .int .i64 0, .int .i64 0], .int .i64 1]) ∧ Below w.heap.size w w' := by
  obtain ⟨w1, hw1⟩ : ∃ w1, w1 = ((w.alloc (Obj.cells #[Value.int .i64 F, Value.slice A k cA] 32)).alloc (Obj.cells #[Value.int .i64 x0, Value.int .i64 x1, Value.int .i64 x2] 41)).alloc (Obj.cells #[Value.slice none 0 0, Value.int .i64 0, Value.int .i64 0] 57) := ⟨_, rfl⟩
  have hb1 : Below w.heap.size w w1 := by rw [hw1]; exact (((Below.refl _ _).alloc (Nat.le_refl _) _).alloc (by simp) _).alloc (by simp; omega) _
  have hq1 : Blk w1 (w.heap.size + 1 + 1) 57 #[Value.slice none 0 0, Value.int .i64 0, Value.int .i64 0] := by rw [hw1]; exact blk_new14 (by simp)
  have HN := Lib.hid (new_no14 F A Az cA k n cz w1 hF hn hne)
  have HB1 := Lib.hid (And.intro hb1 hq1)
  clear hb1 hq1
  go_enter Try.func25, Try.ntmps25
  go_wp2_with fail
  rw [← hw1]
  clear hw1
  refine HN.out.mono ?_
  rintro e w2 ⟨rfl, hb2⟩
  have hq2 := HB1.out.2.below hb2 HB1.out.2.lt
  have d0 := hq2.cell 0
  have d1 := hq2.cell 1
  have d2 := hq2.cell 2
  have g0 := hq2.frozen 0
  have g1 := hq2.frozen 1
  have g2 := hq2.frozen 2
  simp at d0 d1 d2
  have HQ2 := Lib.hid hq2
  have HB2 := Lib.hid (HB1.out.1.trans (hb2.mono HB1.out.1.size))
  clear hq2 hb2
  go_wp2
  obtain ⟨w5, hw5⟩ : ∃ w5, w5 = ((w2.setCell ⟨w.heap.size + 1 + 1, 0, none⟩ (.slice none 0 0)).setCell ⟨w.heap.size + 1 + 1, 1, none⟩ (.int .i64 0)).setCell ⟨w.heap.size + 1 + 1, 2, none⟩ (.int .i64 0) := ⟨_, rfl⟩
  have hb5 : Below w.heap.size w w5 := by rw [hw5]; exact ((HB2.out.setCell (p := ⟨w.heap.size + 1 + 1, 0, none⟩) (show w.heap.size ≤ w.heap.size + 1 + 1 by omega) _).setCell (p := ⟨w.heap.size + 1 + 1, 1, none⟩) (show w.heap.size ≤ w.heap.size + 1 + 1 by omega) _).setCell (p := ⟨w.heap.size + 1 + 1, 2, none⟩) (show w.heap.size ≤ w.heap.size + 1 + 1 by omega) _
  have hk5 : Blk w5 (w.heap.size + 1 + 1) 57 #[.slice none 0 0, .int .i64 0, .int .i64 0] := by
    rw [hw5]
    have := ((HQ2.out.set_ 0 (.slice none 0 0)).set_ 1 (.int .i64 0)).set_ 2 (.int .i64 0)
    simpa using this
  refine bodyPost_ret (results_cell_tmp15 rfl rfl (by rw [← hw5]; exact load_result15 hk5) rfl) rfl ?_
  rw [← hw5]
  exact ⟨rfl, hb5⟩

/-- a way, of raw numbers -/
def wayOf (kind n : Nat) : Wy := if kind % 3 = 0 then .tab false (1 + n % 64) else if kind % 3 = 1 then .tab true (17 + n % 240) else .noise (n % 1001)
theorem wayOf_ok (kind n : Nat) : (wayOf kind n).Ok := by
  unfold wayOf
  split
  · show OkB false (1 + n % 64)
    unfold OkB
    simp
    omega
  · split
    · show OkB true (17 + n % 240)
      unfold OkB
      simp
      omega
    · show n % 1001 ≤ 1000
      omega
set_option maxHeartbeats 1000000 in
theorem way_any15 (kind n : Nat) (hk : kind ≤ 255) (hn : n ≤ 65535) (w : World) : Calls Try.prog 14 #[.int .u8 kind, .int .u16 n] w fun e w' => e = .returned (wayV (wayOf kind n)) ∧ Below w.heap.size w w' := by
  have e3 : Int.tmod (kind : Int) 3 = ((kind % 3 : Nat) : Int) := rfl
  have e64 : Int.tmod (n : Int) 64 = ((n % 64 : Nat) : Int) := rfl
  have e240 : Int.tmod (n : Int) 240 = ((n % 240 : Nat) : Int) := rfl
  have e1001 : Int.tmod (n : Int) 1001 = ((n % 1001 : Nat) : Int) := rfl
  have h3 : kind % 3 = 0 ∨ kind % 3 = 1 ∨ kind % 3 = 2 := by omega
  unfold wayOf
  have f3 : (kind : Int) % 3 = ((kind % 3 : Nat) : Int) := by omega
  have f64 : (n : Int) % 64 = ((n % 64 : Nat) : Int) := by omega
  have f240 : (n : Int) % 240 = ((n % 240 : Nat) : Int) := by omega
  have f1001 : (n : Int) % 1001 = ((n % 1001 : Nat) : Int) := by omega
  have w1 : IntKind.i64.wrap (n : Int) = (n : Int) := IntWalk.i64_in _ (by omega)
  rcases h3 with h | h | h
  · rw [if_pos h]
    rw [h] at e3 f3
    obtain ⟨x, hx⟩ : ∃ x, n % 64 = x := ⟨_, rfl⟩
    have hxl : x < 64 := by omega
    rw [hx] at e64 f64 ⊢
    clear hx e240 e1001 f240 f1001
    go_enter Try.func14, Try.ntmps14
    go_wp2
    exact bodyPost_ret (results_cell15 rfl rfl (load_way15 (Blk.new _ _ _))) rfl ⟨rfl, (Below.refl _ _).alloc (Nat.le_refl _) _⟩
  · rw [if_neg (by omega), if_pos h]
    rw [h] at e3 f3
    obtain ⟨x, hx⟩ : ∃ x, n % 240 = x := ⟨_, rfl⟩
    have hxl : x < 240 := by omega
    rw [hx] at e240 f240 ⊢
    clear hx e64 e1001 f64 f1001
    go_enter Try.func14, Try.ntmps14
    go_wp2
    exact bodyPost_ret (results_cell15 rfl rfl (load_way15 (Blk.new _ _ _))) rfl ⟨rfl, (Below.refl _ _).alloc (Nat.le_refl _) _⟩
  · rw [if_neg (by omega), if_neg (by omega)]
    rw [h] at e3 f3
    obtain ⟨x, hx⟩ : ∃ x, n % 1001 = x := ⟨_, rfl⟩
    have hxl : x < 1001 := by omega
    rw [hx] at e1001 f1001 ⊢
    clear hx e64 e240 f64 f240
    go_enter Try.func14, Try.ntmps14
    go_wp2
    exact bodyPost_ret (results_cell15 rfl rfl (load_way15 (Blk.new _ _ _))) rfl ⟨rfl, (Below.refl _ _).alloc (Nat.le_refl _) _⟩

theorem unsN_next {yss : List (List Int)} {k : Nat} (h : k < yss.length) (z : List Bool) : unsN (yss.take (k + 1)) z = unsN (yss.take k) z + if clauseSat z (yss.getD k []) = true then 0 else 1 := by
  rw [List.take_succ_eq_append_getElem h, unsN_snoc]
  simp [List.getD, h]
theorem unsN_le (yss : List (List Int)) (z : List Bool) : unsN yss z ≤ yss.length := List.length_filter_le _ _
set_option maxRecDepth 100000 in
set_option maxHeartbeats 4000000 in
theorem unsat_any15 (F : Nat) (xss : List (List Int)) (z : List Bool) (B B' : Nat) (A Az : Option Addr) (cA cz : Nat) (w : World) (hF : F ≤ 1000) (hL : LightForm F xss) (hR : Rows w B A xss) (hZ : Bools w B' Az z) (hB : B ≤ w.heap.size) (hB' : B' ≤ w.heap.size) (hz : z.length = F) :
    Calls Try.prog 24 #[.agg #[.int .i64 F, .slice A xss.length cA], .slice Az z.length cz] w fun e w' => e = .returned (.int .i64 (unsN (normForm xss) z : Nat)) ∧ Below w.heap.size w w' := by
  obtain ⟨w1, hw1⟩ : ∃ w1, w1 = w.alloc (Obj.cells #[Value.int .i64 F, Value.slice A xss.length cA] 32) := ⟨_, rfl⟩
  have hb1 : Below w.heap.size w w1 := by rw [hw1]; exact (Below.refl _ _).alloc (Nat.le_refl _) _
  have hf1 : Blk w1 w.heap.size 32 #[Value.int .i64 F, Value.slice A xss.length cA] := by rw [hw1]; exact Blk.new w _ _
  have hn := formula_norm_any (F : Int) xss B A cA w1 (by have := hL.few; omega) (hL.lit hF) (hR.keep (w' := w1) fun p hp => hb1.cell (by omega)) (Nat.le_trans hB hb1.size)
  have HZ := Lib.hid (fun (W : World) (h : Below w1.heap.size w1 W) => show Bools W W.heap.size Az z from Cells.more (Cells.keep (w' := W) (Cells.keep (w' := w1) hZ fun p hp => hb1.cell (by omega)) fun p hp => h.cell (by have := hb1.size; omega)) (by have := hb1.size; have := h.size; omega))
  have hLN := hL.norm
  obtain ⟨yss, hys⟩ : ∃ yss, normForm xss = yss := ⟨_, rfl⟩
  rw [hys] at hn hLN ⊢
  have hyl := hLN.few
  have HLN := Lib.hid hLN
  have HN := Lib.hid hn
  have HB1 := Lib.hid (And.intro hb1 hf1)
  have HZL := Lib.hid hz
  clear hb1 hf1 hn hR hZ hL hys hLN
  rw [hz]
  clear hz
  go_enter Try.func24, Try.ntmps24
  go_wp2_with fail
  rw [← hw1]
  clear hw1
  refine HN.out.mono ?_
  rintro e w2 ⟨Al, cl, vs, rfl, hown, hol, hb2⟩
  have HO := Lib.hid (And.intro hown hol)
  have HB2 := Lib.hid hb2
  have hwl := HB1.out.2.lt
  obtain ⟨bo, hbo⟩ : ∃ bo, (yss.any fun y => y.isEmpty) = bo := ⟨_, rfl⟩
  rw [hbo]
  clear hown hol hb2 hbo HN
  go_wp2
  go_loopg [7, 17] (yss.length + 1) (fun gk tn ti wr => ∃ (j k : Nat), j ≤ yss.length ∧ k ≤ j ∧ gk = yss.length - j + 1 ∧ ti = .int .i64 (j : Nat) ∧ tn = .int .i64 (k : Nat) ∧ Hid (k = unsN (yss.take j) z) ∧ Hid (Below w2.heap.size w2 wr))
  case atStart => exact ⟨0, 0, by omega, by omega, by omega, rfl, rfl, Lib.hid rfl, Lib.hid (Below.refl _ _)⟩
  case round =>
    obtain ⟨j, k, hj, hkj, rfl, rfl, rfl, HK, HBR⟩ := hrel
    by_cases hlt : j < yss.length
    · obtain ⟨Aj, cj, h1, h2⟩ := HO.out.2.each j hlt
      have hrow := own_below HO.out.1 HBR.out fun q hq => (HO.out.1.lt q hq).2
      obtain ⟨ba, eA, _, _⟩ := own_addr hrow (by omega)
      rw [eA] at hrow
      have cA1 := World.ownsRow.cellAt hrow j (by omega)
      rw [h1] at cA1
      have hcl := own_below h2 HBR.out fun q hq => (h2.lt q hq).2
      have hII := ints_own15 hcl rfl
      have hnx := unsN_next hlt z
      rw [← HK.out] at hnx
      have hmem : yss.getD j [] ∈ yss := by simp only [List.getD, List.getElem?_eq_getElem hlt, Option.getD_some]; exact List.getElem_mem hlt
      have hlen := HLN.out.len j
      have hbd := HLN.out.bd j
      obtain ⟨c, hc⟩ : ∃ c, yss.getD j [] = c := ⟨_, rfl⟩
      rw [hc] at hII hnx cA1 hlen
      simp only [hc] at hbd
      have HII := Lib.hid hII
      have HNX := Lib.hid hnx
      have hfb : Blk wr w.heap.size 32 #[Value.int .i64 F, Value.slice A xss.length cA] := (HB1.out.2.below HB2.out hwl).below HBR.out (Nat.lt_of_lt_of_le hwl HB2.out.size)
      have f0 := hfb.cell 0
      simp at f0
      obtain ⟨w8, hw8⟩ : ∃ w8, w8 = wr.alloc (Obj.cells #[Value.slice Aj c.length cj] 48) := ⟨_, rfl⟩
      have hb8 : Below wr.heap.size wr w8 := by rw [hw8]; exact (Below.refl _ _).alloc (Nat.le_refl _) _
      have hs8 : w8.heap.size = wr.heap.size + 1 := by rw [hw8]; simp
      have hdh := docholds_any (F : Int) [c] w8.heap.size w8.heap.size (some ⟨wr.heap.size, 0, none⟩) Az z 1 cz w8 (by simp) (fun j => by match j with | 0 => simpa using (by omega) | j + 1 => simp)
        (fun j k => by match j with | 0 => (have := hbd k; simpa [HZL.out] using this) | j + 1 => simp) (by rw [HZL.out]; omega)
        (by rw [hw8]; exact rows_blk4 (vs := [Value.slice Aj c.length cj]) (Blk.new wr 48 _) (by simp) (fun j hj => by match j, hj with | 0, _ => exact ⟨Aj, cj, rfl, Cells.more (Cells.alloc HII.out (Nat.le_refl _) _) (by simp)⟩))
        (HZ.out w8 ((HB2.out.trans (HBR.out.mono HB2.out.size)).trans (hb8.mono (Nat.le_trans HB2.out.size HBR.out.size)))) (Nat.le_refl _) (Nat.le_refl _)
      have hfs : formSat z [c] = clauseSat z c := by simp [formSat]
      rw [hfs, HZL.out] at hdh
      obtain ⟨bz, hbz⟩ : ∃ bz, clauseSat z c = bz := ⟨_, rfl⟩
      rw [hbz] at hdh HNX
      have HDH := Lib.hid hdh
      have HB8 := Lib.hid hb8
      subst eA
      clear h1 h2 hrow hcl hII hnx hmem hlen hbd hc hfb hb8 hs8 hdh hfs hbz HII
      rcases bz with _ | _
      · go_wp2_with fail
        rw [← hw8]
        refine HDH.out.mono ?_
        rintro e w9 ⟨rfl, hb9⟩
        have HB9 := Lib.hid (HBR.out.trans ((HB8.out.trans (hb9.mono HB8.out.size)).mono HBR.out.size))
        clear hb9 hw8 f0 cA1
        go_wp2
        go_roundg (yss.length - j)
        case measure => omega
        case rel => exact ⟨j + 1, k + 1, by omega, by omega, by omega, by go_num, by go_num, Lib.hid (by rw [HNX.out]; rfl), HB9⟩
      · go_wp2_with fail
        rw [← hw8]
        refine HDH.out.mono ?_
        rintro e w9 ⟨rfl, hb9⟩
        have HB9 := Lib.hid (HBR.out.trans ((HB8.out.trans (hb9.mono HB8.out.size)).mono HBR.out.size))
        clear hb9 hw8 f0 cA1
        go_wp2
        go_roundg (yss.length - j)
        case measure => omega
        case rel => exact ⟨j + 1, k, by omega, by omega, by omega, by go_num, rfl, Lib.hid (by rw [HNX.out]; rfl), HB9⟩
    · have hjl : yss.length = j := by omega
      subst hjl
      rw [List.take_length] at HK
      have HBE := Lib.hid (HB1.out.1.trans ((HB2.out.trans (HBR.out.mono HB2.out.size)).mono HB1.out.1.size))
      go_wp2
      go_ret
      exact ⟨by rw [HK.out]; rfl, HBE.out⟩
end Go.Proofs.Ytllgepabjglnaaa
