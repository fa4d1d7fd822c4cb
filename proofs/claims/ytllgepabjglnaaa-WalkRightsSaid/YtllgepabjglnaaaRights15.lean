/- The statement on ways that may be: the walk. -/
import Derived.Test.YtllgepabjglnaaaChosen15
import Derived.Test.YtllgepabjglnaaaOpenArr15
import Derived.Deep.RegionHeld3
import Derived.BigQuiet
namespace Go.Proofs.Ytllgepabjglnaaa
open Go.RowKit
set_option linter.unusedVariables false
set_option linter.unusedSimpArgs false

theorem have15 {p q : Prop} (h : p) (k : Hid p → q) : q := k (Lib.hid h)
theorem right_iff15 (k b n : Int) : rightW k b n = (decide (k = 0 ∧ 1 ≤ b ∧ b ≤ 64 ∧ n = 0) || decide (k = 1 ∧ 17 ≤ b ∧ b ≤ 256 ∧ n = 0) || decide (k = 2 ∧ b = 0 ∧ 0 ≤ n ∧ n ≤ 1000)) := by
  rw [Bool.eq_iff_iff]
  simp [rightW, rightB]
  omega
set_option maxRecDepth 100000 in
set_option maxHeartbeats 16000000 in
theorem rights15_any (x0 x1 x2 : Int) (v : Nat) (nss : List (List Int)) (A : Option Addr) (c : Nat) (w : World) (hv : v ≤ 255)
    (hx : nss.length ≤ 140737488355328) (hl : ∀ j, (nss.getD j []).length ≤ 140737488355328) (hn : ∀ j k, -32768 ≤ (nss.getD j []).getD k 0 ∧ (nss.getD j []).getD k 0 ≤ 32767) (h : KRows .i16 w w.heap.size A nss) :
    Calls Try.prog 6 #[.agg #[.int .i64 x0, .int .i64 x1, .int .i64 x2], .agg #[.int .u8 v, .slice A nss.length c]] w fun e w' => e = .returned (.bool true) ∧ Below w.heap.size w w' := by
  have H := Lib.hid h
  have HL := Lib.hid hl
  have HN := Lib.hid hn
  clear h hl hn
  go_enter Try.func6, Try.ntmps6
  go_wp2_with fail
  obtain ⟨w0, hw0⟩ : ∃ w0, w0 = (w.alloc (Obj.cells #[Value.int .i64 x0, Value.int .i64 x1, Value.int .i64 x2] 63)).alloc (Obj.cells #[Value.int IntKind.u8 v, Value.slice A nss.length c] 24) := ⟨_, rfl⟩
  have HR0 := Lib.hid (show KRows .i16 w0 w.heap.size A nss by rw [hw0]; exact (H.out.alloc (Nat.le_refl _) _).alloc (by simp) _)
  have HB0 := Lib.hid (show Below w.heap.size w w0 by rw [hw0]; exact ((Below.refl _ _).alloc (Nat.le_refl _) _).alloc (by simp) _)
  have HK0 := Lib.hid (show Blk w0 (w.heap.size + 1) 24 #[Value.int IntKind.u8 v, Value.slice A nss.length c] by rw [hw0]; exact blk_new14 (by simp))
  have HQ0 := Lib.hid (show Blk w0 w.heap.size 63 #[Value.int .i64 x0, Value.int .i64 x1, Value.int .i64 x2] by rw [hw0]; exact (Blk.new w _ _).alloc _)
  rw [← hw0]
  clear hw0
  have q0 := HQ0.out.cell 0
  have q1 := HQ0.out.cell 1
  have q2 := HQ0.out.cell 2
  simp at q0 q1 q2
  go_quiet (fail)
  go_wp2_with fail
  obtain ⟨w1, hw1⟩ : ∃ w1, w1 = w0.drewN nq := ⟨_, rfl⟩
  have HR1 := Lib.hid (show KRows .i16 w1 w.heap.size A nss by rw [hw1]; exact HR0.out.below (below_drewN (Below.refl _ _) nq))
  have HB1 := Lib.hid (show Below w.heap.size w w1 by rw [hw1]; exact below_drewN HB0.out nq)
  have HK1 := Lib.hid (show Blk w1 (w.heap.size + 1) 24 #[Value.int IntKind.u8 v, Value.slice A nss.length c] by rw [hw1]; exact HK0.out)
  rw [← hw1]
  clear hw1 q0 q1 q2 HR0 HB0 HK0 HQ0
  refine (fit_any15 w1).mono ?_
  rintro e w2 ⟨rfl, hb2⟩
  have HR2 := Lib.hid (HR1.out.below (hb2.mono HB1.out.size))
  have HB2 := Lib.hid (HB1.out.trans (hb2.mono HB1.out.size))
  have HK2 := Lib.hid (HK1.out.below hb2 HK1.out.lt)
  clear hb2 HR1 HB1 HK1
  have k0 := HK2.out.cell 0
  have k1 := HK2.out.cell 1
  simp at k0 k1
  go_wp2_with fail
  refine (light_any v nss _ A c 40 w2 (by omega) hx HL.out HR2.out HB2.out.size).mono ?_
  rintro e w3 ⟨rfl, hb3⟩
  have HR3 := Lib.hid (HR2.out.below (hb3.mono HB2.out.size))
  have HB3 := Lib.hid (HB2.out.trans (hb3.mono HB2.out.size))
  have HK3 := Lib.hid (HK2.out.below hb3 HK2.out.lt)
  clear hb3 HR2 HB2 HK2 k0 k1
  have k0 := HK3.out.cell 0
  have k1 := HK3.out.cell 1
  simp at k0 k1
  rcases hlt : light nss 40 with _ | _
  · go_wp2
    go_ret
    exact ⟨rfl, HB3.out⟩
  · have hls := light_rows hlt
    have hF : v % (12 + 1) ≤ 12 := by omega
    clear hlt
    have hri := right_iff15 x0 x1 x2
    go_upto_region 6 with fail
    go_cut [8] (fun p wx => p = .bool (rightW x0 x1 x2) ∧ wx = w3)
    case first =>
      by_cases pa0 : x0 = 0
      · by_cases pa1 : 1 ≤ x1
        · by_cases pa2 : x1 ≤ 64
          · by_cases pa3 : x2 = 0
            · have ra0 : (x0 == 0) = true := by simp; omega
              have ra1 : decide (1 ≤ x1) = true := decide_eq_true (by omega)
              have ra2 : decide (x1 ≤ 64) = true := decide_eq_true (by omega)
              have ra3 : (x2 == 0) = true := by simp; omega
              have hw : rightW x0 x1 x2 = true := by rw [hri]; simp; omega
              have HW := Lib.hid hw
              clear hri hw pa0 pa1 pa2 pa3
              go_wp2_with fail
              go_meet
              exact ⟨by rw [HW.out], rfl⟩
            · have ra0 : (x0 == 0) = true := by simp; omega
              have ra1 : decide (1 ≤ x1) = true := decide_eq_true (by omega)
              have ra2 : decide (x1 ≤ 64) = true := decide_eq_true (by omega)
              have ra3 : (x2 == 0) = false := by simp; omega
              have rb0 : (x0 == 1) = false := by simp; omega
              have rc0 : (x0 == 2) = false := by simp; omega
              have hw : rightW x0 x1 x2 = false := by rw [hri]; simp; omega
              have HW := Lib.hid hw
              clear hri hw pa0 pa1 pa2 pa3
              go_wp2_with fail
              go_meet
              exact ⟨by rw [HW.out], rfl⟩
          · have ra0 : (x0 == 0) = true := by simp; omega
            have ra1 : decide (1 ≤ x1) = true := decide_eq_true (by omega)
            have ra2 : decide (x1 ≤ 64) = false := decide_eq_false (by omega)
            have rb0 : (x0 == 1) = false := by simp; omega
            have rc0 : (x0 == 2) = false := by simp; omega
            have hw : rightW x0 x1 x2 = false := by rw [hri]; simp; omega
            have HW := Lib.hid hw
            clear hri hw pa0 pa1 pa2
            go_wp2_with fail
            go_meet
            exact ⟨by rw [HW.out], rfl⟩
        · have ra0 : (x0 == 0) = true := by simp; omega
          have ra1 : decide (1 ≤ x1) = false := decide_eq_false (by omega)
          have rb0 : (x0 == 1) = false := by simp; omega
          have rc0 : (x0 == 2) = false := by simp; omega
          have hw : rightW x0 x1 x2 = false := by rw [hri]; simp; omega
          have HW := Lib.hid hw
          clear hri hw pa0 pa1
          go_wp2_with fail
          go_meet
          exact ⟨by rw [HW.out], rfl⟩
      · by_cases pb0 : x0 = 1
        · by_cases pb1 : 17 ≤ x1
          · by_cases pb2 : x1 ≤ 256
            · by_cases pb3 : x2 = 0
              · have ra0 : (x0 == 0) = false := by simp; omega
                have rb0 : (x0 == 1) = true := by simp; omega
                have rb1 : decide (17 ≤ x1) = true := decide_eq_true (by omega)
                have rb2 : decide (x1 ≤ 256) = true := decide_eq_true (by omega)
                have rb3 : (x2 == 0) = true := by simp; omega
                have hw : rightW x0 x1 x2 = true := by rw [hri]; simp; omega
                have HW := Lib.hid hw
                clear hri hw pa0 pb0 pb1 pb2 pb3
                go_wp2_with fail
                go_meet
                exact ⟨by rw [HW.out], rfl⟩
              · have ra0 : (x0 == 0) = false := by simp; omega
                have rb0 : (x0 == 1) = true := by simp; omega
                have rb1 : decide (17 ≤ x1) = true := decide_eq_true (by omega)
                have rb2 : decide (x1 ≤ 256) = true := decide_eq_true (by omega)
                have rb3 : (x2 == 0) = false := by simp; omega
                have rc0 : (x0 == 2) = false := by simp; omega
                have hw : rightW x0 x1 x2 = false := by rw [hri]; simp; omega
                have HW := Lib.hid hw
                clear hri hw pa0 pb0 pb1 pb2 pb3
                go_wp2_with fail
                go_meet
                exact ⟨by rw [HW.out], rfl⟩
            · have ra0 : (x0 == 0) = false := by simp; omega
              have rb0 : (x0 == 1) = true := by simp; omega
              have rb1 : decide (17 ≤ x1) = true := decide_eq_true (by omega)
              have rb2 : decide (x1 ≤ 256) = false := decide_eq_false (by omega)
              have rc0 : (x0 == 2) = false := by simp; omega
              have hw : rightW x0 x1 x2 = false := by rw [hri]; simp; omega
              have HW := Lib.hid hw
              clear hri hw pa0 pb0 pb1 pb2
              go_wp2_with fail
              go_meet
              exact ⟨by rw [HW.out], rfl⟩
          · have ra0 : (x0 == 0) = false := by simp; omega
            have rb0 : (x0 == 1) = true := by simp; omega
            have rb1 : decide (17 ≤ x1) = false := decide_eq_false (by omega)
            have rc0 : (x0 == 2) = false := by simp; omega
            have hw : rightW x0 x1 x2 = false := by rw [hri]; simp; omega
            have HW := Lib.hid hw
            clear hri hw pa0 pb0 pb1
            go_wp2_with fail
            go_meet
            exact ⟨by rw [HW.out], rfl⟩
        · by_cases pc0 : x0 = 2
          · by_cases pc1 : x1 = 0
            · by_cases pc2 : 0 ≤ x2
              · by_cases pc3 : x2 ≤ 1000
                · have ra0 : (x0 == 0) = false := by simp; omega
                  have rb0 : (x0 == 1) = false := by simp; omega
                  have rc0 : (x0 == 2) = true := by simp; omega
                  have rc1 : (x1 == 0) = true := by simp; omega
                  have rc2 : decide (0 ≤ x2) = true := decide_eq_true (by omega)
                  have rc3 : decide (x2 ≤ 1000) = true := decide_eq_true (by omega)
                  have hw : rightW x0 x1 x2 = true := by rw [hri]; simp; omega
                  have HW := Lib.hid hw
                  clear hri hw pa0 pb0 pc0 pc1 pc2 pc3
                  go_wp2_with fail
                  go_meet
                  exact ⟨by rw [HW.out], rfl⟩
                · have ra0 : (x0 == 0) = false := by simp; omega
                  have rb0 : (x0 == 1) = false := by simp; omega
                  have rc0 : (x0 == 2) = true := by simp; omega
                  have rc1 : (x1 == 0) = true := by simp; omega
                  have rc2 : decide (0 ≤ x2) = true := decide_eq_true (by omega)
                  have rc3 : decide (x2 ≤ 1000) = false := decide_eq_false (by omega)
                  have hw : rightW x0 x1 x2 = false := by rw [hri]; simp; omega
                  have HW := Lib.hid hw
                  clear hri hw pa0 pb0 pc0 pc1 pc2 pc3
                  go_wp2_with fail
                  go_meet
                  exact ⟨by rw [HW.out], rfl⟩
              · have ra0 : (x0 == 0) = false := by simp; omega
                have rb0 : (x0 == 1) = false := by simp; omega
                have rc0 : (x0 == 2) = true := by simp; omega
                have rc1 : (x1 == 0) = true := by simp; omega
                have rc2 : decide (0 ≤ x2) = false := decide_eq_false (by omega)
                have hw : rightW x0 x1 x2 = false := by rw [hri]; simp; omega
                have HW := Lib.hid hw
                clear hri hw pa0 pb0 pc0 pc1 pc2
                go_wp2_with fail
                go_meet
                exact ⟨by rw [HW.out], rfl⟩
            · have ra0 : (x0 == 0) = false := by simp; omega
              have rb0 : (x0 == 1) = false := by simp; omega
              have rc0 : (x0 == 2) = true := by simp; omega
              have rc1 : (x1 == 0) = false := by simp; omega
              have hw : rightW x0 x1 x2 = false := by rw [hri]; simp; omega
              have HW := Lib.hid hw
              clear hri hw pa0 pb0 pc0 pc1
              go_wp2_with fail
              go_meet
              exact ⟨by rw [HW.out], rfl⟩
          · have ra0 : (x0 == 0) = false := by simp; omega
            have rb0 : (x0 == 1) = false := by simp; omega
            have rc0 : (x0 == 2) = false := by simp; omega
            have hw : rightW x0 x1 x2 = false := by rw [hri]; simp; omega
            have HW := Lib.hid hw
            clear hri hw pa0 pb0 pc0
            go_wp2_with fail
            go_meet
            exact ⟨by rw [HW.out], rfl⟩
    case rest =>
      obtain ⟨rfl, rfl⟩ := hcut
      obtain ⟨w3, rfl⟩ : ∃ w3, w3 = wc := ⟨_, rfl⟩
      clear hri
      go_wp2_with fail
      refine (formula_any v nss _ A c 12 6 w3 hv (by omega) (by omega) hls.1 hls.2 HN.out HR3.out HB3.out.size).mono ?_
      obtain ⟨F, hFF⟩ : ∃ F, F = v % (12 + 1) := ⟨_, rfl⟩
      rw [← hFF] at hF ⊢
      clear hFF
      obtain ⟨xss, hxs⟩ : ∃ xss, xss = rawForm F 6 nss := ⟨_, rfl⟩
      rw [← hxs]
      rintro e w4 ⟨A4, c4, vs4, rfl, hown4, hlist4, hb4⟩
      have HB4 := Lib.hid (HB3.out.trans (hb4.mono HB3.out.size))
      clear hown4 hlist4 hb4 k0 k1 hxs HR3 HB3 HK3 hls
      go_wp2_with fail
      obtain ⟨w5, hw5⟩ : ∃ w5, w5 = w4.alloc (Obj.cells #[Value.int IntKind.i64 F, Value.slice A4 xss.length c4] 32) := ⟨_, rfl⟩
      have HFB5 := Lib.hid (show Blk w5 w4.heap.size 32 #[Value.int IntKind.i64 F, Value.slice A4 xss.length c4] by rw [hw5]; exact Blk.new w4 _ _)
      have HB5 := Lib.hid (show Below w.heap.size w w5 by rw [hw5]; exact HB4.out.alloc HB4.out.size _)
      have hs5 : w4.heap.size + 1 ≤ w5.heap.size := by rw [hw5]; simp
      rw [← hw5]
      clear hw5 HB4
      obtain ⟨n1, hn1⟩ : ∃ n1, F + 1 = n1 := ⟨_, rfl⟩
      have hpl : (F : Int) + 1 = (n1 : Int) := by omega
      have hwr : IntKind.i64.wrap ((F : Int) + 1) = (n1 : Int) := by rw [i64_ok14 (by omega)]; exact hpl
      have hwr2 : IntKind.i64.wrap (n1 : Int) = (n1 : Int) := i64_ok14 (by omega)
      have hm1 := run_make_row' (P := Try.prog) 34 4 (.bool false) 1 Try.underlying34 infoCB rfl .i64 .i64 n1 (by omega) (by omega)
      have HRN := Lib.hid (fun W : World => show Calls Try.prog 15 #[.slice none 0 0, .int .u64 1] W _ from rng_new (w := W) (B := 0) (A := none) (c := 0) (ws := []) ⟨Cells.nil_, Nat.le_refl _, by simp, by simp⟩ (Nat.zero_le _) 1 (by decide))
      have HWK := Lib.hid (fun (Az : Option Addr) (r : Nat) (W : World) => walk_no15 F n1 A4 Az xss.length c4 n1 r 2 0 0 5 W (by omega) (by omega) (by omega))
      have HCE : Hid (∀ W, Ft (fun _ => False) w5 W → (W.cell? ⟨w4.heap.size, 0, none⟩ = some (.int .i64 F) ∧ W.cell? ⟨w4.heap.size, 1, none⟩ = some (.slice A4 xss.length c4))) := Lib.hid fun W hf => by
        have hk := hf.blk HFB5.out (fun e => e)
        exact ⟨by rw [hk.cell]; rfl, by rw [hk.cell]; rfl⟩
      have HF5 : Hid (Ft (fun _ => False) w5 w5) := Lib.hid (Ft.refl _)
      obtain ⟨c0, c1⟩ := HCE.out w5 HF5.out
      clear hn1
      go_cut [10, 11] (fun p q wx => ∃ g : Nat, p = .pointer (some ⟨g, 0, none⟩) ∧ q = .int .i64 1 ∧ Hid (Blk wx g 57 #[.slice none 0 0, .int .i64 0, .int .i64 0] ∧ Ft (fun _ => False) w5 wx))
      case first =>
        go_region_held3 (fun W => W.cell? ⟨w4.heap.size, 0, none⟩ = some (.int .i64 F) ∧ W.cell? ⟨w4.heap.size, 1, none⟩ = some (.slice A4 xss.length c4)) (exact HCE.out _ (by repeat (first | with_reducible exact HF5.out | with_reducible exact HFN.out | with_reducible exact HFW.out | apply Ft.drew | apply ftAlloc | (refine Ft.set ?_ (fun h => absurd h (by omega)) _ _))))
          (first
           | (go_at_call 15; with_reducible refine (HRN.out _).mono ?_; rintro e wq ⟨r, rfl, hs, hb⟩; have HFN : Hid (Ft (fun _ => False) w5 wq) := Lib.hid (by refine Ft.low ?_ hb; repeat (first | with_reducible exact HF5.out | apply Ft.drew | apply ftAlloc)); have hsq := HFN.out.size; (first | (refine have15 (Blk.below (g := w5.heap.size) (t := 57) (cs := #[.slice none 0 0, .int .i64 0, .int .i64 0]) ?_ hb ?_) ?_; (focus ((repeat (first | with_reducible exact Blk.new _ _ _ | (refine blk_new14 ?_; simp; done) | refine Blk.drew_ ?_ | refine Blk.alloc ?_ _)); done)); (focus (first | (simp; done) | (simp; omega))); intro HX0) | skip); (first | (refine have15 (Blk.below (g := w5.heap.size + 1) (t := 57) (cs := #[.slice none 0 0, .int .i64 0, .int .i64 0]) ?_ hb ?_) ?_; (focus ((repeat (first | with_reducible exact Blk.new _ _ _ | (refine blk_new14 ?_; simp; done) | refine Blk.drew_ ?_ | refine Blk.alloc ?_ _)); done)); (focus (first | (simp; done) | (simp; omega))); intro HX1) | skip); clear hs hb)
           | (go_at_call 25; with_reducible refine (HWK.out _ _ _).mono ?_; rintro e wz ⟨rfl, hb⟩; have HFW : Hid (Ft (fun _ => False) w5 wz) := Lib.hid (by refine Ft.low ?_ hb; repeat (first | with_reducible exact HFN.out | apply Ft.drew | apply ftAlloc)); have hsz := HFW.out.size; (first | (refine have15 (Blk.below (g := w5.heap.size) (t := 57) (cs := #[.slice none 0 0, .int .i64 0, .int .i64 0]) ?_ hb ?_) ?_; (focus ((repeat (first | with_reducible exact HX0.out | refine Blk.drew_ ?_ | refine Blk.alloc ?_ _)); done)); (focus (first | (simp; done) | (simp; omega) | (have := HX0.out.lt; simp; omega) | (have := HX0.out.lt; omega))); intro HKW; have d0 := HKW.out.cell 0; have d1 := HKW.out.cell 1; have d2 := HKW.out.cell 2; have f0' := HKW.out.frozen 0; have f1' := HKW.out.frozen 1; have f2' := HKW.out.frozen 2; simp at d0 d1 d2) | skip); (first | (refine have15 (Blk.below (g := w5.heap.size + 1) (t := 57) (cs := #[.slice none 0 0, .int .i64 0, .int .i64 0]) ?_ hb ?_) ?_; (focus ((repeat (first | with_reducible exact HX1.out | refine Blk.drew_ ?_ | refine Blk.alloc ?_ _)); done)); (focus (first | (simp; done) | (simp; omega) | (have := HX1.out.lt; simp; omega) | (have := HX1.out.lt; omega))); intro HKW; have d0 := HKW.out.cell 0; have d1 := HKW.out.cell 1; have d2 := HKW.out.cell 2; have f0' := HKW.out.frozen 0; have f1' := HKW.out.frozen 1; have f2' := HKW.out.frozen 2; simp at d0 d1 d2) | skip); (first | (refine have15 (Blk.below (g := wq.heap.size) (t := 57) (cs := #[.slice none 0 0, .int .i64 0, .int .i64 0]) ?_ hb ?_) ?_; (focus ((repeat (first | with_reducible exact Blk.new _ _ _ | (refine blk_new14 ?_; simp; done) | refine Blk.drew_ ?_ | refine Blk.alloc ?_ _)); done)); (focus (first | (simp; done) | (simp; omega))); intro HKW; have d0 := HKW.out.cell 0; have d1 := HKW.out.cell 1; have d2 := HKW.out.cell 2; have f0' := HKW.out.frozen 0; have f1' := HKW.out.frozen 1; have f2' := HKW.out.frozen 2; simp at d0 d1 d2) | skip); (first | (refine have15 (Blk.below (g := wq.heap.size + 1) (t := 57) (cs := #[.slice none 0 0, .int .i64 0, .int .i64 0]) ?_ hb ?_) ?_; (focus ((repeat (first | with_reducible exact Blk.new _ _ _ | (refine blk_new14 ?_; simp; done) | refine Blk.drew_ ?_ | refine Blk.alloc ?_ _)); done)); (focus (first | (simp; done) | (simp; omega))); intro HKW; have d0 := HKW.out.cell 0; have d1 := HKW.out.cell 1; have d2 := HKW.out.cell 2; have f0' := HKW.out.frozen 0; have f1' := HKW.out.frozen 1; have f2' := HKW.out.frozen 2; simp at d0 d1 d2) | skip); clear hb))
        all_goals
          go_wp2_with fail
          go_meet
          first
            | exact ⟨_, rfl, rfl, Lib.hid ⟨Blk.new _ _ _, ftAlloc HFW.out _⟩⟩
            | exact ⟨_, rfl, rfl, Lib.hid ⟨blk3_15 HKW.out _ _ _, (((HFW.out.set (fun h => absurd h (by omega)) _ _).set (fun h => absurd h (by omega)) _ _).set (fun h => absurd h (by omega)) _ _)⟩⟩
      case rest =>
        obtain ⟨g, rfl, rfl, HG⟩ := hcut
        have d0 := HG.out.1.cell 0
        have d1 := HG.out.1.cell 1
        have d2 := HG.out.1.cell 2
        simp at d0 d1 d2
        have HBC : Hid (Below w.heap.size w wc) := Lib.hid (HB5.out.trans (HG.out.2.below HB5.out.size fun q e => e.elim))
        have HRT := Lib.hid (fun W => wright_any15 x0 x1 x2 W)
        obtain ⟨rb, hrb⟩ : ∃ rb, rightW x0 x1 x2 = rb := ⟨_, rfl⟩
        rw [hrb] at HRT ⊢
        have hbb : (rb == rb) = true := by cases rb <;> rfl
        clear hm1 hrb
        go_wp2_with fail
        refine (HRT.out _).mono ?_
        rintro e w6 ⟨rfl, hb6⟩
        have hk6 := HG.out.1.below hb6 HG.out.1.lt
        have d0 := hk6.cell 0
        have d1 := hk6.cell 1
        have d2 := hk6.cell 2
        simp at d0 d1 d2
        have HB6 := Lib.hid (HBC.out.trans (hb6.mono HBC.out.size))
        clear hb6 hk6
        go_wp2
        go_ret
        exact ⟨rfl, HB6.out⟩
theorem rights15_raw (x0 x1 x2 u : Int) (nss : List (List Int)) (A : Option Addr) (c' : Nat) (w : World) (hu : (Lit.int .u8 u).wf = true)
    (hx : nss.length ≤ 5864062014805) (m : ∀ j, (nss.getD j []).length * 2 ≤ 140737488351232) (hn : ∀ j i, (Lit.int .i16 ((nss.getD j []).getD i 0)).wf = true) (h : KRows .i16 w w.heap.size A nss) :
    Calls Try.prog 6 #[.agg #[.int .i64 x0, .int .i64 x1, .int .i64 x2], .agg #[.int .u8 u, .slice A nss.length c']] w fun e w' => e = .returned (.bool true) ∧ Below w.heap.size w w' := by
  obtain ⟨v, rfl, hv⟩ := u8_nat14 hu
  exact rights15_any x0 x1 x2 v nss A c' w hv (by omega) (fun j => by have := m j; omega) (fun j k => by have := bounds_i16 (hn j k); omega) h
end Go.Proofs.Ytllgepabjglnaaa

