/- The statement that a copy has the same clauses, and is the caller's own: walked. -/
import Derived.Test.YtdacdodigbpdoaaEval02
import Derived.Test.YtdacdodigbpdoaaCells2
import Derived.Deep.RegionHeld3
namespace Go.Proofs.Ytdacdodigbpdoaa
open Go.RowKit

/-- a copy whose literals are being turned -/
structure Turned (wc : World) (blk0 : Nat) (A3 : Option Addr) (c3 : Nat) (vs3 : List Value) (xss : List (List Int)) (F : Nat) (wr : World) : Prop where
  blk : Blk wr blk0 30 #[Value.int IntKind.i64 F, Value.slice A3 xss.length c3]
  own : wr.ownsRow wc.heap.size 33 1 (.slice A3 xss.length c3) xss.length vs3
  below : Below wc.heap.size wc wr
  rows : ∃ yss : List (List Int), yss.length = xss.length ∧ (∀ j, (yss.getD j []).length = (xss.getD j []).length) ∧ OwnList wr wc.heap.size 3 vs3 yss
theorem Turned.drew {wc : World} {blk0 : Nat} {A3 : Option Addr} {c3 : Nat} {vs3 : List Value} {xss : List (List Int)} {F : Nat} {wr : World} (h : Turned wc blk0 A3 c3 vs3 xss F wr) : Turned wc blk0 A3 c3 vs3 xss F wr.drew := by
  obtain ⟨yss, h1, h2, h3⟩ := h.rows
  exact ⟨h.blk, h.own, h.below.drew, yss, h1, h2, ⟨h3.each, h3.ne⟩⟩
theorem Turned.row {wc : World} {blk0 : Nat} {c3 g3 : Nat} {vs3 : List Value} {xss : List (List Int)} {F : Nat} {wr : World} (h : Turned wc blk0 (some ⟨g3, 0, none⟩) c3 vs3 xss F wr) {i : Nat} (hi : i < xss.length) :
    ∃ Ai ci, vs3[i]? = some (.slice Ai (xss.getD i []).length ci) ∧ wr.cell? ⟨g3, i, none⟩ = some (.slice Ai (xss.getD i []).length ci) := by
  obtain ⟨yss, hl, hr, ho⟩ := h.rows
  obtain ⟨Ai, ci, h1, _⟩ := ho.each i (by omega)
  rw [hr i] at h1
  exact ⟨Ai, ci, h1, by rw [World.ownsRow.cellAt h.own i (by omega)]; exact h1⟩
theorem Turned.elem {wc : World} {blk0 : Nat} {c3 g3 : Nat} {vs3 : List Value} {xss : List (List Int)} {F : Nat} {wr : World} (h : Turned wc blk0 (some ⟨g3, 0, none⟩) c3 vs3 xss F wr) {i k li ci : Nat} {Ai : Option Addr} (hi : i < xss.length)
    (hv : vs3[i]? = some (.slice Ai li ci)) (hli : li = (xss.getD i []).length) (hk : k < li) :
    ∃ g, Ai = some ⟨g, 0, none⟩ ∧ ∃ x, wr.cell? ⟨g, k, none⟩ = some (.int .i64 x) ∧ wr.frozen? ⟨g, k, none⟩ = false ∧ ∀ y, Turned wc blk0 (some ⟨g3, 0, none⟩) c3 vs3 xss F (wr.setCell ⟨g, k, none⟩ (.int .i64 y)) := by
  obtain ⟨yss, hl, hr, ho⟩ := h.rows
  obtain ⟨Ai', ci', h1, h2⟩ := ho.each i (by omega)
  rw [hv] at h1
  injection h1 with h1
  injection h1 with e1 e2 e3
  subst e1 e3
  have hyl : (yss.getD i []).length = li := by rw [hr i, hli]
  rw [hyl] at h2
  obtain ⟨g, hA, hg1, hg2⟩ := own_addr h2 (by omega)
  subst hA
  have hcx := World.ownsRow.cellAt h2 k (by omega)
  refine ⟨g, rfl, (yss.getD i []).getD k 0, by rw [hcx]; simp [List.getD, show k < ((yss[i]?).getD []).length by simpa [List.getD] using (by omega : k < (yss.getD i []).length)], World.ownsRow.frozenAt h2 k, fun y => ⟨?_, ?_, ?_, ?_⟩⟩
  · exact h.blk.far (p := ⟨g, k, none⟩) (fun e => own_blk_ne h2 h.blk (by decide) (by show some blk0 = some g; rw [e])) _
  · exact own_setCell h.own _ (fun e => by
      rcases own_own_ne h2 h.own (by decide) with h3 | h3
      · cases h3
      · exact h3 e)
  · exact h.below.setCell (p := ⟨g, k, none⟩) hg1 _
  · refine ⟨yss.set i ((yss.getD i []).set k y), by simpa using hl, fun j => ?_, ho.setAt (by omega) (by rw [hyl]; exact hv) y⟩
    by_cases hij : j = i
    · subst hij
      rw [← hr j]
      simp [List.getD, show j < yss.length by omega]
    · rw [← hr j]
      simp [List.getD, List.getElem?_set_ne (show i ≠ j by omega)]

set_option maxHeartbeats 6400000 in
theorem copies_any (v : Nat) (nss : List (List Int)) (A : Option Addr) (c : Nat) (w : World) (hv : v ≤ 255)
    (hx : nss.length ≤ 140737488355328) (hl : ∀ j, (nss.getD j []).length ≤ 140737488355328) (hn : ∀ j k, -32768 ≤ (nss.getD j []).getD k 0 ∧ (nss.getD j []).getD k 0 ≤ 32767) (h : KRows .i16 w w.heap.size A nss) :
    Calls Try.prog 5 #[.agg #[.int .u8 v, .slice A nss.length c]] w fun e w' => e = .returned (.bool true) ∧ Below w.heap.size w w' := by
  have H := Lib.hid h
  have HL := Lib.hid hl
  have HN := Lib.hid hn
  clear h hl hn
  go_enter Try.func5, Try.ntmps5
  go_wp2_with fail
  obtain ⟨w1, hw1⟩ : ∃ w1, w1 = w.alloc (Obj.cells #[Value.int IntKind.u8 v, Value.slice A nss.length c] 24) := ⟨_, rfl⟩
  have HR1 := Lib.hid (show KRows .i16 w1 w.heap.size A nss by rw [hw1]; exact H.out.alloc (Nat.le_refl _) _)
  have HB1 := Lib.hid (show Below w.heap.size w w1 by rw [hw1]; exact (Below.refl _ _).alloc (Nat.le_refl _) _)
  have HK1 := Lib.hid (show Blk w1 w.heap.size 24 #[Value.int IntKind.u8 v, Value.slice A nss.length c] by rw [hw1]; exact Blk.new w _ _)
  rw [← hw1]
  clear hw1
  refine (fit02_any w1).mono ?_
  rintro e w2 ⟨rfl, hb2⟩
  have HR2 := Lib.hid (HR1.out.below (hb2.mono HB1.out.size))
  have HB2 := Lib.hid (HB1.out.trans (hb2.mono HB1.out.size))
  have HK2 := Lib.hid (HK1.out.below hb2 HK1.out.lt)
  clear hb2 HR1 HB1 HK1
  have k0 := HK2.out.cell 0
  have k1 := HK2.out.cell 1
  simp at k0 k1
  go_wp2_with fail
  refine (light_any v nss _ A c 40 w2 (by omega) hx HL.out HR2.out HB2.out.size).mono ?_
  rintro e w3 ⟨rfl, hb3⟩
  have HR3 := Lib.hid (HR2.out.below (hb3.mono HB2.out.size))
  have HB3 := Lib.hid (HB2.out.trans (hb3.mono HB2.out.size))
  have HK3 := Lib.hid (HK2.out.below hb3 HK2.out.lt)
  clear hb3 HR2 HB2 HK2 k0 k1
  have k0 := HK3.out.cell 0
  have k1 := HK3.out.cell 1
  simp at k0 k1
  rcases hlt : light nss 40 with _ | _
  · go_wp2
    go_ret
    exact ⟨rfl, HB3.out⟩
  · have hls := light_small hlt (by omega)
    have HLT := Lib.hid hlt
    clear hlt
    have hF : v % (12 + 1) ≤ 12 := by omega
    have hfo := fun (X : World) (h1 : KRows .i16 X w.heap.size A nss) (h2 : w.heap.size ≤ X.heap.size) => formula_any v nss _ A c 12 9 X hv (by omega) (by omega) hls.1 hls.2 HN.out h1 h2
    obtain ⟨F, hFF⟩ : ∃ F, F = v % (12 + 1) := ⟨_, rfl⟩
    rw [← hFF] at hF
    simp only [← hFF] at hfo
    clear hFF
    have hrf := raw_facts (F := F) (width := 9) (by omega) (by omega) (by omega) HLT.out
    obtain ⟨xss, hxs⟩ : ∃ xss, xss = rawForm F 9 nss := ⟨_, rfl⟩
    rw [← hxs] at hrf
    simp only [← hxs] at hfo
    clear hxs
    obtain ⟨hx1, hx2, hx3, hx4, hx5⟩ := hrf
    have HX2 := Lib.hid hx2
    have HX3 := Lib.hid hx3
    have HX5 := Lib.hid hx5
    have HFO := Lib.hid hfo
    have hs03 := HB3.out.size
    have hlt0 : w.heap.size < w3.heap.size := HK3.out.lt
    clear hx2 hx3 hx5 hfo hls
    have HKR := Lib.hid (show ∀ X, Below w3.heap.size w3 X → KRows .i16 X w.heap.size A nss ∧ w.heap.size ≤ X.heap.size from fun X h => ⟨HR3.out.below (h.mono hs03), Nat.le_trans hs03 h.size⟩)
    have HKE := Lib.hid (show ∀ X, Below w3.heap.size w3 X → X.cell? ⟨w.heap.size, 0, none⟩ = some (.int .u8 v) ∧ X.cell? ⟨w.heap.size, 1, none⟩ = some (.slice A nss.length c) from
      fun X h => ⟨(h.cell (p := ⟨w.heap.size, 0, none⟩) hlt0).trans k0, (h.cell (p := ⟨w.heap.size, 1, none⟩) hlt0).trans k1⟩)
    go_wp2_with fail
    go_cut [3, 4] (fun p q w' => ∃ (gf gg B : Nat) (A1 A2 : Option Addr) (c1 c2 : Nat) (vs : List Value), p = .pointer (some ⟨gf, 0, none⟩) ∧ q = .pointer (some ⟨gg, 0, none⟩) ∧ w3.heap.size ≤ gf ∧ w3.heap.size ≤ gg ∧
      Blk w' gf 30 #[.int .i64 F, .slice A1 xss.length c1] ∧ Blk w' gg 30 #[.int .i64 F, .slice A2 xss.length c2] ∧ B ≤ w'.heap.size ∧ gf ≠ gg ∧
      Rows w' B A1 xss ∧ w'.ownsRow B 33 1 (.slice A2 xss.length c2) xss.length vs ∧ OwnList w' B 3 vs xss ∧ Below w3.heap.size w3 w')
    case first =>
      have firstCall : Hid True := Lib.hid trivial
      go_region_held3 (fun w' => w'.cell? ⟨w.heap.size, 0, none⟩ = some (.int .u8 v) ∧ w'.cell? ⟨w.heap.size, 1, none⟩ = some (.slice A nss.length c))
        (first
          | (refine HKE.out _ ?_; repeat (first | exact HB.out | exact HA.out | exact Below.refl _ _ | refine Below.drew ?_ | refine Below.alloc ?_ (by first | exact Nat.le_refl _ | omega | (simp <;> omega)) _ | refine Below.setCell ?_ (by first | exact Nat.le_refl _ | omega | (simp <;> omega)) _))
          | go_keep)
        (first
          | (go_at_call 10; clear firstCall; refine (HFO.out _ (HKR.out _ ?_).1 (HKR.out _ ?_).2).mono ?_; (repeat (first | exact Below.refl _ _ | refine Below.drew ?_ | refine Below.alloc ?_ (by first | exact Nat.le_refl _ | omega | (simp <;> omega)) _)); (repeat (first | exact Below.refl _ _ | refine Below.drew ?_ | refine Below.alloc ?_ (by first | exact Nat.le_refl _ | omega | (simp <;> omega)) _)); rintro e wA ⟨A1, c1, vs1, rfl, ho1, hl1, hb1⟩; have hA : Below w3.heap.size w3 wA := (by refine Below.trans ?_ (hb1.mono ?_); (repeat (first | exact Below.refl _ _ | refine Below.drew ?_ | refine Below.alloc ?_ (by first | exact Nat.le_refl _ | omega | (simp <;> omega)) _)); (first | exact Nat.le_refl _ | (simp; done) | (simp; omega))); have HA := Lib.hid hA; clear hA; have hzA : w3.heap.size ≤ wA.heap.size := HA.out.size; have hzA2 := hb1.size; (try simp at hzA2); have HRK := Lib.hid (fun w' => hl1.rows_agree (w' := w') ho1); (try simp at HRK); (try (have BZ0 := Lib.hid (show Blk wA w3.heap.size 30 #[Value.int IntKind.i64 0, Value.slice none 0 0] from Blk.below (by first | exact Blk.new w3 _ _ | exact (Blk.new w3 _ _).alloc _ | exact (Blk.new w3 _ _).drew_ | exact ((Blk.new w3 _ _).alloc _).drew_) hb1 (by first | omega | (simp <;> omega))))); (try (have BZ1 := Lib.hid (show Blk wA (w3.heap.size + 1) 30 #[Value.int IntKind.i64 0, Value.slice none 0 0] from Blk.below (by have hq := Blk.new (w3.alloc (Obj.cells #[Value.int IntKind.i64 0, Value.slice none 0 0] 30)) 30 #[Value.int IntKind.i64 0, Value.slice none 0 0]; simp only [World.size_alloc] at hq; first | exact hq | exact hq.drew_) hb1 (by first | omega | (simp <;> omega))))); clear ho1 hl1 hb1)
          | (go_at_call 10; have tok := HA.out; clear tok; refine (HFO.out _ (HKR.out _ ?_).1 (HKR.out _ ?_).2).mono ?_; (repeat (first | exact HA.out | exact Below.refl _ _ | refine Below.drew ?_ | refine Below.alloc ?_ (by first | exact Nat.le_refl _ | omega | (simp <;> omega)) _)); (repeat (first | exact HA.out | exact Below.refl _ _ | refine Below.drew ?_ | refine Below.alloc ?_ (by first | exact Nat.le_refl _ | omega | (simp <;> omega)) _)); rintro e wB ⟨A2, c2, vs2, rfl, ho2, hl2, hb2⟩; have hB : Below w3.heap.size w3 wB := (by refine Below.trans ?_ (hb2.mono ?_); (repeat (first | exact HA.out | exact Below.refl _ _ | refine Below.drew ?_ | refine Below.alloc ?_ (by first | exact Nat.le_refl _ | omega | (simp <;> omega)) _)); (first | exact HA.out.size | (simp; have hq := HA.out.size; omega))); have HB := Lib.hid hB; clear hB; have hzB : wA.heap.size ≤ wB.heap.size := (by have hq := hb2.size; first | exact hq | (simp at hq; omega)); have hzB2 := hb2.size; (try simp at hzB2); have HBA := Lib.hid (show Below wA.heap.size wA wB by refine Below.trans ?_ (hb2.mono ?_); (repeat (first | exact Below.refl _ _ | refine Below.drew ?_ | refine Below.alloc ?_ (by first | exact Nat.le_refl _ | omega | (simp <;> omega)) _)); (first | exact Nat.le_refl _ | (simp <;> omega))); have HO2 := Lib.hid ho2; have HL2 := Lib.hid hl2; have HB2 := Lib.hid hb2.block; (try simp at HO2); (try simp at HL2); (try simp at HB2); (try (have CZ0 := Lib.hid (show Blk wB w3.heap.size 30 #[Value.int IntKind.i64 0, Value.slice none 0 0] from Blk.below (by first | exact BZ0.out | exact BZ0.out.alloc _ | exact (BZ0.out.alloc _).alloc _ | exact BZ0.out.drew_ | exact (BZ0.out.alloc _).drew_ | exact ((BZ0.out.alloc _).alloc _).drew_) hb2 (by first | omega | (simp <;> omega))))); (try (have CZ1 := Lib.hid (show Blk wB (w3.heap.size + 1) 30 #[Value.int IntKind.i64 0, Value.slice none 0 0] from Blk.below (by first | exact BZ1.out | exact BZ1.out.alloc _ | exact (BZ1.out.alloc _).alloc _ | exact BZ1.out.drew_ | exact (BZ1.out.alloc _).drew_ | exact ((BZ1.out.alloc _).alloc _).drew_) hb2 (by first | omega | (simp <;> omega))))); (try (have DZ0 := Lib.hid (show Blk wB wA.heap.size 30 #[Value.int IntKind.i64 0, Value.slice none 0 0] from Blk.below (by first | exact Blk.new wA _ _ | exact (Blk.new wA _ _).alloc _ | exact (Blk.new wA _ _).drew_ | exact ((Blk.new wA _ _).alloc _).drew_) hb2 (by first | omega | (simp <;> omega))))); (try (have DZ1 := Lib.hid (show Blk wB (wA.heap.size + 1) 30 #[Value.int IntKind.i64 0, Value.slice none 0 0] from Blk.below (by have hq := Blk.new (wA.alloc (Obj.cells #[Value.int IntKind.i64 0, Value.slice none 0 0] 30)) 30 #[Value.int IntKind.i64 0, Value.slice none 0 0]; simp only [World.size_alloc] at hq; first | exact hq | exact hq.drew_) hb2 (by first | omega | (simp <;> omega))))); (try (have p0 := CZ0.out.c0; have p1 := CZ0.out.c1; have pf := CZ0.out.frozen; have p0' := fun o => (CZ0.out.alloc o).c0; have p1' := fun o => (CZ0.out.alloc o).c1; have pf' := fun o => (CZ0.out.alloc o).frozen)); (try (have q0 := CZ1.out.c0; have q1 := CZ1.out.c1; have qf := CZ1.out.frozen; have q0' := fun o => (CZ1.out.alloc o).c0; have q1' := fun o => (CZ1.out.alloc o).c1; have qf' := fun o => (CZ1.out.alloc o).frozen)); (try (have r0 := DZ0.out.c0; have r1 := DZ0.out.c1; have rf := DZ0.out.frozen; have r0' := fun o => (DZ0.out.alloc o).c0; have r1' := fun o => (DZ0.out.alloc o).c1; have rf' := fun o => (DZ0.out.alloc o).frozen)); (try (have s0 := DZ1.out.c0; have s1 := DZ1.out.c1; have sf := DZ1.out.frozen; have s0' := fun o => (DZ1.out.alloc o).c0; have s1' := fun o => (DZ1.out.alloc o).c1; have sf' := fun o => (DZ1.out.alloc o).frozen)); have t0 := ((Blk.new wB 30 #[Value.int IntKind.i64 0, Value.slice none 0 0]).alloc (Obj.cells #[Value.int IntKind.i64 0, Value.slice none 0 0] 30)).c0; have t1 := ((Blk.new wB 30 #[Value.int IntKind.i64 0, Value.slice none 0 0]).alloc (Obj.cells #[Value.int IntKind.i64 0, Value.slice none 0 0] 30)).c1; have tf := ((Blk.new wB 30 #[Value.int IntKind.i64 0, Value.slice none 0 0]).alloc (Obj.cells #[Value.int IntKind.i64 0, Value.slice none 0 0] 30)).frozen; clear ho2 hl2 hb2))
      all_goals (go_wp2_with fail; go_meet)
      all_goals exact ⟨_, _, wA.heap.size, A1, A2, c1, c2, vs2, rfl, rfl, by first | exact Nat.le_refl _ | omega, by first | exact Nat.le_refl _ | omega, by (repeat (first | with_reducible exact CZ0.out | with_reducible exact CZ1.out | with_reducible exact DZ0.out | with_reducible exact DZ1.out | with_reducible exact Blk.new _ _ _ | with_reducible exact Blk.new1 _ _ _ _ | with_reducible apply Blk.set0 | with_reducible apply Blk.set1 | with_reducible refine Blk.farN ?_ (by first | omega | (simp only [World.size_alloc]; omega) | (simp; omega)) _ | with_reducible refine Blk.alloc ?_ _)), by (repeat (first | with_reducible exact CZ0.out | with_reducible exact CZ1.out | with_reducible exact DZ0.out | with_reducible exact DZ1.out | with_reducible exact Blk.new _ _ _ | with_reducible exact Blk.new1 _ _ _ _ | with_reducible apply Blk.set0 | with_reducible apply Blk.set1 | with_reducible refine Blk.farN ?_ (by first | omega | (simp only [World.size_alloc]; omega) | (simp; omega)) _ | with_reducible refine Blk.alloc ?_ _)), by first | omega | (simp [World.setCell]; omega) | (simp [World.setCell]; done), by first | omega, HRK.out _ (fun g h1 h2 => by (repeat (first | with_reducible exact HBA.out.block g h2 | with_reducible refine heap_set_ ?_ (by first | omega | (simp only [World.size_alloc]; omega) | (simp; omega)) | with_reducible refine heap_alloc_ ?_ (by first | omega | (simp only [World.size_alloc]; omega) | (simp; omega))))), own_more (own_agree HO2.out (fun g h1 h2 => by (repeat (first | with_reducible rfl | with_reducible refine heap_set_ ?_ (by first | omega | (simp only [World.size_alloc]; omega) | (simp; omega)) | with_reducible refine heap_alloc_ ?_ (by first | omega | (simp only [World.size_alloc]; omega) | (simp; omega)))))) (by first | exact Nat.le_refl _ | omega), OwnList.more (OwnList.agree HL2.out (fun g h1 h2 => by (repeat (first | with_reducible rfl | with_reducible refine heap_set_ ?_ (by first | omega | (simp only [World.size_alloc]; omega) | (simp; omega)) | with_reducible refine heap_alloc_ ?_ (by first | omega | (simp only [World.size_alloc]; omega) | (simp; omega)))))) (by first | exact Nat.le_refl _ | omega), by (repeat (first | with_reducible exact HB.out | with_reducible refine below_set_ ?_ (by first | omega | (simp only [World.size_alloc]; omega) | (simp; omega)) | with_reducible refine Below.alloc ?_ (by first | omega | (simp only [World.size_alloc]; omega) | (simp; omega)) _))⟩
    case rest =>
      obtain ⟨gf, gg, B, A1, A2, c1, c2, vs, rfl, rfl, hgf, hgg, hbf, hbg, hBs, hne, hrf, hog, hlg, hb⟩ := hcut
      have HBF := Lib.hid hbf
      have HBG := Lib.hid hbg
      have HRF := Lib.hid hrf
      have HRG := Lib.hid (hlg.rows hog)
      have HBw := Lib.hid (HB3.out.trans (hb.mono HB3.out.size))
      clear hbf hbg hrf hog hlg hb HKR HKE HFO HR3 HK3 HB3 k0 k1 hgf hgg hne
      have f0 := HBF.out.c0
      have f1 := HBF.out.c1
      go_wp2_with fail
      clear f0 f1
      refine (copy_any F xss B A1 c1 wc (by omega) (fun j => by have := HX2.out j; omega) HRF.out hBs).mono ?_
      rintro e w5 ⟨A3, c3, vs3, rfl, ho5, hl5, hb5⟩
      have HO5 := Lib.hid ho5
      have HL5 := Lib.hid hl5
      have HBF5 := Lib.hid (HBF.out.below hb5 HBF.out.lt)
      have HRF5 := Lib.hid (HRF.out.below (hb5.mono hBs))
      have HB5 := Lib.hid hb5
      have hs5 := hb5.size
      clear ho5 hl5 hb5
      have f0 := HBF5.out.c0
      have f1 := HBF5.out.c1
      have hgfl := HBF5.out.lt
      have f0' := fun o => (HBF5.out.alloc o).c0
      have f1' := fun o => (HBF5.out.alloc o).c1
      go_wp2_with fail
      obtain ⟨w6, hw6⟩ : ∃ w6, w6 = w5.alloc (Obj.cells #[Value.int IntKind.i64 F, Value.slice A3 xss.length c3] 30) := ⟨_, rfl⟩
      have HC6 := Lib.hid (show Blk w6 w5.heap.size 30 #[Value.int IntKind.i64 F, Value.slice A3 xss.length c3] by rw [hw6]; exact Blk.new w5 _ _)
      have HO6 := Lib.hid (show w6.ownsRow wc.heap.size 33 1 (.slice A3 xss.length c3) xss.length vs3 by rw [hw6]; exact HO5.out.alloc _)
      have HL6 := Lib.hid (show OwnList w6 wc.heap.size 3 vs3 xss by rw [hw6]; exact HL5.out.kept (World.grownBy_alloc _ _ none) (fun _ _ _ _ h => by cases h))
      have HB6 := Lib.hid (show Below wc.heap.size wc w6 by rw [hw6]; exact HB5.out.alloc hs5 _)
      have hs6 : w6.heap.size = w5.heap.size + 1 := by rw [hw6]; simp
      rw [← hw6]
      clear hw6 f0 f1 f0' f1' HO5 HL5 HB5
      refine (same_any F F xss xss w6.heap.size A3 A1 c3 c1 w6 (by omega) (fun j => by have := HX2.out j; omega) (fun j => by have := HX2.out j; omega) (HL6.out.rows HO6.out) ((HRF.out.below (HB6.out.mono hBs)).more (by have := HB6.out.size; omega)) (Nat.le_refl _)).mono ?_
      have hsame : sameForm F F xss xss = true := by simp [sameForm]
      rw [hsame]
      clear hsame
      rintro e w7 ⟨rfl, hb7⟩
      have HC7 := Lib.hid (HC6.out.below hb7 HC6.out.lt)
      have HO7 := Lib.hid (own_below HO6.out hb7 (fun g hg => (HO6.out.lt g hg).2))
      have HL7 := Lib.hid (HL6.out.below hb7 (Nat.le_refl _))
      have HB7 := Lib.hid (HB6.out.trans (hb7.mono HB6.out.size))
      have hs7 := hb7.size
      clear hb7 HC6 HO6 HL6 HB6
      have f0 := HC7.out.c0
      have f1 := HC7.out.c1
      go_wp2
      clear f0 f1
      have hnl : xss.length ≤ 40 := hx1
      go_loopg [26] (xss.length + 1) (fun gk s wr => ∃ i : Nat, i ≤ xss.length ∧ gk = xss.length - i + 1 ∧ s = .int .i64 i ∧ Turned wc w5.heap.size A3 c3 vs3 xss F wr)
      case atStart => exact ⟨0, by omega, by omega, rfl, ⟨HC7.out, HO7.out, HB7.out, xss, rfl, fun _ => rfl, HL7.out⟩⟩
      case round =>
        obtain ⟨i, hi, rfl, rfl, htn⟩ := hrel
        have HTN := Lib.hid htn
        clear htn HC7 HO7 HL7 HB7
        have f1 := HTN.out.blk.c1
        by_cases hil : i < xss.length
        · obtain ⟨g3, hA3, hg31, hg32⟩ := own_addr HTN.out.own (by omega)
          subst hA3
          obtain ⟨Ai, ci, hvi, hci⟩ := HTN.out.row hil
          have hli := HX2.out i
          obtain ⟨li, hli'⟩ : ∃ li, li = (xss.getD i []).length := ⟨_, rfl⟩
          rw [← hli'] at hci hli hvi
          have HVI := Lib.hid hvi
          have HLI := Lib.hid hli'
          clear hvi hli'
          have hi0 : (0 : Int) ≤ (i : Int) := Int.natCast_nonneg _
          have hi1 : (i : Int) < (xss.length : Int) := by omega
          go_wp2
          clear f1 hci
          go_loopg [35] (li + 1) (fun gk s wr => ∃ k : Nat, k ≤ li ∧ gk = li - k + 1 ∧ s = .int .i64 k ∧ Turned wc w5.heap.size (some ⟨g3, 0, none⟩) c3 vs3 xss F wr)
          case atStart => exact ⟨0, by omega, by omega, rfl, HTN.out⟩
          case round =>
            obtain ⟨k, hk, rfl, rfl, htn⟩ := hrel
            have HT := Lib.hid htn
            clear htn HTN
            by_cases hkl : k < li
            · have f1 := HT.out.blk.c1
              obtain ⟨g, hAi, x, hcx, hfx, hst⟩ := HT.out.elem hil HVI.out HLI.out hkl
              subst hAi
              have hci : wr.cell? ⟨g3, i, none⟩ = some (.slice (some ⟨g, 0, none⟩) li ci) := by rw [World.ownsRow.cellAt HT.out.own i (by omega)]; exact HVI.out
              have HST := Lib.hid hst
              clear hst
              have hk0 : (0 : Int) ≤ (k : Int) := Int.natCast_nonneg _
              have hk1 : (k : Int) < (li : Int) := by omega
              go_wp2
              go_region
              all_goals go_wp2
              all_goals
                go_roundg (li - k)
                case measure => omega
                case rel => exact ⟨k + 1, by omega, by omega, by go_num, (HST.out _).drew⟩
            · go_wp2
              go_roundg (xss.length - i)
              case measure => omega
              case rel => exact ⟨i + 1, by omega, by omega, by go_num, HT.out⟩
        · have HB8 := Lib.hid HTN.out.below
          have HBFw := Lib.hid (HBF.out.below HB8.out HBF.out.lt)
          have HBGw := Lib.hid (HBG.out.below HB8.out HBG.out.lt)
          have HRFw := Lib.hid ((HRF.out.more hBs).below HB8.out)
          have HRGw := Lib.hid (HRG.out.below HB8.out)
          clear f1
          have f0 := HBFw.out.c0
          have f1 := HBFw.out.c1
          have g0 := HBGw.out.c0
          have g1 := HBGw.out.c1
          have hs8 := HB8.out.size
          go_wp2_with fail
          refine (same_any F F xss xss wc.heap.size A1 A2 c1 c2 _ (by omega) (fun j => by have := HX2.out j; omega) (fun j => by have := HX2.out j; omega) HRFw.out HRGw.out hs8).mono ?_
          have hsame : sameForm F F xss xss = true := by simp [sameForm]
          rw [hsame]
          rintro e w9 ⟨rfl, hb9⟩
          have HB9 := Lib.hid (HBw.out.trans ((HB8.out.trans (hb9.mono hs8)).mono HBw.out.size))
          clear hb9 hsame f0 f1 g0 g1
          go_wp2
          go_ret
          exact ⟨rfl, HB9.out⟩

theorem copies_raw (u : Int) (nss : List (List Int)) (A : Option Addr) (c : Nat) (w : World) (hu : (Lit.int .u8 u).wf = true)
    (hx : nss.length ≤ 5864062014805) (m : ∀ j, (nss.getD j []).length * 2 ≤ 140737488351232) (hn : ∀ j i, (Lit.int .i16 ((nss.getD j []).getD i 0)).wf = true) (h : KRows .i16 w w.heap.size A nss) :
    Calls Try.prog 5 #[.agg #[.int .u8 u, .slice A nss.length c]] w fun e w' => e = .returned (.bool true) ∧ Below w.heap.size w w' := by
  obtain ⟨v, rfl, hv⟩ := raw_nat hu
  exact copies_any v nss A c w hv (by omega) (raw_rows m hn).1 (raw_rows m hn).2 h
end Go.Proofs.Ytdacdodigbpdoaa
