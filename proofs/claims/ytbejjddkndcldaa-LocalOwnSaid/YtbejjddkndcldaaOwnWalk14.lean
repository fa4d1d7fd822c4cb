/- The statement that what is handed in is copied and what is answered is the caller's own: the walk. -/
import Derived.Test.YtbejjddkndcldaaSt14
import Derived.Test.YtbejjddkndcldaaOpenPair
import Derived.Test.YtbejjddkndcldaaCells2
import Derived.Test.YtbejjddkndcldaaOwn14
import Derived.Deep.DeepCutAuto
import Derived.Deep.RegionHeld3
namespace Go.Proofs.Ytbejjddkndcldaa
open Go.RowKit
set_option linter.unusedVariables false
set_option linter.unusedSimpArgs false

set_option maxRecDepth 100000 in
set_option maxHeartbeats 8000000 in
theorem own14_any (v : Nat) (nss : List (List Int)) (A : Option Addr) (c : Nat) (bits at0 : Int) (w : World) (hv : v ≤ 255)
    (hx : nss.length ≤ 140737488355328) (hl : ∀ j, (nss.getD j []).length ≤ 140737488355328) (hn : ∀ j k, -32768 ≤ (nss.getD j []).getD k 0 ∧ (nss.getD j []).getD k 0 ≤ 32767) (h : KRows .i16 w w.heap.size A nss)
    (hbits : 0 ≤ bits ∧ bits < 4294967296) (hat : -9223372036854775808 ≤ at0 ∧ at0 ≤ 9223372036854775807) :
    Calls Try.prog 7 #[.agg #[.int .u8 v, .slice A nss.length c], .int .u32 bits, .int .i64 at0] w fun e w' => e = .returned (.bool true) ∧ Below w.heap.size w w' := by
  have H := Lib.hid h
  have HL := Lib.hid hl
  have HN := Lib.hid hn
  clear h hl hn
  go_enter Try.func7, Try.ntmps7
  go_wp2_with fail
  obtain ⟨w1, hw1⟩ : ∃ w1, w1 = w.alloc (Obj.cells #[Value.int IntKind.u8 v, Value.slice A nss.length c] 24) := ⟨_, rfl⟩
  have HR1 := Lib.hid (show KRows .i16 w1 w.heap.size A nss by rw [hw1]; exact H.out.alloc (Nat.le_refl _) _)
  have HB1 := Lib.hid (show Below w.heap.size w w1 by rw [hw1]; exact (Below.refl _ _).alloc (Nat.le_refl _) _)
  have HK1 := Lib.hid (show Blk w1 w.heap.size 24 #[Value.int IntKind.u8 v, Value.slice A nss.length c] by rw [hw1]; exact Blk.new w _ _)
  rw [← hw1]
  clear hw1
  refine (fit_any14 w1).mono ?_
  rintro e w2 ⟨rfl, hb2⟩
  have HR2 := Lib.hid (HR1.out.below (hb2.mono HB1.out.size))
  have HB2 := Lib.hid (HB1.out.trans (hb2.mono HB1.out.size))
  have HK2 := Lib.hid (HK1.out.below hb2 HK1.out.lt)
  clear hb2 HR1 HB1 HK1
  have k0 := HK2.out.cell 0
  have k1 := HK2.out.cell 1
  simp at k0 k1
  go_wp2_with fail
  refine (light_any v nss _ A c 40 w2 (by omega) hx HL.out HR2.out HB2.out.size).mono ?_
  rintro e w3 ⟨rfl, hb3⟩
  have HR3 := Lib.hid (HR2.out.below (hb3.mono HB2.out.size))
  have HB3 := Lib.hid (HB2.out.trans (hb3.mono HB2.out.size))
  have HK3 := Lib.hid (HK2.out.below hb3 HK2.out.lt)
  clear hb3 HR2 HB2 HK2 k0 k1
  have k0 := HK3.out.cell 0
  have k1 := HK3.out.cell 1
  simp at k0 k1
  rcases hlt : light nss 40 with _ | _
  · go_wp2
    go_ret
    exact ⟨rfl, HB3.out⟩
  · have hls := light_rows hlt
    have hF : v % (12 + 1) ≤ 12 := by omega
    have hFM := lightForm_rawW14 (F := v % (12 + 1)) (W := 6) (by omega) hlt
    clear hlt
    obtain ⟨F, hFF⟩ : ∃ F, v % (12 + 1) = F := ⟨_, rfl⟩
    have hfo := fun (X : World) (h1 : KRows .i16 X w.heap.size A nss) (h2 : w.heap.size ≤ X.heap.size) => formula_any v nss _ A c 12 6 X hv (by omega) (by omega) hls.1 hls.2 HN.out h1 h2
    rw [hFF] at hF hFM hfo
    obtain ⟨xss, hxs⟩ : ∃ xss, rawForm F 6 nss = xss := ⟨_, rfl⟩
    rw [hxs] at hFM
    simp only [hxs] at hfo
    have HFM := Lib.hid hFM
    have hx1 := hFM.few
    have HFO := Lib.hid hfo
    have hs03 := HB3.out.size
    have hlt0 : w.heap.size < w3.heap.size := HK3.out.lt
    clear hFF hxs hFM hfo hls
    have HKR := Lib.hid (show ∀ X, Below w3.heap.size w3 X → KRows .i16 X w.heap.size A nss ∧ w.heap.size ≤ X.heap.size from fun X h => ⟨HR3.out.below (h.mono hs03), Nat.le_trans hs03 h.size⟩)
    have HKE := Lib.hid (show ∀ X, Below w3.heap.size w3 X → X.cell? ⟨w.heap.size, 0, none⟩ = some (.int .u8 v) ∧ X.cell? ⟨w.heap.size, 1, none⟩ = some (.slice A nss.length c) from
      fun X h => ⟨(h.cell (p := ⟨w.heap.size, 0, none⟩) hlt0).trans k0, (h.cell (p := ⟨w.heap.size, 1, none⟩) hlt0).trans k1⟩)
    go_wp2_with fail
    go_cut [7, 8] (fun p q w' => ∃ (gf gg B : Nat) (A1 A2 : Option Addr) (c1 c2 : Nat) (us vs : List Value), p = .pointer (some ⟨gf, 0, none⟩) ∧ q = .pointer (some ⟨gg, 0, none⟩) ∧ w3.heap.size ≤ gf ∧ w3.heap.size ≤ gg ∧
      Blk w' gf 30 #[.int .i64 F, .slice A1 xss.length c1] ∧ Blk w' gg 30 #[.int .i64 F, .slice A2 xss.length c2] ∧ B ≤ w'.heap.size ∧ gf ≠ gg ∧ w3.heap.size ≤ B ∧
      w'.ownsRow w3.heap.size 32 1 (.slice A1 xss.length c1) xss.length us ∧ OwnList w' w3.heap.size 3 us xss ∧ (∀ q, (Value.slice A1 xss.length c1).ownBlock = some q → q < B) ∧ (∀ j q, j < xss.length → ((us[j]?).getD undef).ownBlock = some q → q < B) ∧
      w'.ownsRow B 32 1 (.slice A2 xss.length c2) xss.length vs ∧ OwnList w' B 3 vs xss ∧ Below w3.heap.size w3 w')
    case first =>
      have firstCall : Hid True := Lib.hid trivial
      go_region_held3 (fun w' => w'.cell? ⟨w.heap.size, 0, none⟩ = some (.int .u8 v) ∧ w'.cell? ⟨w.heap.size, 1, none⟩ = some (.slice A nss.length c))
        (first
          | (refine HKE.out _ ?_; repeat (first | exact HB.out | exact HA.out | exact Below.refl _ _ | refine Below.drew ?_ | refine Below.alloc ?_ (by first | exact Nat.le_refl _ | omega | (simp <;> omega)) _ | refine Below.setCell ?_ (by first | exact Nat.le_refl _ | omega | (simp <;> omega)) _))
          | go_keep)
        (first
          | (go_at_call 12; clear firstCall; refine (HFO.out _ (HKR.out _ ?_).1 (HKR.out _ ?_).2).mono ?_; (repeat (first | exact Below.refl _ _ | refine Below.drew ?_ | refine Below.alloc ?_ (by first | exact Nat.le_refl _ | omega | (simp <;> omega)) _)); (repeat (first | exact Below.refl _ _ | refine Below.drew ?_ | refine Below.alloc ?_ (by first | exact Nat.le_refl _ | omega | (simp <;> omega)) _)); rintro e wA ⟨A1, c1, vs1, rfl, ho1, hl1, hb1⟩; have hA : Below w3.heap.size w3 wA := (by refine Below.trans ?_ (hb1.mono ?_); (repeat (first | exact Below.refl _ _ | refine Below.drew ?_ | refine Below.alloc ?_ (by first | exact Nat.le_refl _ | omega | (simp <;> omega)) _)); (first | exact Nat.le_refl _ | (simp; done) | (simp; omega))); have HA := Lib.hid hA; clear hA; have hzA : w3.heap.size ≤ wA.heap.size := HA.out.size; have hzA2 := hb1.size; (try simp at hzA2); have HO1 := Lib.hid ho1; have HL1 := Lib.hid hl1; (try simp at HO1); (try simp at HL1); (try (have BZ0 := Lib.hid (show Blk wA w3.heap.size 30 #[Value.int IntKind.i64 0, Value.slice none 0 0] from Blk.below (by first | exact Blk.new w3 _ _ | exact (Blk.new w3 _ _).alloc _ | exact (Blk.new w3 _ _).drew_ | exact ((Blk.new w3 _ _).alloc _).drew_) hb1 (by first | omega | (simp <;> omega))))); (try (have BZ1 := Lib.hid (show Blk wA (w3.heap.size + 1) 30 #[Value.int IntKind.i64 0, Value.slice none 0 0] from Blk.below (by have hq := Blk.new (w3.alloc (Obj.cells #[Value.int IntKind.i64 0, Value.slice none 0 0] 30)) 30 #[Value.int IntKind.i64 0, Value.slice none 0 0]; simp only [World.size_alloc] at hq; first | exact hq | exact hq.drew_) hb1 (by first | omega | (simp <;> omega))))); clear ho1 hl1 hb1)
          | (go_at_call 12; have tok := HA.out; clear tok; refine (HFO.out _ (HKR.out _ ?_).1 (HKR.out _ ?_).2).mono ?_; (repeat (first | exact HA.out | exact Below.refl _ _ | refine Below.drew ?_ | refine Below.alloc ?_ (by first | exact Nat.le_refl _ | omega | (simp <;> omega)) _)); (repeat (first | exact HA.out | exact Below.refl _ _ | refine Below.drew ?_ | refine Below.alloc ?_ (by first | exact Nat.le_refl _ | omega | (simp <;> omega)) _)); rintro e wB ⟨A2, c2, vs2, rfl, ho2, hl2, hb2⟩; have hB : Below w3.heap.size w3 wB := (by refine Below.trans ?_ (hb2.mono ?_); (repeat (first | exact HA.out | exact Below.refl _ _ | refine Below.drew ?_ | refine Below.alloc ?_ (by first | exact Nat.le_refl _ | omega | (simp <;> omega)) _)); (first | exact HA.out.size | (simp; have hq := HA.out.size; omega))); have HB := Lib.hid hB; clear hB; have hzB : wA.heap.size ≤ wB.heap.size := (by have hq := hb2.size; first | exact hq | (simp at hq; omega)); have hzB2 := hb2.size; (try simp at hzB2); have HBA := Lib.hid (show Below wA.heap.size wA wB by refine Below.trans ?_ (hb2.mono ?_); (repeat (first | exact Below.refl _ _ | refine Below.drew ?_ | refine Below.alloc ?_ (by first | exact Nat.le_refl _ | omega | (simp <;> omega)) _)); (first | exact Nat.le_refl _ | (simp <;> omega))); have HO2 := Lib.hid ho2; have HL2 := Lib.hid hl2; have HB2 := Lib.hid hb2.block; (try simp at HO2); (try simp at HL2); (try simp at HB2); (try (have CZ0 := Lib.hid (show Blk wB w3.heap.size 30 #[Value.int IntKind.i64 0, Value.slice none 0 0] from Blk.below (by first | exact BZ0.out | exact BZ0.out.alloc _ | exact (BZ0.out.alloc _).alloc _ | exact BZ0.out.drew_ | exact (BZ0.out.alloc _).drew_ | exact ((BZ0.out.alloc _).alloc _).drew_) hb2 (by first | omega | (simp <;> omega))))); (try (have CZ1 := Lib.hid (show Blk wB (w3.heap.size + 1) 30 #[Value.int IntKind.i64 0, Value.slice none 0 0] from Blk.below (by first | exact BZ1.out | exact BZ1.out.alloc _ | exact (BZ1.out.alloc _).alloc _ | exact BZ1.out.drew_ | exact (BZ1.out.alloc _).drew_ | exact ((BZ1.out.alloc _).alloc _).drew_) hb2 (by first | omega | (simp <;> omega))))); (try (have DZ0 := Lib.hid (show Blk wB wA.heap.size 30 #[Value.int IntKind.i64 0, Value.slice none 0 0] from Blk.below (by first | exact Blk.new wA _ _ | exact (Blk.new wA _ _).alloc _ | exact (Blk.new wA _ _).drew_ | exact ((Blk.new wA _ _).alloc _).drew_) hb2 (by first | omega | (simp <;> omega))))); (try (have DZ1 := Lib.hid (show Blk wB (wA.heap.size + 1) 30 #[Value.int IntKind.i64 0, Value.slice none 0 0] from Blk.below (by have hq := Blk.new (wA.alloc (Obj.cells #[Value.int IntKind.i64 0, Value.slice none 0 0] 30)) 30 #[Value.int IntKind.i64 0, Value.slice none 0 0]; simp only [World.size_alloc] at hq; first | exact hq | exact hq.drew_) hb2 (by first | omega | (simp <;> omega))))); (try (have p0 := CZ0.out.c0; have p1 := CZ0.out.c1; have pf := CZ0.out.frozen; have p0' := fun o => (CZ0.out.alloc o).c0; have p1' := fun o => (CZ0.out.alloc o).c1; have pf' := fun o => (CZ0.out.alloc o).frozen)); (try (have q0 := CZ1.out.c0; have q1 := CZ1.out.c1; have qf := CZ1.out.frozen; have q0' := fun o => (CZ1.out.alloc o).c0; have q1' := fun o => (CZ1.out.alloc o).c1; have qf' := fun o => (CZ1.out.alloc o).frozen)); (try (have r0 := DZ0.out.c0; have r1 := DZ0.out.c1; have rf := DZ0.out.frozen; have r0' := fun o => (DZ0.out.alloc o).c0; have r1' := fun o => (DZ0.out.alloc o).c1; have rf' := fun o => (DZ0.out.alloc o).frozen)); (try (have s0 := DZ1.out.c0; have s1 := DZ1.out.c1; have sf := DZ1.out.frozen; have s0' := fun o => (DZ1.out.alloc o).c0; have s1' := fun o => (DZ1.out.alloc o).c1; have sf' := fun o => (DZ1.out.alloc o).frozen)); have t0 := ((Blk.new wB 30 #[Value.int IntKind.i64 0, Value.slice none 0 0]).alloc (Obj.cells #[Value.int IntKind.i64 0, Value.slice none 0 0] 30)).c0; have t1 := ((Blk.new wB 30 #[Value.int IntKind.i64 0, Value.slice none 0 0]).alloc (Obj.cells #[Value.int IntKind.i64 0, Value.slice none 0 0] 30)).c1; have tf := ((Blk.new wB 30 #[Value.int IntKind.i64 0, Value.slice none 0 0]).alloc (Obj.cells #[Value.int IntKind.i64 0, Value.slice none 0 0] 30)).frozen; clear ho2 hl2 hb2))
      all_goals (go_wp2_with fail; go_meet)
      all_goals exact ⟨_, _, wA.heap.size, A1, A2, c1, c2, vs1, vs2, rfl, rfl, by first | exact Nat.le_refl _ | omega, by first | exact Nat.le_refl _ | omega, by (repeat (first | with_reducible exact CZ0.out | with_reducible exact CZ1.out | with_reducible exact DZ0.out | with_reducible exact DZ1.out | with_reducible exact Blk.new _ _ _ | with_reducible exact Blk.new1 _ _ _ _ | with_reducible apply Blk.set0 | with_reducible apply Blk.set1 | with_reducible refine Blk.farN ?_ (by first | omega | (simp only [World.size_alloc]; omega) | (simp; omega)) _ | with_reducible refine Blk.alloc ?_ _)), by (repeat (first | with_reducible exact CZ0.out | with_reducible exact CZ1.out | with_reducible exact DZ0.out | with_reducible exact DZ1.out | with_reducible exact Blk.new _ _ _ | with_reducible exact Blk.new1 _ _ _ _ | with_reducible apply Blk.set0 | with_reducible apply Blk.set1 | with_reducible refine Blk.farN ?_ (by first | omega | (simp only [World.size_alloc]; omega) | (simp; omega)) _ | with_reducible refine Blk.alloc ?_ _)), by first | omega | (simp [World.setCell]; omega) | (simp [World.setCell]; done), by first | omega, by first | omega, own_more (own_agree HO1.out (fun g h1 h2 => by (repeat (first | with_reducible exact HBA.out.block g h2 | with_reducible refine heap_set_ ?_ (by first | omega | (simp only [World.size_alloc]; omega) | (simp; omega)) | with_reducible refine heap_alloc_ ?_ (by first | omega | (simp only [World.size_alloc]; omega) | (simp; omega)))))) (by first | exact Nat.le_refl _ | omega), OwnList.more (OwnList.agree HL1.out (fun g h1 h2 => by (repeat (first | with_reducible exact HBA.out.block g h2 | with_reducible refine heap_set_ ?_ (by first | omega | (simp only [World.size_alloc]; omega) | (simp; omega)) | with_reducible refine heap_alloc_ ?_ (by first | omega | (simp only [World.size_alloc]; omega) | (simp; omega)))))) (by first | exact Nat.le_refl _ | omega), (fun q hq => (HO1.out.lt q hq).2), (fun j q hj hq => (OwnList.lt HL1.out hj hq).2), own_more (own_agree HO2.out (fun g h1 h2 => by (repeat (first | with_reducible rfl | with_reducible refine heap_set_ ?_ (by first | omega | (simp only [World.size_alloc]; omega) | (simp; omega)) | with_reducible refine heap_alloc_ ?_ (by first | omega | (simp only [World.size_alloc]; omega) | (simp; omega)))))) (by first | exact Nat.le_refl _ | omega), OwnList.more (OwnList.agree HL2.out (fun g h1 h2 => by (repeat (first | with_reducible rfl | with_reducible refine heap_set_ ?_ (by first | omega | (simp only [World.size_alloc]; omega) | (simp; omega)) | with_reducible refine heap_alloc_ ?_ (by first | omega | (simp only [World.size_alloc]; omega) | (simp; omega)))))) (by first | exact Nat.le_refl _ | omega), by (repeat (first | with_reducible exact HB.out | with_reducible refine below_set_ ?_ (by first | omega | (simp only [World.size_alloc]; omega) | (simp; omega)) | with_reducible refine Below.alloc ?_ (by first | omega | (simp only [World.size_alloc]; omega) | (simp; omega)) _))⟩
    case rest =>
      obtain ⟨gf, gg, B, A1, A2, c1, c2, us, vs, rfl, rfl, hgf, hgg, hbf, hbg, hBs, hne, hSB, ho1, hl1, hq1, hj1, ho2, hl2, hb⟩ := hcut
      obtain ⟨w6, rfl⟩ : ∃ w6, w6 = wc := ⟨_, rfl⟩
      have HBF := Lib.hid hbf
      have HBG := Lib.hid hbg
      have HO1 := Lib.hid ho1
      have HL1 := Lib.hid hl1
      have HQ1 := Lib.hid hq1
      have HJ1 := Lib.hid hj1
      have HO2 := Lib.hid ho2
      have HL2 := Lib.hid hl2
      have HB36 := Lib.hid hb
      have hs36 := hb.size
      have hgfl := hbf.lt
      have hggl := hbg.lt
      clear hbf hbg ho1 hl1 hq1 hj1 ho2 hl2 hb HKR HKE HFO HR3 HK3 k0 k1
      have f0 := HBF.out.cell 0
      simp at f0
      go_wp2_with fail
      refine (start_any F bits w6 (by omega) hbits).mono ?_
      rintro e w7 ⟨rfl, hk7, hb7⟩
      have HKA7 := Lib.hid hk7
      have HB67 := Lib.hid hb7
      have hka := hk7.lt
      have hs67 := hb7.size
      have HBF7 := Lib.hid (HBF.out.below hb7 hgfl)
      clear hk7 hb7 f0
      have f0 := HBF7.out.cell 0
      have f1 := HBF7.out.cell 1
      simp at f0 f1
      have hzl := startZ_len F bits
      have hro7 : Rows w7 w7.heap.size A1 xss := OwnList.rows (HL1.out.below HB67.out (Nat.le_refl _)) (own_below HO1.out HB67.out fun q hq => (HO1.out.lt q hq).2)
      have hnew := st_new F xss (startZ F bits) w7.heap.size A1 (some ⟨w6.heap.size, 0, none⟩) c1 F w7 (by omega) HFM.out hro7 (by have := HKA7.out.bools; exact this) (Nat.le_refl _) hzl
      rw [hzl] at hnew
      have HNW := Lib.hid hnew
      clear hnew hro7
      go_wp2_with fail
      with_reducible refine HNW.out.mono ?_
      rintro e w8 ⟨ρ, g, s, rfl, hst, hb8⟩
      have hlo := hst.lo
      have HST8 := Lib.hid hst
      have HB68 := Lib.hid (HB67.out.trans (hb8.mono hs67))
      have HKA8 := Lib.hid (show BlkB w8 w6.heap.size 4 (startZ F bits) from Blk.below HKA7.out hb8 hka)
      have HBF8 := Lib.hid (HBF7.out.below hb8 HBF7.out.lt)
      have hs78 := hb8.size
      clear hst hb8 HNW HKA7 HB67 HBF7 f0 f1
      have f0 := HBF8.out.cell 0
      have f1 := HBF8.out.cell 1
      simp at f0 f1
      have HOF8 := Lib.hid (own_below HO1.out HB68.out fun q hq => (HO1.out.lt q hq).2)
      have HLF8 := Lib.hid (HL1.out.below HB68.out (Nat.le_refl _))
      have HOBB : Hid (∀ q, OB us xss.length q → w3.heap.size ≤ q ∧ q < B) := Lib.hid fun q hq => by
        obtain ⟨j, hj, hq⟩ := hq
        exact ⟨(HL1.out.lt hj hq).1, HJ1.out j q hj hq⟩
      have HLO := Lib.hid hlo
      have HSH := Lib.hid (Shp.refl HFM.out hF)
      have HZL := Lib.hid hzl
      clear hlo hzl
      go_wp2_with fail
      clear f0 f1
      go_loopg [50] (xss.length + 1) (fun gk ti wr => ∃ (i : Nat) (yss : List (List Int)), i ≤ xss.length ∧ gk = xss.length - i + 1 ∧ ti = .int .i64 (i : Nat) ∧ Hid (Shp xss yss) ∧ Hid (OwnList wr w3.heap.size 3 us yss) ∧ Hid (Ft (OB us xss.length) w8 wr))
      case atStart => exact ⟨0, xss, by omega, by omega, rfl, HSH, HLF8, Lib.hid (Ft.refl _)⟩
      case round =>
        obtain ⟨i, yss, hi, rfl, rfl, HY, HL, HFT⟩ := hrel
        clear HSH
        by_cases hlt : i < xss.length
        · have hoh := HFT.out.own HOF8.out fun q hq hob => by
            obtain ⟨j, hj, hq'⟩ := hob
            exact HLF8.out.ne_outer HOF8.out (by decide) j q hj hq' hq.symm
          obtain ⟨gh, hAh, _, _⟩ := own_addr hoh (by omega)
          obtain ⟨Ai, ci, hvi, _⟩ := HL.out.each i (by rw [HY.out.len]; exact hlt)
          rw [HY.out.lens] at hvi
          have hch : wr.cell? ⟨gh, i, none⟩ = some (.slice Ai (xss.getD i []).length ci) := by
            rw [hAh] at hoh
            rw [World.ownsRow.cellAt hoh i (by omega)]
            exact hvi
          have hL9 := HFM.out.short (xss.getD i []) (by simp only [List.getD, List.getElem?_eq_getElem hlt, Option.getD_some]; exact List.getElem_mem hlt)
          obtain ⟨L, hL⟩ : ∃ L, (xss.getD i []).length = L := ⟨_, rfl⟩
          rw [hL] at hvi hch hL9
          have HVI := Lib.hid hvi
          have HLL := Lib.hid hL
          have hiI : (i : Int) < (xss.length : Int) := by omega
          subst hAh
          clear hoh hvi hL
          go_wp2_with fail
          clear hch
          go_loopg [56] (L + 1) (fun gj tj wi => ∃ (k : Nat) (zss : List (List Int)), k ≤ L ∧ gj = L - k + 1 ∧ tj = .int .i64 (k : Nat) ∧ Hid (Shp xss zss) ∧ Hid (OwnList wi w3.heap.size 3 us zss) ∧ Hid (Ft (OB us xss.length) w8 wi))
          case atStart => exact ⟨0, yss, by omega, by omega, rfl, HY, HL, HFT⟩
          case round =>
            obtain ⟨k, zss, hk, rfl, rfl, HYk, HLk, HFk⟩ := hrel
            clear HY HL HFT
            by_cases hkl : k < L
            · have hiz : i < zss.length := by rw [HYk.out.len]; exact hlt
              have hlz : (zss.getD i []).length = L := (HYk.out.lens i).trans HLL.out
              obtain ⟨gr, hAr, hLz, ck, fk⟩ := HLk.out.elem14 hiz HVI.out (k := k) (by omega)
              have hyb := HYk.out.bd i k
              have hset := HLk.out.setAt (k := k) (g := gr) (ci := ci) hiz (by rw [hlz, ← hAr]; exact HVI.out) (-((zss.getD i []).getD k 0))
              have HS2 := Lib.hid (HYk.out.set i k (y := -((zss.getD i []).getD k 0)) (by omega))
              obtain ⟨y, hy⟩ : ∃ y, (zss.getD i []).getD k 0 = y := ⟨_, rfl⟩
              rw [hy] at ck hyb hset HS2
              have HSET := Lib.hid hset
              have HF2 := Lib.hid (HFk.out.set (q := gr) (fun _ => ⟨i, hlt, by rw [HVI.out, hAr]; rfl⟩) k (.int .i64 (-y)))
              have hkI : (k : Int) < (L : Int) := by omega
              subst hAr
              clear hset hy hiz hlz hLz
              go_wp2_with fail
              go_roundg (L - k)
              case measure => omega
              case rel => exact ⟨k + 1, _, by omega, by omega, by go_num, HS2, HSET, HF2⟩
            · have hke : L = k := by omega
              subst hke
              go_wp2_with fail
              go_roundg (xss.length - i)
              case measure => omega
              case rel => exact ⟨i + 1, zss, by omega, by omega, by go_num, HYk, HLk, HFk⟩
        · have hie : xss.length = i := by omega
          subst hie
          obtain ⟨w9, hw9⟩ : ∃ w9, w9 = wr := ⟨_, rfl⟩
          rw [← hw9] at HL HFT ⊢
          clear hw9
          have hs89 := HFT.out.size
          have HST9 := Lib.hid (HST8.out.ft HFT.out fun q hq hob => by
            have h1 := HLO.out q hq
            have h2 := (HOBB.out q hob).2
            omega)
          have HKA9 := Lib.hid (show BlkB w9 w6.heap.size 4 (startZ F bits) from HFT.out.blk HKA8.out fun hob => by
            have h2 := (HOBB.out _ hob).2
            omega)
          have HBG9 := Lib.hid (HFT.out.blk (HBG.out.below HB68.out hggl) fun hob => by
            obtain ⟨j, hj, hq⟩ := hob
            exact HLF8.out.ne_blk (HBG.out.below HB68.out hggl) (by decide) j gg hj hq rfl)
          have HRG9 := Lib.hid (OwnList.rows_agree (w' := w9) HL2.out HO2.out fun q h1 h2 => by
            rw [HFT.out.block q (by have := HB68.out.size; omega) fun hob => by
              have h3 := (HOBB.out q hob).2
              omega]
            exact HB68.out.block q h2)
          have HB39 := Lib.hid (HB36.out.trans ((HB68.out.mono hs36).trans (HFT.out.below (by have := HB68.out.size; omega) fun q hob => (HOBB.out q hob).1)))
          have hs69 : w6.heap.size ≤ w9.heap.size := by have := HB68.out.size; omega
          clear HL HFT HST8 HKA8 HBF8 HOF8 HLF8 HB68 HBF HBG HO1 HL1 HO2 HL2 HB36 HY
          go_wp2_with fail
          go_loopg [71] (F + 1) (fun gj tj wr => ∃ (k : Nat) (z : List Bool), k ≤ F ∧ gj = F - k + 1 ∧ tj = .int .i64 (k : Nat) ∧ Hid (z.length = F) ∧ Hid (BlkB wr w6.heap.size 4 z) ∧ Hid (Ft (fun q => q = w6.heap.size) w9 wr))
          case atStart => exact ⟨0, startZ F bits, by omega, by omega, rfl, HZL, HKA9, Lib.hid (Ft.refl _)⟩
          case round =>
            obtain ⟨k, z, hk, rfl, rfl, HZ, HKA, HFT⟩ := hrel
            clear HKA9
            by_cases hkl : k < F
            · have ck := HKA.out.cell (i := k) (by rw [HZ.out]; omega)
              have fk := HKA.out.frozen k
              have hset := HKA.out.set_ k (!z.getD k false)
              obtain ⟨zk, hzk⟩ : ∃ zk, z.getD k false = zk := ⟨_, rfl⟩
              rw [hzk] at ck hset
              have HSET := Lib.hid hset
              have HF2 := Lib.hid (HFT.out.set (q := w6.heap.size) (fun _ => rfl) k (.bool (!zk)))
              have HZ2 := Lib.hid (show (z.set k (!zk)).length = F by rw [List.length_set]; exact HZ.out)
              have hkI : (k : Int) < (F : Int) := by omega
              clear hset hzk
              go_wp2_with fail
              go_roundg (F - k)
              case measure => omega
              case rel => exact ⟨k + 1, _, by omega, by omega, by go_num, HZ2, HSET, HF2⟩
            · have hke : F = k := by omega
              obtain ⟨w10, hw10⟩ : ∃ w10, w10 = wr := ⟨_, rfl⟩
              rw [← hw10] at HKA HFT ⊢
              clear hw10
              have HB610 := Lib.hid (show Below w6.heap.size w9 w10 from HFT.out.below hs69 fun q e => by omega)
              have HST10 := Lib.hid (HST9.out.ft HFT.out fun q hq e => by
                have h1 := HLO.out q hq
                omega)
              have HKA10 := HKA
              have HZ10 := HZ
              have HBG10 := Lib.hid (HBG9.out.below HB610.out hggl)
              have HRG10 := Lib.hid (HRG9.out.below HB610.out)
              have HB310 := Lib.hid (HB39.out.trans (HB610.out.mono hs36))
              have hs610 := HB610.out.size
              have hkw10 := HKA.out.lt
              have g0 := HBG10.out.cell 0
              have g1 := HBG10.out.cell 1
              simp at g0 g1
              clear HKA HFT HZ HST9 HBG9 HRG9 HB39 HB610
              have hfm := formula_norm_any F xss w6.heap.size A2 c2 w10 (by omega) (HFM.out.lit (by omega)) HRG10.out (by omega)
              have HFN := Lib.hid hfm
              obtain ⟨eb, heb⟩ : ∃ eb, ((normForm xss).any fun y => y.isEmpty) = eb := ⟨_, rfl⟩
              have HEB := Lib.hid heb
              obtain ⟨nf, hnf⟩ : ∃ nf, normForm xss = nf := ⟨_, rfl⟩
              obtain ⟨yl, hyl⟩ : ∃ yl, nf.length = yl := ⟨_, rfl⟩
              have HYL := Lib.hid hyl
              rw [hnf] at HST10 HFN HEB
              subst hke
              clear hfm heb hyl hnf
              go_wp2_with fail
              with_reducible refine HFN.out.mono ?_
              rintro e w11 ⟨Al, cl, vl, rfl, hown, hlist, hb11⟩
              rw [HEB.out, HYL.out]
              have HST11 := Lib.hid (HST10.out.below hb11)
              have HKA11 := Lib.hid (show BlkB w11 w6.heap.size 4 z from Blk.below HKA10.out hb11 hkw10)
              have HBG11 := Lib.hid (HBG10.out.below hb11 HBG10.out.lt)
              have HRL11 := Lib.hid (hlist.rows hown)
              have HB311 := Lib.hid (HB310.out.trans (hb11.mono (by omega)))
              have hs1011 := hb11.size
              have hyf : yl ≤ 100 := by
                have h1 := HST10.out.good.few
                rw [HST10.out.cls, HYL.out] at h1
                exact h1
              have HLI : Hid (∀ i, Lits (nf.getD i [])) := Lib.hid fun i => by
                have h1 := HST10.out.good.short i
                have h2 := HST10.out.good.lits i
                rw [HST10.out.cls] at h1 h2
                have h3 := HZL.out
                exact ⟨by omega, fun x hx => by have := h2 x hx; omega⟩
              clear hown hlist hb11 HFN g0 g1 HST10 HKA10 HBG10 HRG10 HB310 HEB
              go_wp2_with fail
              go_loopg [90] (yl + 1) (fun gj tj wr => ∃ k : Nat, k ≤ yl ∧ gj = yl - k + 1 ∧ tj = .int .i64 (k : Nat) ∧ Hid (Below w11.heap.size w11 wr))
              case atStart => exact ⟨0, by omega, by omega, rfl, Lib.hid (Below.refl _ _)⟩
              case round =>
                obtain ⟨k, hk, rfl, rfl, HB⟩ := hrel
                by_cases hkl : k < yl
                · have hcl := st_clause (HST11.out.below HB.out) (k : Int)
                  have hk0 : (0 : Int) ≤ (k : Nat) ∧ ((k : Nat) : Int) < (nf.length : Nat) := by rw [HYL.out]; omega
                  simp only [if_pos hk0, Int.toNat_natCast] at hcl
                  obtain ⟨b2, o2, Ak, ck, eA, _, cv, _⟩ := Rows.at_ (HRL11.out.below HB.out) (k := k) (by rw [HYL.out]; exact hkl)
                  obtain ⟨L, hL⟩ : ∃ L, (nf.getD k []).length = L := ⟨_, rfl⟩
                  rw [hL] at hcl cv
                  have HLL := Lib.hid hL
                  have HCL := Lib.hid hcl
                  have HCV := Lib.hid cv
                  have hL9 : L ≤ 1000000000 := by rw [← hL]; exact (HLI.out k).1
                  have hkI : (k : Int) < (yl : Int) := by omega
                  clear hcl hL hk0 cv
                  go_wp2_with fail
                  with_reducible refine HCL.out.mono ?_
                  rintro e w12 ⟨Ac, cc, rfl, hown, hb12⟩
                  have HB12 := Lib.hid (HB.out.trans (hb12.mono HB.out.size))
                  have HOC := Lib.hid hown
                  have hs12 := hb12.size
                  have hsr := HB.out.size
                  obtain ⟨b3, o3, Ak3, ck3, eA3, hb3, cv3, hI3⟩ := Rows.at_ (HRL11.out.below HB12.out) (k := k) (by rw [HYL.out]; exact hkl)
                  have hic : Ints w12 w12.heap.size Ac (nf.getD k []) := ints_of_own (by rw [HLL.out]; exact hown)
                  have hsm := same_norm_any (nf.getD k []) (nf.getD k []) w12.heap.size w11.heap.size Ac Ak3 cc ck3 w12 (HLI.out k) (HLI.out k) hic hI3 (Nat.le_refl _) HB12.out.size
                  rw [HLL.out] at hsm cv3
                  simp only [beq_self_eq_true] at hsm
                  have HSM := Lib.hid hsm
                  subst eA3
                  clear hsm hown hb12 HCL hic hI3 HCV eA
                  go_wp2_with fail
                  with_reducible refine HSM.out.mono ?_
                  rintro e w13 ⟨rfl, hb13⟩
                  have HB13 := Lib.hid (HB12.out.trans (hb13.mono HB12.out.size))
                  have HOC13 := Lib.hid (own_below HOC.out hb13 fun q hq => (HOC.out.lt q hq).2)
                  have HZC := Lib.hid (show (nf.getD k []).length = L from HLL.out)
                  clear hb13 HSM HB12 HOC cv3
                  go_wp2_with fail
                  go_loopg [105] (L + 1) (fun gi ti wi => ∃ (j : Nat) (ys : List Int), j ≤ L ∧ gi = L - j + 1 ∧ ti = .int .i64 (j : Nat) ∧ Hid (ys.length = L) ∧ Hid (wi.ownsRow wr.heap.size 3 1 (.slice Ac L cc) L (ys.map (Value.int .i64))) ∧ Hid (Below w11.heap.size w11 wi))
                  case atStart => exact ⟨0, nf.getD k [], by omega, by omega, rfl, HZC, HOC13, HB13⟩
                  case round =>
                    obtain ⟨j, ys, hj, rfl, rfl, HYS, HOW, HBi⟩ := hrel
                    clear HOC13 HB13 HZC
                    by_cases hjl : j < L
                    · have hoy := HOW.out
                      obtain ⟨gd, eAd, hgd1, _⟩ := own_addr hoy (by omega)
                      rw [eAd] at hoy
                      have c1 := World.ownsRow.cellAt hoy j (by omega)
                      rw [show (ys.map (Value.int .i64))[j]? = some (.int .i64 (ys.getD j 0)) by simp [List.getD, show j < ys.length by rw [HYS.out]; exact hjl]] at c1
                      have f1 := World.ownsRow.frozenAt hoy j
                      have HNO := Lib.hid (hoy.stored j (.int .i64 1)).1
                      have HNB := Lib.hid (HBi.out.setCell (p := ⟨gd, j, none⟩) (by show w11.heap.size ≤ gd; omega) (.int .i64 1))
                      have HNY := Lib.hid (show (ys.set j 1).length = L by rw [List.length_set]; exact HYS.out)
                      obtain ⟨y, hy⟩ : ∃ y, ys.getD j 0 = y := ⟨_, rfl⟩
                      rw [hy] at c1
                      have hjI : (j : Int) < (L : Int) := by omega
                      subst eAd
                      clear hoy hy
                      go_wp2_with fail
                      go_roundg (L - j)
                      case measure => omega
                      case rel => exact ⟨j + 1, ys.set j 1, by omega, by omega, by go_num, HNY, Lib.hid (by rw [List.map_set]; exact HNO.out), HNB⟩
                    · have hje : L = j := by omega
                      subst hje
                      go_wp2_with fail
                      go_roundg (yl - k)
                      case measure => omega
                      case rel => exact ⟨k + 1, by omega, by omega, by go_num, HBi⟩
                · have hke : yl = k := by omega
                  subst hke
                  have has := st_assign (HST11.out.below HB.out)
                  rw [HZL.out] at has
                  have HAS := Lib.hid has
                  clear has
                  go_wp2_with fail
                  with_reducible refine HAS.out.mono ?_
                  rintro e w14 ⟨Az, cz, rfl, _, hb14⟩
                  have HB14 := Lib.hid (HB.out.trans (hb14.mono HB.out.size))
                  clear hb14 HAS HB
                  go_wp2_with fail
                  go_loopg [116] (F + 1) (fun gj tj wr => ∃ k : Nat, k ≤ F ∧ gj = F - k + 1 ∧ tj = .int .i64 (k : Nat) ∧ Hid (Below w11.heap.size w11 wr))
                  case atStart => exact ⟨0, by omega, by omega, rfl, HB14⟩
                  case round =>
                    obtain ⟨k, hk, rfl, rfl, HB⟩ := hrel
                    clear HB14
                    by_cases hkl : k < F
                    · have HCA := Lib.hid (show ∀ W, Below w11.heap.size w11 W → W.cell? ⟨w6.heap.size, k, none⟩ = some (.bool (z.getD k false)) from fun W hb => (hb.cell (p := ⟨w6.heap.size, k, none⟩) HKA11.out.lt).trans (HKA11.out.cell (by rw [HZ10.out]; exact hkl)))
                      have HAS := Lib.hid (show ∀ W, Below w11.heap.size w11 W → Calls Try.prog 25 #[.pointer (some ⟨g, 0, none⟩)] W fun e w' => ∃ Aq cq, e = .returned (.slice Aq F cq) ∧ w'.ownsRow W.heap.size 4 1 (.slice Aq F cq) F ((startZ F bits).map .bool) ∧ Below W.heap.size W w' from fun W hb => by
                        have h := st_assign (HST11.out.below hb)
                        rw [HZL.out] at h
                        exact h)
                      have hmz := HZL.out
                      obtain ⟨zk, hzk⟩ : ∃ zk, z.getD k false = zk := ⟨_, rfl⟩
                      rw [hzk] at HCA
                      have ca := HCA.out _ HB.out
                      have hkI : (k : Int) < (F : Int) := by omega
                      clear hzk
                      go_wp2_with fail
                      go_region_held3 (fun w' => w'.cell? ⟨w6.heap.size, k, none⟩ = some (.bool zk)) (first | exact ca | exact HCA.out _ (HB15.out.setCell (p := ⟨gd, k, none⟩) hgd _) | go_keep) (first
                        | (go_at_call 25; with_reducible refine (HAS.out _ (by first | exact HB.out | exact HB.out.drew)).mono ?_; rintro e w15 ⟨Aq, cq, rfl, hown, hb15⟩; obtain ⟨gd, eAd, hgd1, hgd2⟩ := own_addr hown (by omega); have HB15 := Lib.hid (show Below w11.heap.size w11 w15 from by first | exact HB.out.trans (hb15.mono HB.out.size) | exact HB.out.drew.trans (hb15.mono HB.out.drew.size)); have hgd : w11.heap.size ≤ gd := (by first | exact Nat.le_trans HB.out.size hgd1 | exact Nat.le_trans HB.out.drew.size hgd1); subst eAd; have c1 := World.ownsRow.cellAt hown k (by omega); rw [show ((startZ F bits).map Value.bool)[k]? = some (.bool ((startZ F bits).getD k false)) by simp [List.getD, show k < (startZ F bits).length by omega]] at c1; have f1 := World.ownsRow.frozenAt hown k; have ca := HCA.out _ HB15.out; clear hown hb15 hgd1))
                      all_goals
                        have HNB := Lib.hid (HB15.out.setCell (p := ⟨gd, k, none⟩) (by show w11.heap.size ≤ gd; omega) (.bool zk))
                        go_wp2_with fail
                        go_roundg (F - k)
                        case measure => omega
                        case rel => exact ⟨k + 1, by omega, by omega, by go_num, HNB⟩
                    · have hke : F = k := by omega
                      subst hke
                      have hz3 := HZL.out
                      by_cases hat1 : at0 < 0 ∨ (yl : Int) ≤ at0
                      · have hnn : ¬ (0 ≤ at0 ∧ at0 < (nf.length : Nat)) := by rw [HYL.out]; omega
                        have hcl := st_clause (HST11.out.below HB.out) at0
                        simp only [if_neg hnn] at hcl
                        have HCL := Lib.hid hcl
                        have HNN := Lib.hid hnn
                        have hato : (decide (at0 < 0) || decide ((yl : Int) ≤ at0)) = true := by simpa using hat1
                        clear hcl hnn
                        rcases hat1 with hat1 | hat1
                        · go_wp2_with fail
                          with_reducible refine HCL.out.mono ?_
                          rintro e w16 ⟨Ae, ce, rfl, _, hb16⟩
                          have HB16 := Lib.hid (HB.out.trans (hb16.mono HB.out.size))
                          have hho := st_holding (HST11.out.below HB16.out) at0
                          rw [if_neg HNN.out] at hho
                          have HHO := Lib.hid hho
                          clear hb16 HCL hho
                          go_wp2_with fail
                          with_reducible refine HHO.out.mono ?_
                          rintro e w16' ⟨rfl, rfl⟩
                          clear HHO HB
                          have fr := HBG11.out.below HB16.out HBG11.out.lt
                          have g0 := fr.cell 0
                          simp at g0
                          clear fr
                          go_wp2_with fail
                          with_reducible refine (start_any F bits _ (by omega) hbits).mono ?_
                          rintro e w17 ⟨rfl, hk17, hb17⟩
                          have HB17 := Lib.hid (HB16.out.trans (hb17.mono HB16.out.size))
                          have hrg := st_right (HST11.out.below HB17.out) w11.heap.size w17.heap.size Al (some ⟨w16.heap.size, 0, none⟩) cl F (HRL11.out.below HB17.out) (by have := BlkB.bools (z := startZ F bits) hk17; exact this) HB17.out.size (Nat.le_refl _)
                          rw [HZL.out, HYL.out] at hrg
                          have HRG := Lib.hid hrg
                          clear hk17 hb17 hrg g0
                          go_wp2_with fail
                          with_reducible refine HRG.out.mono ?_
                          rintro e w18 ⟨rfl, hb18⟩
                          have HB18 := Lib.hid (HB17.out.trans (hb18.mono HB17.out.size))
                          have hbk := st_break (HST11.out.below HB18.out) (-1) (by omega)
                          rw [show breakI s (startZ F bits).length (-1) = 0 from by unfold breakI; rw [if_neg (by omega)]] at hbk
                          have HBK := Lib.hid hbk
                          have hmk := st_make (HST11.out.below HB18.out) ((F : Int) + 1) (by omega)
                          rw [show makeI s (startZ F bits) ((F : Int) + 1) = 0 from by unfold makeI; rw [if_neg (by rw [HZL.out]; omega)]] at hmk
                          have HMK := Lib.hid hmk
                          have fr := HBG11.out.below HB18.out HBG11.out.lt
                          have g0 := fr.cell 0
                          simp at g0
                          clear hb18 HRG HB17 hbk hmk fr
                          go_wp2_with fail
                          with_reducible refine HBK.out.mono ?_
                          rintro e w19 ⟨rfl, rfl⟩
                          go_wp2_with fail
                          with_reducible refine HMK.out.mono ?_
                          rintro e w19 ⟨rfl, m, rfl⟩
                          have HB19 := Lib.hid (below_drewN HB18.out m)
                          have hva := st_value (HST11.out.below HB19.out) (-3) (by omega)
                          rw [show valZ (startZ F bits) (-3) = false from by unfold valZ; rw [decide_eq_false (by omega)]; rfl] at hva
                          have HVA := Lib.hid hva
                          clear HBK HMK g0 hva
                          go_wp2_with fail
                          with_reducible refine HVA.out.mono ?_
                          rintro e w20 ⟨rfl, rfl⟩
                          have HBE := Lib.hid (HB3.out.trans ((HB311.out.trans (HB19.out.mono (by omega))).mono hs03))
                          clear HVA HB19 HB18
                          go_wp2_with fail
                          go_ret
                          exact ⟨rfl, HBE.out⟩
                        · by_cases hat2 : at0 < 0
                          · omega
                          · go_wp2_with fail
                            with_reducible refine HCL.out.mono ?_
                            rintro e w16 ⟨Ae, ce, rfl, _, hb16⟩
                            have HB16 := Lib.hid (HB.out.trans (hb16.mono HB.out.size))
                            have hho := st_holding (HST11.out.below HB16.out) at0
                            rw [if_neg HNN.out] at hho
                            have HHO := Lib.hid hho
                            clear hb16 HCL hho
                            go_wp2_with fail
                            with_reducible refine HHO.out.mono ?_
                            rintro e w16' ⟨rfl, rfl⟩
                            clear HHO HB
                            have fr := HBG11.out.below HB16.out HBG11.out.lt
                            have g0 := fr.cell 0
                            simp at g0
                            clear fr
                            go_wp2_with fail
                            with_reducible refine (start_any F bits _ (by omega) hbits).mono ?_
                            rintro e w17 ⟨rfl, hk17, hb17⟩
                            have HB17 := Lib.hid (HB16.out.trans (hb17.mono HB16.out.size))
                            have hrg := st_right (HST11.out.below HB17.out) w11.heap.size w17.heap.size Al (some ⟨w16.heap.size, 0, none⟩) cl F (HRL11.out.below HB17.out) (by have := BlkB.bools (z := startZ F bits) hk17; exact this) HB17.out.size (Nat.le_refl _)
                            rw [HZL.out, HYL.out] at hrg
                            have HRG := Lib.hid hrg
                            clear hk17 hb17 hrg g0
                            go_wp2_with fail
                            with_reducible refine HRG.out.mono ?_
                            rintro e w18 ⟨rfl, hb18⟩
                            have HB18 := Lib.hid (HB17.out.trans (hb18.mono HB17.out.size))
                            have hbk := st_break (HST11.out.below HB18.out) (-1) (by omega)
                            rw [show breakI s (startZ F bits).length (-1) = 0 from by unfold breakI; rw [if_neg (by omega)]] at hbk
                            have HBK := Lib.hid hbk
                            have hmk := st_make (HST11.out.below HB18.out) ((F : Int) + 1) (by omega)
                            rw [show makeI s (startZ F bits) ((F : Int) + 1) = 0 from by unfold makeI; rw [if_neg (by rw [HZL.out]; omega)]] at hmk
                            have HMK := Lib.hid hmk
                            have fr := HBG11.out.below HB18.out HBG11.out.lt
                            have g0 := fr.cell 0
                            simp at g0
                            clear hb18 HRG HB17 hbk hmk fr
                            go_wp2_with fail
                            with_reducible refine HBK.out.mono ?_
                            rintro e w19 ⟨rfl, rfl⟩
                            go_wp2_with fail
                            with_reducible refine HMK.out.mono ?_
                            rintro e w19 ⟨rfl, m, rfl⟩
                            have HB19 := Lib.hid (below_drewN HB18.out m)
                            have hva := st_value (HST11.out.below HB19.out) (-3) (by omega)
                            rw [show valZ (startZ F bits) (-3) = false from by unfold valZ; rw [decide_eq_false (by omega)]; rfl] at hva
                            have HVA := Lib.hid hva
                            clear HBK HMK g0 hva
                            go_wp2_with fail
                            with_reducible refine HVA.out.mono ?_
                            rintro e w20 ⟨rfl, rfl⟩
                            have HBE := Lib.hid (HB3.out.trans ((HB311.out.trans (HB19.out.mono (by omega))).mono hs03))
                            clear HVA HB19 HB18
                            go_wp2_with fail
                            go_ret
                            exact ⟨rfl, HBE.out⟩
                      · have hat2 : ¬ at0 < 0 := by omega
                        have hat3 : ¬ (yl : Int) ≤ at0 := by omega
                        clear hat1
                        have fr := HBG11.out.below HB.out HBG11.out.lt
                        have g0 := fr.cell 0
                        simp at g0
                        clear fr
                        go_wp2_with fail
                        with_reducible refine (start_any F bits _ (by omega) hbits).mono ?_
                        rintro e w17 ⟨rfl, hk17, hb17⟩
                        have HB17 := Lib.hid (HB.out.trans (hb17.mono HB.out.size))
                        have hrg := st_right (HST11.out.below HB17.out) w11.heap.size w17.heap.size Al (some ⟨wr.heap.size, 0, none⟩) cl F (HRL11.out.below HB17.out) (by have := BlkB.bools (z := startZ F bits) hk17; exact this) HB17.out.size (Nat.le_refl _)
                        rw [HZL.out, HYL.out] at hrg
                        have HRG := Lib.hid hrg
                        clear hk17 hb17 hrg g0
                        go_wp2_with fail
                        with_reducible refine HRG.out.mono ?_
                        rintro e w18 ⟨rfl, hb18⟩
                        have HB18 := Lib.hid (HB17.out.trans (hb18.mono HB17.out.size))
                        have hbk := st_break (HST11.out.below HB18.out) (-1) (by omega)
                        rw [show breakI s (startZ F bits).length (-1) = 0 from by unfold breakI; rw [if_neg (by omega)]] at hbk
                        have HBK := Lib.hid hbk
                        have hmk := st_make (HST11.out.below HB18.out) ((F : Int) + 1) (by omega)
                        rw [show makeI s (startZ F bits) ((F : Int) + 1) = 0 from by unfold makeI; rw [if_neg (by rw [HZL.out]; omega)]] at hmk
                        have HMK := Lib.hid hmk
                        have fr := HBG11.out.below HB18.out HBG11.out.lt
                        have g0 := fr.cell 0
                        simp at g0
                        clear hb18 HRG HB17 hbk hmk fr
                        go_wp2_with fail
                        with_reducible refine HBK.out.mono ?_
                        rintro e w19 ⟨rfl, rfl⟩
                        go_wp2_with fail
                        with_reducible refine HMK.out.mono ?_
                        rintro e w19 ⟨rfl, m, rfl⟩
                        have HB19 := Lib.hid (below_drewN HB18.out m)
                        have hva := st_value (HST11.out.below HB19.out) (-3) (by omega)
                        rw [show valZ (startZ F bits) (-3) = false from by unfold valZ; rw [decide_eq_false (by omega)]; rfl] at hva
                        have HVA := Lib.hid hva
                        clear HBK HMK g0 hva
                        go_wp2_with fail
                        with_reducible refine HVA.out.mono ?_
                        rintro e w20 ⟨rfl, rfl⟩
                        have HBE := Lib.hid (HB3.out.trans ((HB311.out.trans (HB19.out.mono (by omega))).mono hs03))
                        clear HVA HB19 HB18
                        go_wp2_with fail
                        go_ret
                        exact ⟨rfl, HBE.out⟩

theorem own14_raw (u : Int) (nss : List (List Int)) (A : Option Addr) (c : Nat) (bits a : Int) (w : World) (hu : (Lit.int .u8 u).wf = true)
    (hx : nss.length ≤ 5864062014805) (m : ∀ j, (nss.getD j []).length * 2 ≤ 140737488351232) (hn : ∀ j i, (Lit.int .i16 ((nss.getD j []).getD i 0)).wf = true) (h : KRows .i16 w w.heap.size A nss) (hb : (Lit.int .u32 bits).wf = true) (ha : (Lit.int .i64 a).wf = true) :
    Calls Try.prog 7 #[.agg #[.int .u8 u, .slice A nss.length c], .int .u32 bits, .int .i64 a] w fun e w' => e = .returned (.bool true) ∧ Below w.heap.size w w' := by
  obtain ⟨v, rfl, hv⟩ := u8_nat14 hu
  exact own14_any v nss A c bits a w hv (by omega) (fun j => by have := m j; omega) (fun j k => by have := bounds_i16 (hn j k); omega) h (by have := bounds_u32 hb; omega) (by have := bounds_i64 ha; omega)
end Go.Proofs.Ytbejjddkndcldaa
