/- The statement that a walk's best assignment is what it says: the walk. -/
import Derived.Test.YtllgepabjglnaaaChosen15
import Derived.Test.YtllgepabjglnaaaOpenArr15
import Derived.Deep.RegionHeld3
namespace Go.Proofs.Ytllgepabjglnaaa
open Go.RowKit
set_option linter.unusedVariables false
set_option linter.unusedSimpArgs false

/-- a walk and its result in a block of its own -/
structure BestR (w8 wx : World) (Bs r g : Nat) (xss : List (List Int)) (z : List Bool) (y : Wy) (sg : Sg) (N : Nat) (A : Option Addr) (cA few : Nat) (z' : List Bool) : Prop where
  sm : Strm wx Bs r (runF y N ⟨z, startLS z (normForm xss), sg⟩).2.2.g.ws (runF y N ⟨z, startLS z (normForm xss), sg⟩).2.2.g.last (runF y N ⟨z, startLS z (normForm xss), sg⟩).2.1
  own : wx.ownsRow 0 4 1 (.slice A z.length cA) z.length (z'.map .bool)
  blk : Blk wx g 57 #[.slice A z.length cA, .int .i64 (few : Nat), .int .i64 ((runF y N ⟨z, startLS z (normForm xss), sg⟩).1 : Nat)]
  ft : Ft (fun q => q = r) w8 wx
  bst : few = unsN (normForm xss) z'
  first : few ≤ unsN (normForm xss) z
  last : few ≤ (runF y N ⟨z, startLS z (normForm xss), sg⟩).2.2.s.row.length
  zr : (runF y N ⟨z, startLS z (normForm xss), sg⟩).1 = 0 → few = unsN (normForm xss) z
  g0 : (startLS z (normForm xss)).Good z.length ∧ (startLS z (normForm xss)).At z ∧ (startLS z (normForm xss)).cls = normForm xss
theorem BestR.of {w8 w9 w10 wx : World} {Bs r g : Nat} {xss : List (List Int)} {z : List Bool} {y : Wy} {sg : Sg} {N : Nat} {A : Option Addr} {cA few : Nat} {z' : List Bool} (h : WalkedP w9 w10 Bs r xss z y sg N A cA few z') (h9 : Ft (fun _ => False) w8 w9) (hx : Ft (fun q => q = g) w10 wx) (hg : w8.heap.size ≤ g) (hg2 : g < w9.heap.size ∨ w10.heap.size ≤ g) (hr : r < w8.heap.size)
    (hb : Blk wx g 57 #[.slice A z.length cA, .int .i64 (few : Nat), .int .i64 ((runF y N ⟨z, startLS z (normForm xss), sg⟩).1 : Nat)]) : BestR w8 wx Bs r g xss z y sg N A cA few z' :=
  ⟨h.sm.ft hx fun q e => .inr (by omega), hx.own (own_more h.own (Nat.zero_le _)) fun q hq e => by have := h.own.lt q hq; omega, hb, ((h9.mono (F' := fun q => q = r) fun _ e => e.elim).trans h.ft NewF.refl).trans hx fun q e => .inr (by omega), h.bst, h.first, h.last, h.zr, h.g0⟩

set_option maxRecDepth 100000 in
set_option maxHeartbeats 16000000 in
theorem best15_any (v : Nat) (nss : List (List Int)) (A : Option Addr) (c : Nat) (n0 n1 n2 n3 : Nat) (ws : List Nat) (Aw : Option Addr) (cw : Nat) (w : World) (hv : v ≤ 255)
    (hx : nss.length ≤ 140737488355328) (hl : ∀ j, (nss.getD j []).length ≤ 140737488355328) (hn : ∀ j k, -32768 ≤ (nss.getD j []).getD k 0 ∧ (nss.getD j []).getD k 0 ≤ 32767) (h : KRows .i16 w w.heap.size A nss)
    (hn0 : n0 < 4294967296) (hn1 : n1 < 4294967296) (hn2 : n2 < 4294967296) (hn3 : n3 < 4294967296) (hi : KInts .u64 w w.heap.size Aw (ws.map fun (x : Nat) => (x : Int))) (hcw : ws.length ≤ cw) (hws : ∀ x ∈ ws, x < 2 ^ 64) :
    Calls Try.prog 4 #[.agg #[.int .u8 v, .slice A nss.length c], .agg #[.int .u32 (n0 : Nat), .int .u32 (n1 : Nat), .int .u32 (n2 : Nat), .int .u32 (n3 : Nat)], .slice Aw ws.length cw] w fun e w' => e = .returned (.bool true) ∧ Below w.heap.size w w' := by
  have H := Lib.hid h
  have HL := Lib.hid hl
  have HN := Lib.hid hn
  have HWI := Lib.hid (And.intro hi (And.intro hcw hws))
  clear h hl hn hi hcw hws
  go_enter Try.func4, Try.ntmps4
  go_wp2_with fail
  obtain ⟨w1, hw1⟩ : ∃ w1, w1 = (w.alloc (Obj.cells #[Value.int IntKind.u8 v, Value.slice A nss.length c] 24)).alloc (Obj.cells #[Value.int .u32 (n0 : Nat), Value.int .u32 (n1 : Nat), Value.int .u32 (n2 : Nat), Value.int .u32 (n3 : Nat)] 55) := ⟨_, rfl⟩
  have HR1 := Lib.hid (show KRows .i16 w1 w.heap.size A nss by rw [hw1]; exact (H.out.alloc (Nat.le_refl _) _).alloc (by simp) _)
  have HB1 := Lib.hid (show Below w.heap.size w w1 by rw [hw1]; exact ((Below.refl _ _).alloc (Nat.le_refl _) _).alloc (by simp) _)
  have HK1 := Lib.hid (show Blk w1 w.heap.size 24 #[Value.int IntKind.u8 v, Value.slice A nss.length c] by rw [hw1]; exact (Blk.new w _ _).alloc _)
  have HQ1 := Lib.hid (show Blk w1 (w.heap.size + 1) 55 #[Value.int .u32 (n0 : Nat), Value.int .u32 (n1 : Nat), Value.int .u32 (n2 : Nat), Value.int .u32 (n3 : Nat)] by rw [hw1]; exact blk_new14 (by simp))
  rw [← hw1]
  clear hw1
  refine (fit_any15 w1).mono ?_
  rintro e w2 ⟨rfl, hb2⟩
  have HR2 := Lib.hid (HR1.out.below (hb2.mono HB1.out.size))
  have HB2 := Lib.hid (HB1.out.trans (hb2.mono HB1.out.size))
  have HK2 := Lib.hid (HK1.out.below hb2 HK1.out.lt)
  have HQ2 := Lib.hid (HQ1.out.below hb2 HQ1.out.lt)
  clear hb2 HR1 HB1 HK1 HQ1
  have k0 := HK2.out.cell 0
  have k1 := HK2.out.cell 1
  simp at k0 k1
  go_wp2_with fail
  refine (light_any v nss _ A c 40 w2 (by omega) hx HL.out HR2.out HB2.out.size).mono ?_
  rintro e w3 ⟨rfl, hb3⟩
  have HR3 := Lib.hid (HR2.out.below (hb3.mono HB2.out.size))
  have HB3 := Lib.hid (HB2.out.trans (hb3.mono HB2.out.size))
  have HK3 := Lib.hid (HK2.out.below hb3 HK2.out.lt)
  have HQ3 := Lib.hid (HQ2.out.below hb3 HQ2.out.lt)
  clear hb3 HR2 HB2 HK2 HQ2 k0 k1
  have k0 := HK3.out.cell 0
  have k1 := HK3.out.cell 1
  simp at k0 k1
  have q0 := HQ3.out.cell 0
  have q1 := HQ3.out.cell 1
  have q2 := HQ3.out.cell 2
  have q3 := HQ3.out.cell 3
  simp at q0 q1 q2 q3
  rcases hlt : light nss 40 with _ | _
  · go_wp2
    go_ret
    exact ⟨rfl, HB3.out⟩
  · have hls := light_rows hlt
    have hF : v % (12 + 1) ≤ 12 := by omega
    have hFM := lightForm_rawW14 (F := v % (12 + 1)) (W := 6) (by omega) hlt
    clear hlt
    by_cases hlen : 60 < ws.length
    · have hlI : (60 : Int) < (ws.length : Int) := by omega
      go_wp2
      go_ret
      exact ⟨rfl, HB3.out⟩
    have hlI : decide ((60 : Int) < (ws.length : Int)) = false := decide_eq_false (by omega)
    have HWW : Hid (∀ W, Below w.heap.size w W → Words W w.heap.size Aw cw ws) := Lib.hid fun W hb => ⟨Cells.keep HWI.out.1 fun p hp => hb.cell hp, HWI.out.2.1, HWI.out.2.2, by omega⟩
    have t2 : Int.tmod (n3 : Int) 2000 = ((n3 % 2000 : Nat) : Int) := rfl
    have t3 : (n3 : Int) % 2000 = ((n3 % 2000 : Nat) : Int) := by omega
    obtain ⟨mm, hmm⟩ : ∃ mm, n3 % 2000 = mm := ⟨_, rfl⟩
    have hmm2 : mm < 2000 := by omega
    rw [hmm] at t2 t3
    have t4 : IntKind.i64.wrap (mm : Int) = (mm : Int) := IntWalk.i64_in _ (by omega)
    have t5 : IntKind.i64.wrap ((mm : Int) - 5) = (mm : Int) - 5 := IntWalk.i64_in _ (by omega)
    clear hmm
    go_wp2_with fail
    refine (formula_any v nss _ A c 12 6 w3 hv (by omega) (by omega) hls.1 hls.2 HN.out HR3.out HB3.out.size).mono ?_
    obtain ⟨F, hFF⟩ : ∃ F, F = v % (12 + 1) := ⟨_, rfl⟩
    rw [← hFF] at hF hFM ⊢
    clear hFF
    obtain ⟨xss, hxs⟩ : ∃ xss, xss = rawForm F 6 nss := ⟨_, rfl⟩
    rw [← hxs] at hFM ⊢
    have HFM := Lib.hid hFM
    have hx1 := hFM.few
    rintro e w4 ⟨A4, c4, vs4, rfl, hown4, hlist4, hb4⟩
    have HB4 := Lib.hid (HB3.out.trans (hb4.mono HB3.out.size))
    have HQ4 := Lib.hid (HQ3.out.below hb4 HQ3.out.lt)
    have HRO4 := Lib.hid (hlist4.rows hown4)
    clear hFM hown4 hlist4 hb4 k0 k1 hxs HR3 HB3 HK3 hls HQ3 hlI
    have hqa := HQ4.out.alloc (Obj.cells #[Value.int IntKind.i64 F, Value.slice A4 xss.length c4] 32)
    have qa0 := hqa.cell 0
    have qa1 := hqa.cell 1
    have qa2 := hqa.cell 2
    have qa3 := hqa.cell 3
    simp at qa0 qa1 qa2 qa3
    clear hqa
    go_wp2_with fail
    obtain ⟨w5, hw5⟩ : ∃ w5, w5 = w4.alloc (Obj.cells #[Value.int IntKind.i64 F, Value.slice A4 xss.length c4] 32) := ⟨_, rfl⟩
    have HFB5 := Lib.hid (show Blk w5 w4.heap.size 32 #[Value.int IntKind.i64 F, Value.slice A4 xss.length c4] by rw [hw5]; exact Blk.new w4 _ _)
    have HRO5 := Lib.hid (show Rows w5 w4.heap.size A4 xss by rw [hw5]; exact HRO4.out.alloc (Nat.le_refl _) _)
    have HB5 := Lib.hid (show Below w.heap.size w w5 by rw [hw5]; exact HB4.out.alloc HB4.out.size _)
    have HQ5 := Lib.hid (show Blk w5 (w.heap.size + 1) 55 #[Value.int .u32 (n0 : Nat), Value.int .u32 (n1 : Nat), Value.int .u32 (n2 : Nat), Value.int .u32 (n3 : Nat)] by rw [hw5]; exact HQ4.out.alloc _)
    have hs5 : w4.heap.size + 1 ≤ w5.heap.size := by rw [hw5]; simp
    have hs4 := HB4.out.size
    rw [← hw5]
    clear hw5 HRO4 HB4 HQ4 qa0 qa1 qa2 qa3
    refine (start_any F (n0 : Int) w5 (by omega) (by omega)).mono ?_
    rintro e w7 ⟨rfl, hk7, hb7⟩
    have HKA7 := Lib.hid hk7
    have HB57 := Lib.hid hb7
    have HFB7 := Lib.hid (HFB5.out.below hb7 HFB5.out.lt)
    have HRO7 := Lib.hid (HRO5.out.below (hb7.mono (by omega)))
    have HQ7 := Lib.hid (HQ5.out.below hb7 HQ5.out.lt)
    have hka := hk7.lt
    have hs7 := hb7.size
    clear hk7 hb7 HFB5 HRO5 HQ5
    have hqw := HQ7.out
    have q0 := HQ7.out.cell 0
    have q1 := HQ7.out.cell 1
    have q2 := HQ7.out.cell 2
    have q3 := HQ7.out.cell 3
    simp at q0 q1 q2 q3
    go_wp2_with fail
    have HW7 : Hid (∀ W, Below w7.heap.size w7 W → Words W w.heap.size Aw cw ws) := Lib.hid fun W hb => HWW.out W ((HB5.out.trans (HB57.out.mono HB5.out.size)).trans (hb.mono (by have := HB5.out.size; omega)))
    refine (rng_new (HW7.out w7 (Below.refl _ _)) (by have := HB5.out.size; omega) n2 (by omega)).mono ?_
    rintro e w8 ⟨r, rfl, hsr, hb8⟩
    have HS8 := Lib.hid hsr
    have hs8 := hb8.size
    have hrl := hsr.low
    have hru := hsr.lt
    have HB8 := Lib.hid (HB57.out.trans (hb8.mono HB57.out.size))
    have HFB8 := Lib.hid (HFB7.out.below hb8 HFB7.out.lt)
    have HRO8 := Lib.hid (HRO7.out.below (hb8.mono (by omega)))
    have HKA8 := Lib.hid (show BlkB w8 w5.heap.size 4 (startZ F n0) from Blk.below HKA7.out hb8 hka)
    have HQ8 := Lib.hid (HQ7.out.below hb8 HQ7.out.lt)
    have e8 := wrap_u8_15 n1
    have e16 := wrap_u16_15 n2
    obtain ⟨kd, hkd⟩ : ∃ kd, n1 % 256 = kd := ⟨_, rfl⟩
    obtain ⟨nn, hnn⟩ : ∃ nn, n2 % 65536 = nn := ⟨_, rfl⟩
    have hkd2 : kd ≤ 255 := by omega
    have hnn2 : nn ≤ 65535 := by omega
    rw [hkd] at e8
    rw [hnn] at e16
    have hyok := wayOf_ok kd nn
    obtain ⟨y, hy⟩ : ∃ y, wayOf kd nn = y := ⟨_, rfl⟩
    have HWY := Lib.hid (fun W => way_any15 kd nn hkd2 hnn2 W)
    rw [hy] at hyok HWY
    have HY := Lib.hid hyok
    have hzl := startZ_len F (n0 : Int)
    have HFC : Hid (∀ W, Ft (fun q => q = r) w8 W → Blk W w4.heap.size 32 #[Value.int IntKind.i64 F, Value.slice A4 xss.length c4] ∧ Blk W (w.heap.size + 1) 55 #[Value.int .u32 (n0 : Nat), Value.int .u32 (n1 : Nat), Value.int .u32 (n2 : Nat), Value.int .u32 (n3 : Nat)] ∧ Rows W w4.heap.size A4 xss ∧ Bools W w7.heap.size (some ⟨w5.heap.size, 0, none⟩) (startZ F n0)) := Lib.hid fun W hf => by
      have hsz := hf.size
      have hF : ∀ q, q = r → w7.heap.size ≤ q := fun q e => by omega
      have hb : Below w7.heap.size w8 W := hf.below (by omega) hF
      refine ⟨HFB8.out.below hb (by omega), HQ8.out.below hb (by omega), HRO8.out.below (hb.mono (by omega)), Cells.below (Cells.more (B' := w7.heap.size) ?_ (Nat.le_refl _)) hb⟩
      have := HKA7.out.bools
      exact Cells.keep this fun p hp => (hb8.mono (Nat.le_refl _)).cell hp
    obtain ⟨z, hz⟩ : ∃ z, startZ F (n0 : Int) = z := ⟨_, rfl⟩
    rw [hz] at HFC hzl
    have HZL := Lib.hid hzl
    have HWK := Lib.hid (fun (W : World) (hf : Ft (fun _ => False) w8 W) => walk_any15 F xss z w7.heap.size w7.heap.size r A4 (some ⟨w5.heap.size, 0, none⟩) c4 F W (y := y) (sg := ⟨ws, seedOf n2⟩) ((mm : Int) - 5) (by omega) (by omega) HFM.out (Rows.more (HFC.out W (hf.mono fun _ e => e.elim)).2.2.1 (by omega)) (HFC.out W (hf.mono fun _ e => e.elim)).2.2.2 (by have := hf.size; omega) HZL.out (HS8.out.ft hf fun _ e => e.elim) HY.out)
    have HUNS := Lib.hid (fun (W : World) (hf : Ft (fun q => q = r) w8 W) => unsat_any15 F xss z w7.heap.size w7.heap.size A4 (some ⟨w5.heap.size, 0, none⟩) c4 F W (by omega) HFM.out (Rows.more (HFC.out W hf).2.2.1 (by omega)) (HFC.out W hf).2.2.2 (by have := hf.size; omega) (by have := hf.size; omega) HZL.out)
    have HUNS2 := Lib.hid (fun (W : World) (hf : Ft (fun q => q = r) w8 W) (Ab : Option Addr) (cb : Nat) (zb : List Bool) (hzb : zb.length = F) (hb : Bools W W.heap.size Ab zb) => unsat_any15 F xss zb w7.heap.size W.heap.size A4 Ab c4 cb W (by omega) HFM.out (Rows.more (HFC.out W hf).2.2.1 (by omega)) hb (by have := hf.size; omega) (Nat.le_refl _) hzb)
    have HSY : Hid (∀ W, Ft (fun q => q = r) w8 W → (W.cell? ⟨w4.heap.size, 0, none⟩ = some (.int .i64 F) ∧ W.cell? ⟨w4.heap.size, 1, none⟩ = some (.slice A4 xss.length c4) ∧ W.cell? ⟨w.heap.size + 1, 1, none⟩ = some (.int .u32 (n1 : Nat)) ∧ W.cell? ⟨w.heap.size + 1, 2, none⟩ = some (.int .u32 (n2 : Nat)))) := Lib.hid fun W hf => by
      obtain ⟨b1, b2, _, _⟩ := HFC.out W hf
      refine ⟨by rw [b1.cell]; rfl, by rw [b1.cell]; rfl, by rw [b2.cell]; rfl, by rw [b2.cell]; rfl⟩
    have HE0 : Hid (Ft (fun _ => False) w8 w8.drew) := Lib.hid (Ft.refl _).drew
    obtain ⟨ZR, hZR⟩ : ∃ ZR : Obj, ZR = .cells #[.slice none 0 0, .int .i64 0, .int .i64 0] 57 := ⟨_, rfl⟩
    have HE0a : Hid (Ft (fun _ => False) w8 (w8.alloc (.cells #[.slice none 0 0, .int .i64 0, .int .i64 0] 57)).drew) := Lib.hid (ftAlloc (Ft.refl _) _).drew
    have HF8 : Hid (Ft (fun q => q = r) w8 w8) := Lib.hid (Ft.refl _)
    clear hZR ZR
    rw [HZL.out] at HWK HUNS
    clear hkd hnn hyok hy hz hzl hqw q0 q1 q2 q3 HQ7 HFB7 HRO7 HKA7 HKA8 HRO8 HW7 hsr hb8 HWI HWW
    go_wp2_with fail
    go_cut [11, 12] (fun p q wx => ∃ (g : Nat) (Ab : Option Addr) (cb few : Nat) (zb : List Bool), p = .pointer (some ⟨g, 0, none⟩) ∧ q = .int .i64 0 ∧ Hid (BestR w8 wx w7.heap.size r g xss z y ⟨ws, seedOf n2⟩ (Int.toNat ((mm : Int) - 5)) Ab cb few zb))
    case first =>
      go_region_held3 (fun W => W.cell? ⟨w4.heap.size, 0, none⟩ = some (.int .i64 F) ∧ W.cell? ⟨w4.heap.size, 1, none⟩ = some (.slice A4 xss.length c4) ∧ W.cell? ⟨w.heap.size + 1, 1, none⟩ = some (.int .u32 (n1 : Nat)) ∧ W.cell? ⟨w.heap.size + 1, 2, none⟩ = some (.int .u32 (n2 : Nat))) (exact HSY.out _ (by repeat (first | exact HF8.out | exact HF9.out | exact HF10.out | apply Ft.drew | apply ftAlloc | (refine Ft.set ?_ (fun h => absurd h (by omega)) _ _))))
        (first
         | (go_at_call 14; refine (HWY.out _).mono ?_; rintro e w9 ⟨rfl, hb9⟩; have HE9 : Hid (Ft (fun _ => False) w8 w9) := Lib.hid (by first | exact HE0.out.low hb9 | exact HE0a.out.low hb9); have HF9 : Hid (Ft (fun q => q = r) w8 w9) := Lib.hid (HE9.out.mono fun _ e => e.elim); have hs9 := HE9.out.size; have HE9a : Hid (Ft (fun _ => False) w8 (w9.alloc (.cells #[.slice none 0 0, .int .i64 0, .int .i64 0] 57))) := Lib.hid (ftAlloc HE9.out _); (try (have HGA : Hid (Blk w9 w8.heap.size 57 #[.slice none 0 0, .int .i64 0, .int .i64 0] ∧ w8.heap.size < w9.heap.size) := Lib.hid (by have h := (show Blk (w8.alloc (.cells #[.slice none 0 0, .int .i64 0, .int .i64 0] 57)).drew w8.heap.size 57 #[.slice none 0 0, .int .i64 0, .int .i64 0] from Blk.new w8 _ _).below hb9 (by simp); exact ⟨h, h.lt⟩))); clear hb9)
         | (go_at_call 25; refine (HWK.out _ HE9.out).mono ?_; rintro e w10 ⟨Ab, cb, few, zb, rfl, hp⟩; have HP := Lib.hid hp; have HF10 : Hid (Ft (fun q => q = r) w8 w10) := Lib.hid (HF9.out.trans hp.ft NewF.refl); have hs10 := hp.ft.size; (try (have hk := hp.ft.blk HGA.out.1 (by omega); have d0 := hk.cell 0; have d1 := hk.cell 1; have d2 := hk.cell 2; have g0 := hk.frozen 0; have g1 := hk.frozen 1; have g2 := hk.frozen 2; simp at d0 d1 d2; have HK := Lib.hid hk; clear hk)); clear hp)
         | (go_at_call 25; refine (HWK.out _ HE9a.out).mono ?_; rintro e w10 ⟨Ab, cb, few, zb, rfl, hp⟩; have HP := Lib.hid hp; have HF10 : Hid (Ft (fun q => q = r) w8 w10) := Lib.hid ((HE9a.out.mono fun _ e => e.elim).trans hp.ft NewF.refl); have hs10 := hp.ft.size; have hk := hp.ft.blk (show Blk (w9.alloc (.cells #[.slice none 0 0, .int .i64 0, .int .i64 0] 57)) w9.heap.size 57 #[.slice none 0 0, .int .i64 0, .int .i64 0] from Blk.new w9 _ _) (by omega); have d0 := hk.cell 0; have d1 := hk.cell 1; have d2 := hk.cell 2; have g0 := hk.frozen 0; have g1 := hk.frozen 1; have g2 := hk.frozen 2; simp at d0 d1 d2; simp at hs10; have HKB := Lib.hid hk; clear hk))
      all_goals
        go_wp2_with fail
        go_meet
        first
          | exact ⟨w10.heap.size, Ab, cb, few, zb, rfl, rfl, Lib.hid (BestR.of HP.out HE9.out (ftAlloc (Ft.refl _) _) (by omega) (.inr (Nat.le_refl _)) (by omega) (by rw [HZL.out]; exact Blk.new _ _ _))⟩
          | exact ⟨w9.heap.size, Ab, cb, few, zb, rfl, rfl, Lib.hid (BestR.of HP.out HE9a.out (ft3_15 _ _ _ _ _) (by omega) (.inl (by simp)) (by omega) (by rw [HZL.out]; exact blk3_15 HKB.out _ _ _))⟩
          | exact ⟨w8.heap.size, Ab, cb, few, zb, rfl, rfl, Lib.hid (BestR.of HP.out HE9.out (ft3_15 _ _ _ _ _) (Nat.le_refl _) (.inl HGA.out.2) (by omega) (by rw [HZL.out]; exact blk3_15 HK.out _ _ _))⟩
    case rest =>
      obtain ⟨g, Ab, cb, few, zb, rfl, rfl, HB⟩ := hcut
      have hzb : zb.length = F := by have := HB.out.own.1; simp only [List.length_map, HZL.out] at this; omega
      have hown := HB.out.own
      have hblk := HB.out.blk
      rw [HZL.out] at hown hblk
      have hbz : Bools wc wc.heap.size Ab zb := by
        have := cells_of_own hown undef
        unfold Bools
        rw [hzb]
        exact Cells.congr this fun j hj => by simp [List.getD, show j < zb.length by omega]
      obtain ⟨U, hU⟩ : ∃ U, unsN (normForm xss) z = U := ⟨_, rfl⟩
      obtain ⟨st, hst⟩ : ∃ st, (runF y (Int.toNat ((mm : Int) - 5)) ⟨z, startLS z (normForm xss), ⟨ws, seedOf n2⟩⟩).1 = st := ⟨_, rfl⟩
      obtain ⟨dr, hdr⟩ : ∃ dr, (runF y (Int.toNat ((mm : Int) - 5)) ⟨z, startLS z (normForm xss), ⟨ws, seedOf n2⟩⟩).2.1 = dr := ⟨_, rfl⟩
      have hfU := HB.out.first
      have hzr := HB.out.zr
      have hstl := runF_le y (Int.toNat ((mm : Int) - 5)) ⟨z, startLS z (normForm xss), ⟨ws, seedOf n2⟩⟩
      have hdrs := runF_draws y (Int.toNat ((mm : Int) - 5)) ⟨z, startLS z (normForm xss), ⟨ws, seedOf n2⟩⟩
      have hsto := runF_stop y (Int.toNat ((mm : Int) - 5)) ⟨z, startLS z (normForm xss), ⟨ws, seedOf n2⟩⟩
      have hlast := HB.out.last
      have hrow0 : U = 0 → st = 0 ∧ dr = 0 := fun e => by
        have h1 := row_uns HB.out.g0.1 HB.out.g0.2.1
        rw [HB.out.g0.2.2, hU, e] at h1
        have h2 := runF_end y (Int.toNat ((mm : Int) - 5)) (c := ⟨z, startLS z (normForm xss), ⟨ws, seedOf n2⟩⟩) (List.eq_nil_of_length_eq_zero h1)
        rw [← hst, ← hdr, h2]
        exact ⟨rfl, rfl⟩
      have hsmall : mm < 6 → st = 0 ∧ dr = 0 := fun e => by
        have : Int.toNat ((mm : Int) - 5) = 0 ∨ (Int.toNat ((mm : Int) - 5)) ≤ 0 := by omega
        have e0 : Int.toNat ((mm : Int) - 5) = 0 := by omega
        rw [← hst, ← hdr, e0]
        exact ⟨rfl, rfl⟩
      rw [hU] at hfU hzr
      rw [hst] at hzr hstl hdrs hsto
      rw [hdr] at hdrs
      rw [hst] at hblk
      have hend : few = 0 ∨ st = Int.toNat ((mm : Int) - 5) := by
        rcases hsto with e | e
        · exact .inr e
        · rw [e] at hlast
          exact .inl (by simpa using hlast)
      have HDR := Lib.hid (fun (W : World) (hb : Below wc.heap.size wc W) => rng_drawn (HB.out.sm.below hb HB.out.sm.lt))
      rw [hdr] at HDR
      rw [hU] at HUNS
      have HBK := Lib.hid hblk
      have HFT := Lib.hid HB.out.ft
      have HU2 := Lib.hid (fun (W : World) (hb : Below wc.heap.size wc W) => (by have := HUNS2.out W (HFT.out.low hb) Ab cb zb hzb (Cells.more (Cells.below hbz hb) hb.size); rw [hzb, ← HB.out.bst] at this; exact this : Calls Try.prog 24 #[.agg #[.int .i64 F, .slice A4 xss.length c4], .slice Ab F cb] W fun e w' => e = .returned (.int .i64 (few : Nat)) ∧ Below W.heap.size W w'))
      have HU1 := Lib.hid (fun (W : World) (hb : Below wc.heap.size wc W) => HUNS.out W (HFT.out.low hb))
      have HCE : Hid (∀ W, Below wc.heap.size wc W → (W.cell? ⟨w4.heap.size, 0, none⟩ = some (.int .i64 F) ∧ W.cell? ⟨w4.heap.size, 1, none⟩ = some (.slice A4 xss.length c4) ∧ W.cell? ⟨g, 0, none⟩ = some (.slice Ab F cb) ∧ W.cell? ⟨g, 1, none⟩ = some (.int .i64 (few : Nat)) ∧ W.cell? ⟨g, 2, none⟩ = some (.int .i64 (st : Nat)))) := Lib.hid fun W hb => by
        obtain ⟨h1, h2, _, _⟩ := HSY.out W (HFT.out.low hb)
        have hk := HBK.out.below hb HBK.out.lt
        exact ⟨h1, h2, by rw [hk.cell]; rfl, by rw [hk.cell]; rfl, by rw [hk.cell]; rfl⟩
      have HBW := Lib.hid (show Below w.heap.size w wc from ((HB5.out.trans (HB8.out.mono HB5.out.size)).trans (HFT.out.below (by have := HB5.out.size; omega) fun q e => by have := HB5.out.size; omega)))
      have HB0 : Hid (Below wc.heap.size wc wc ∧ Below wc.heap.size wc wc.drew) := Lib.hid ⟨Below.refl _ _, (Below.refl _ _).drew⟩
      have hfUI : decide ((U : Int) < (few : Int)) = false := decide_eq_false (by omega)
      have hfUN : decide (U < few) = false := decide_eq_false (by omega)
      have hfUJ : ¬ (U : Int) < (few : Int) := by omega
      have hst0 : decide ((st : Int) < 0) = false := decide_eq_false (by omega)
      have hstb : st ≤ 2000 := by omega
      have HE := Lib.hid (And.intro hfU (And.intro hzr (And.intro hstl (And.intro hdrs (And.intro hend (And.intro hrow0 hsmall))))))
      clear hzb hown hblk hbz hU hst hdr hfU hzr hstl hdrs hsto hlast hrow0 hsmall hend HB HUNS HUNS2 HWK HWY HFC HSY HY HZL HS8 HFM HB5 HB8 HFB8 HQ8 HE0 HE0a HF8 HB57
      obtain ⟨c0, c1, d0, d1, d2⟩ := HCE.out wc HB0.out.1
      have HC0 := Lib.hid (HCE.out wc HB0.out.1)
      go_wp2_with fail
      go_region_held3 (fun W => W.cell? ⟨w4.heap.size, 0, none⟩ = some (.int .i64 F) ∧ W.cell? ⟨w4.heap.size, 1, none⟩ = some (.slice A4 xss.length c4) ∧ W.cell? ⟨g, 0, none⟩ = some (.slice Ab F cb) ∧ W.cell? ⟨g, 1, none⟩ = some (.int .i64 (few : Nat)) ∧ W.cell? ⟨g, 2, none⟩ = some (.int .i64 (st : Nat))) (first | exact HC0.out | exact HC1.out | exact HC2.out)
        (first
         | (go_at_call 24; with_reducible refine (HU2.out _ HB0.out.2).mono ?_; rintro e wa ⟨rfl, hba⟩; have HBA : Hid (Below wc.heap.size wc wa) := Lib.hid (HB0.out.2.trans (hba.mono HB0.out.2.size)); have HC1 := Lib.hid (HCE.out wa HBA.out); clear hba)
         | (go_at_call 24; with_reducible refine (HU1.out _ HBA.out).mono ?_; rintro e wb ⟨rfl, hbb⟩; have HBB : Hid (Below wc.heap.size wc wb) := Lib.hid (HBA.out.trans (hbb.mono HBA.out.size)); have HC2 := Lib.hid (HCE.out wb HBB.out); clear hbb))
      all_goals
        by_cases hm : mm < 6
        · obtain ⟨e1, e2⟩ := HE.out.2.2.2.2.2.2 hm
          subst e1 e2
          obtain e3 : few = U := HE.out.2.1 rfl
          subst e3
          obtain ⟨c0, c1, d0, d1, d2⟩ := HC2.out
          have hmI : ((mm : Int) - 5 < 1) := by omega
          go_wp2_with fail
          go_region_held3 (fun W => W.cell? ⟨w4.heap.size, 0, none⟩ = some (.int .i64 F) ∧ W.cell? ⟨w4.heap.size, 1, none⟩ = some (.slice A4 xss.length c4) ∧ W.cell? ⟨g, 0, none⟩ = some (.slice Ab F cb) ∧ W.cell? ⟨g, 1, none⟩ = some (.int .i64 (few : Nat)) ∧ W.cell? ⟨g, 2, none⟩ = some (.int .i64 (0 : Nat))) (first | exact HC2.out | exact HC9.out)
            (first
             | (go_at_call 23; with_reducible refine (HDR.out wb.drew HBB.out.drew).mono ?_; rintro e wq ⟨rfl, rfl⟩)
             | (go_at_call 24; with_reducible refine (HU1.out wb.drew HBB.out.drew).mono ?_; rintro e wc9 ⟨rfl, hb9⟩; have HB9 : Hid (Below wc.heap.size wc wc9) := Lib.hid (HBB.out.drew.trans (hb9.mono HBB.out.drew.size)); have HC9 := Lib.hid (HCE.out wc9 HB9.out); clear hb9))
          all_goals
            go_wp2
            go_ret
            exact ⟨rfl, HBW.out.trans (HB9.out.mono HBW.out.size)⟩
        · obtain ⟨c0, c1, d0, d1, d2⟩ := HC2.out
          have hmI : decide ((mm : Int) - 5 < 1) = false := decide_eq_false (by omega)
          go_wp2_with fail
          refine (HU1.out wb HBB.out).mono ?_
          rintro e wd ⟨rfl, hbd⟩
          have HBD : Hid (Below wc.heap.size wc wd) := Lib.hid (HBB.out.trans (hbd.mono HBB.out.size))
          have HC3 := Lib.hid (HCE.out wd HBD.out)
          clear hbd c0 c1 d0 d1 d2
          obtain ⟨c0, c1, d0, d1, d2⟩ := HC3.out
          by_cases hU0 : U = 0
          · obtain ⟨e1, e2⟩ := HE.out.2.2.2.2.2.1 hU0
            subst e1 e2
            obtain e3 : few = U := HE.out.2.1 rfl
            subst e3
            subst hU0
            go_wp2_with fail
            go_region_held3 (fun W => W.cell? ⟨w4.heap.size, 0, none⟩ = some (.int .i64 F) ∧ W.cell? ⟨w4.heap.size, 1, none⟩ = some (.slice A4 xss.length c4) ∧ W.cell? ⟨g, 0, none⟩ = some (.slice Ab F cb) ∧ W.cell? ⟨g, 1, none⟩ = some (.int .i64 (0 : Nat)) ∧ W.cell? ⟨g, 2, none⟩ = some (.int .i64 (0 : Nat))) (first | exact HC3.out | exact HC9.out)
              (first
               | (go_at_call 23; with_reducible refine (HDR.out wd.drew HBD.out.drew).mono ?_; rintro e wq ⟨rfl, rfl⟩)
               | (go_at_call 24; with_reducible refine (HU1.out wd.drew HBD.out.drew).mono ?_; rintro e wc9 ⟨rfl, hb9⟩; have HB9 : Hid (Below wc.heap.size wc wc9) := Lib.hid (HBD.out.drew.trans (hb9.mono HBD.out.drew.size)); have HC9 := Lib.hid (HCE.out wc9 HB9.out); clear hb9))
            all_goals
              go_wp2
              go_ret
              exact ⟨rfl, HBW.out.trans (HB9.out.mono HBW.out.size)⟩
          · have hUI : ((U : Int) == 0) = false := by simp; omega
            have h1 : (st : Int) ≤ (mm : Int) - 5 := by have := HE.out.2.2.1; omega
            have h2 : (dr : Int) ≤ 3 * (st : Int) := by have := HE.out.2.2.2.1; omega
            have h3 : (st : Int) ≤ (dr : Int) := by have := HE.out.2.2.2.1; omega
            have h2N : dr ≤ 3 * st := by omega
            have h3N : st ≤ dr := by omega
            have hw3 : IntKind.i64.wrap (3 * (st : Int)) = 3 * (st : Int) := IntWalk.i64_in _ (by omega)
            have hend := HE.out.2.2.2.2.1
            by_cases hf0 : few = 0
            · have hfI : ((few : Int) == 0) = true := by simp; omega
              have hfI2 : decide (few = 0) = true := decide_eq_true hf0
              have hfI3 : (few == 0) = true := by simp; exact hf0
              have hfI4 : decide ((few : Int) = 0) = true := decide_eq_true (by omega)
              clear hend hf0
              go_wp2_with fail
              go_quiet ((go_at_call 23; with_reducible exact quiet_left (HDR.out (wd.drewN _) (below_drewN HBD.out _))))
              go_wp2
              go_ret
              exact ⟨rfl, HBW.out.trans ((below_drewN HBD.out _).mono HBW.out.size)⟩
            · have hfI : ((few : Int) == 0) = false := by simp; omega
              have hfI2 : decide (few = 0) = false := decide_eq_false hf0
              have hfI3 : (few == 0) = false := by simp; exact hf0
              have hfI4 : decide ((few : Int) = 0) = false := decide_eq_false (by omega)
              have hse : ((st : Int) == (mm : Int) - 5) = true := by have := hend.resolve_left hf0; simp; omega
              clear hend
              go_wp2_with fail
              go_quiet ((go_at_call 23; with_reducible exact quiet_left (HDR.out (wd.drewN _) (below_drewN HBD.out _))))
              go_wp2
              go_ret
              exact ⟨rfl, HBW.out.trans ((below_drewN HBD.out _).mono HBW.out.size)⟩

theorem best15_raw (u : Int) (nss : List (List Int)) (A : Option Addr) (c' : Nat) (a b c f : Int) (w : World) (Al : Option Addr) (len cap : Nat) (z : Nat → Int) (hu : (Lit.int .u8 u).wf = true)
    (hx : nss.length ≤ 5864062014805) (m : ∀ j, (nss.getD j []).length * 2 ≤ 140737488351232) (hn : ∀ j i, (Lit.int .i16 ((nss.getD j []).getD i 0)).wf = true) (h : KRows .i16 w w.heap.size A nss)
    (wa : (Lit.int .u32 a).wf = true) (wb : (Lit.int .u32 b).wf = true) (wc : (Lit.int .u32 c).wf = true) (wf : (Lit.int .u32 f).wf = true) (hi : IsInts .u64 w Al len cap z) :
    Calls Try.prog 4 #[.agg #[.int .u8 u, .slice A nss.length c'], .agg #[.int .u32 a, .int .u32 b, .int .u32 c, .int .u32 f], .slice Al len cap] w fun e w' => e = .returned (.bool true) ∧ Below w.heap.size w w' := by
  obtain ⟨v, rfl, hv⟩ := u8_nat14 hu
  obtain ⟨n0, rfl, hn0⟩ := u32_of15 wa
  obtain ⟨n1, rfl, hn1⟩ := u32_of15 wb
  obtain ⟨n2, rfl, hn2⟩ := u32_of15 wc
  obtain ⟨n3, rfl, hn3⟩ := u32_of15 wf
  obtain ⟨ws, rfl, hcw, hk, hws⟩ := words_of15 hi
  exact best15_any v nss A c' n0 n1 n2 n3 ws Al cap w hv (by omega) (fun j => by have := m j; omega) (fun j k => by have := bounds_i16 (hn j k); omega) h hn0 hn1 hn2 hn3 hk hcw hws
end Go.Proofs.Ytllgepabjglnaaa
