/- The statement that walks whose drawn numbers agree are the same: the walk. -/
import Derived.Test.YtllgepabjglnaaaChosen15
import Derived.Test.YtllgepabjglnaaaOpenArr15
namespace Go.Proofs.Ytllgepabjglnaaa
open Go.RowKit
set_option linter.unusedVariables false
set_option linter.unusedSimpArgs false

set_option maxRecDepth 100000 in
set_option maxHeartbeats 16000000 in
theorem agrees15_any (v : Nat) (nss : List (List Int)) (A : Option Addr) (c : Nat) (n0 n1 n2 : Nat) (ws : List Nat) (Aw : Option Addr) (cw : Nat) (w : World) (hv : v ≤ 255)
    (hx : nss.length ≤ 140737488355328) (hl : ∀ j, (nss.getD j []).length ≤ 140737488355328) (hn : ∀ j k, -32768 ≤ (nss.getD j []).getD k 0 ∧ (nss.getD j []).getD k 0 ≤ 32767) (h : KRows .i16 w w.heap.size A nss)
    (hn0 : n0 < 4294967296) (hn1 : n1 < 4294967296) (hn2 : n2 < 4294967296) (hi : KInts .u64 w w.heap.size Aw (ws.map fun (x : Nat) => (x : Int))) (hcw : ws.length ≤ cw) (hws : ∀ x ∈ ws, x < 2 ^ 64) :
    Calls Try.prog 5 #[.agg #[.int .u8 v, .slice A nss.length c], .agg #[.int .u32 (n0 : Nat), .int .u32 (n1 : Nat), .int .u32 (n2 : Nat)], .slice Aw ws.length cw] w fun e w' => e = .returned (.bool true) ∧ Below w.heap.size w w' := by
  have H := Lib.hid h
  have HL := Lib.hid hl
  have HN := Lib.hid hn
  have HWI := Lib.hid (And.intro hi (And.intro hcw hws))
  clear h hl hn hi hcw hws
  go_enter Try.func5, Try.ntmps5
  go_wp2_with fail
  obtain ⟨w1, hw1⟩ : ∃ w1, w1 = (w.alloc (Obj.cells #[Value.int IntKind.u8 v, Value.slice A nss.length c] 24)).alloc (Obj.cells #[Value.int .u32 (n0 : Nat), Value.int .u32 (n1 : Nat), Value.int .u32 (n2 : Nat)] 26) := ⟨_, rfl⟩
  have HR1 := Lib.hid (show KRows .i16 w1 w.heap.size A nss by rw [hw1]; exact (H.out.alloc (Nat.le_refl _) _).alloc (by simp) _)
  have HB1 := Lib.hid (show Below w.heap.size w w1 by rw [hw1]; exact ((Below.refl _ _).alloc (Nat.le_refl _) _).alloc (by simp) _)
  have HK1 := Lib.hid (show Blk w1 w.heap.size 24 #[Value.int IntKind.u8 v, Value.slice A nss.length c] by rw [hw1]; exact (Blk.new w _ _).alloc _)
  have HQ1 := Lib.hid (show Blk w1 (w.heap.size + 1) 26 #[Value.int .u32 (n0 : Nat), Value.int .u32 (n1 : Nat), Value.int .u32 (n2 : Nat)] by rw [hw1]; exact blk_new14 (by simp))
  rw [← hw1]
  clear hw1
  refine (fit_any15 w1).mono ?_
  rintro e w2 ⟨rfl, hb2⟩
  have HR2 := Lib.hid (HR1.out.below (hb2.mono HB1.out.size))
  have HB2 := Lib.hid (HB1.out.trans (hb2.mono HB1.out.size))
  have HK2 := Lib.hid (HK1.out.below hb2 HK1.out.lt)
  have HQ2 := Lib.hid (HQ1.out.below hb2 HQ1.out.lt)
  clear hb2 HR1 HB1 HK1 HQ1
  have k0 := HK2.out.cell 0
  have k1 := HK2.out.cell 1
  simp at k0 k1
  go_wp2_with fail
  refine (light_any v nss _ A c 40 w2 (by omega) hx HL.out HR2.out HB2.out.size).mono ?_
  rintro e w3 ⟨rfl, hb3⟩
  have HR3 := Lib.hid (HR2.out.below (hb3.mono HB2.out.size))
  have HB3 := Lib.hid (HB2.out.trans (hb3.mono HB2.out.size))
  have HK3 := Lib.hid (HK2.out.below hb3 HK2.out.lt)
  have HQ3 := Lib.hid (HQ2.out.below hb3 HQ2.out.lt)
  clear hb3 HR2 HB2 HK2 HQ2 k0 k1
  have k0 := HK3.out.cell 0
  have k1 := HK3.out.cell 1
  simp at k0 k1
  rcases hlt : light nss 40 with _ | _
  · go_wp2
    go_ret
    exact ⟨rfl, HB3.out⟩
  · have hls := light_rows hlt
    have hF : v % (12 + 1) ≤ 12 := by omega
    have hFM := lightForm_rawW14 (F := v % (12 + 1)) (W := 6) (by omega) hlt
    clear hlt
    by_cases hlen : 60 < ws.length
    · have hlI : (60 : Int) < (ws.length : Int) := by omega
      go_wp2
      go_ret
      exact ⟨rfl, HB3.out⟩
    have hlI : decide ((60 : Int) < (ws.length : Int)) = false := decide_eq_false (by omega)
    have HWW : Hid (∀ W, Below w.heap.size w W → Words W w.heap.size Aw cw ws) := Lib.hid fun W hb => ⟨Cells.keep HWI.out.1 fun p hp => hb.cell hp, HWI.out.2.1, HWI.out.2.2, by omega⟩
    go_wp2_with fail
    refine (formula_any v nss _ A c 12 6 w3 hv (by omega) (by omega) hls.1 hls.2 HN.out HR3.out HB3.out.size).mono ?_
    obtain ⟨F, hFF⟩ : ∃ F, F = v % (12 + 1) := ⟨_, rfl⟩
    rw [← hFF] at hF hFM ⊢
    clear hFF
    obtain ⟨xss, hxs⟩ : ∃ xss, xss = rawForm F 6 nss := ⟨_, rfl⟩
    rw [← hxs] at hFM ⊢
    have HFM := Lib.hid hFM
    have hx1 := hFM.few
    rintro e w4 ⟨A4, c4, vs4, rfl, hown4, hlist4, hb4⟩
    have HB4 := Lib.hid (HB3.out.trans (hb4.mono HB3.out.size))
    have HQ4 := Lib.hid (HQ3.out.below hb4 HQ3.out.lt)
    have HRO4 := Lib.hid (hlist4.rows hown4)
    clear hFM hown4 hlist4 hb4 k0 k1 hxs HR3 HB3 HK3 hls HQ3 hlI
    have hqa := HQ4.out.alloc (Obj.cells #[Value.int IntKind.i64 F, Value.slice A4 xss.length c4] 32)
    have qa0 := hqa.cell 0
    have qa1 := hqa.cell 1
    have qa2 := hqa.cell 2
    simp at qa0 qa1 qa2
    clear hqa
    go_wp2_with fail
    obtain ⟨w5, hw5⟩ : ∃ w5, w5 = w4.alloc (Obj.cells #[Value.int IntKind.i64 F, Value.slice A4 xss.length c4] 32) := ⟨_, rfl⟩
    have HFB5 := Lib.hid (show Blk w5 w4.heap.size 32 #[Value.int IntKind.i64 F, Value.slice A4 xss.length c4] by rw [hw5]; exact Blk.new w4 _ _)
    have HRO5 := Lib.hid (show Rows w5 w4.heap.size A4 xss by rw [hw5]; exact HRO4.out.alloc (Nat.le_refl _) _)
    have HB5 := Lib.hid (show Below w.heap.size w w5 by rw [hw5]; exact HB4.out.alloc HB4.out.size _)
    have HQ5 := Lib.hid (show Blk w5 (w.heap.size + 1) 26 #[Value.int .u32 (n0 : Nat), Value.int .u32 (n1 : Nat), Value.int .u32 (n2 : Nat)] by rw [hw5]; exact HQ4.out.alloc _)
    have hs5 : w4.heap.size + 1 ≤ w5.heap.size := by rw [hw5]; simp
    have hs4 := HB4.out.size
    rw [← hw5]
    clear hw5 HRO4 HB4 HQ4 qa0 qa1 qa2
    refine (start_any F (n0 : Int) w5 (by omega) (by omega)).mono ?_
    rintro e w7 ⟨rfl, hk7, hb7⟩
    have HKA7 := Lib.hid hk7
    have HB57 := Lib.hid hb7
    have HFB7 := Lib.hid (HFB5.out.below hb7 HFB5.out.lt)
    have HRO7 := Lib.hid (HRO5.out.below (hb7.mono (by omega)))
    have HQ7 := Lib.hid (HQ5.out.below hb7 HQ5.out.lt)
    have hka := hk7.lt
    have hs7 := hb7.size
    clear hk7 hb7 HFB5 HRO5 HQ5
    have q0 := HQ7.out.cell 0
    have q1 := HQ7.out.cell 1
    have q2 := HQ7.out.cell 2
    simp at q0 q1 q2
    have e8 := wrap_u8_15 n1
    have e16 := wrap_u16_15 n2
    obtain ⟨kd, hkd⟩ : ∃ kd, n1 % 256 = kd := ⟨_, rfl⟩
    obtain ⟨nn, hnn⟩ : ∃ nn, n2 % 65536 = nn := ⟨_, rfl⟩
    have hkd2 : kd ≤ 255 := by omega
    have hnn2 : nn ≤ 65535 := by omega
    rw [hkd] at e8
    rw [hnn] at e16
    clear hkd hnn
    go_wp2_with fail
    refine (way_any15 kd nn hkd2 hnn2 w7).mono ?_
    rintro e w8 ⟨rfl, hb8⟩
    have hyok := wayOf_ok kd nn
    obtain ⟨y, hy⟩ : ∃ y, wayOf kd nn = y := ⟨_, rfl⟩
    rw [hy] at hyok ⊢
    have HY := Lib.hid hyok
    unfold wayV
    obtain ⟨k1, hk1⟩ : ∃ k1, y.kind = k1 := ⟨_, rfl⟩
    obtain ⟨k2, hk2⟩ : ∃ k2, y.base = k2 := ⟨_, rfl⟩
    obtain ⟨k3, hk3⟩ : ∃ k3, y.nz = k3 := ⟨_, rfl⟩
    have HKK := Lib.hid (And.intro hk1 (And.intro hk2 hk3))
    rw [hk1, hk2, hk3]
    have HWV : Hid (wayV y = .agg #[.int .i64 (k1 : Nat), .int .i64 (k2 : Nat), .int .i64 (k3 : Nat)]) := Lib.hid (by unfold wayV; rw [hk1, hk2, hk3])
    have HB8 := Lib.hid (HB57.out.trans (hb8.mono HB57.out.size))
    have HFB8 := Lib.hid (HFB7.out.below hb8 HFB7.out.lt)
    have HRO8 := Lib.hid (HRO7.out.below (hb8.mono (by omega)))
    have HKA8 := Lib.hid (show BlkB w8 w5.heap.size 4 (startZ F n0) from Blk.below HKA7.out hb8 hka)
    have hs8 := hb8.size
    clear hy hyok hk1 hk2 hk3 hb8 HFB7 HRO7 HKA7 HQ7 HB57 e8 e16 q0 q1 q2
    have hfa := HFB8.out.alloc (Obj.cells #[Value.int .i64 (k1 : Nat), Value.int .i64 (k2 : Nat), Value.int .i64 (k3 : Nat)] 41)
    have f0 := hfa.cell 0
    have f1 := hfa.cell 1
    simp at f0 f1
    clear hfa
    go_wp2_with fail
    obtain ⟨w9, hw9⟩ : ∃ w9, w9 = w8.alloc (Obj.cells #[Value.int .i64 (k1 : Nat), Value.int .i64 (k2 : Nat), Value.int .i64 (k3 : Nat)] 41) := ⟨_, rfl⟩
    have HYB9 := Lib.hid (show Blk w9 w8.heap.size 41 #[Value.int .i64 (k1 : Nat), Value.int .i64 (k2 : Nat), Value.int .i64 (k3 : Nat)] by rw [hw9]; exact Blk.new w8 _ _)
    have HB9 := Lib.hid (show Below w5.heap.size w5 w9 by rw [hw9]; exact HB8.out.alloc HB8.out.size _)
    have HFB9 := Lib.hid (show Blk w9 w4.heap.size 32 #[Value.int IntKind.i64 F, Value.slice A4 xss.length c4] by rw [hw9]; exact HFB8.out.alloc _)
    have HRO9 := Lib.hid (show Rows w9 w4.heap.size A4 xss by rw [hw9]; exact HRO8.out.alloc (by omega) _)
    have HKA9 := Lib.hid (show BlkB w9 w5.heap.size 4 (startZ F n0) by rw [hw9]; exact Blk.alloc HKA8.out _)
    have hs9 : w9.heap.size = w8.heap.size + 1 := by rw [hw9]; simp
    rw [← hw9]
    clear hw9 HB8 HFB8 HRO8 HKA8 f0 f1
    have hzl := startZ_len F (n0 : Int)
    have hnew := fun (W : World) (hb : Below w9.heap.size w9 W) => st_new F xss (startZ F n0) W.heap.size A4 (some ⟨w5.heap.size, 0, none⟩) c4 F W (by omega) HFM.out (Rows.more (HRO9.out.below (hb.mono (by omega))) (by have := hb.size; omega)) (by have := BlkB.bools (show BlkB W w5.heap.size 4 (startZ F n0) from Blk.below HKA9.out hb (by omega)); exact this) (Nat.le_refl _) hzl
    obtain ⟨z, hz⟩ : ∃ z, startZ F (n0 : Int) = z := ⟨_, rfl⟩
    rw [hz] at hnew hzl
    rw [hzl] at hnew
    have HNEW := Lib.hid hnew
    have HZL := Lib.hid hzl
    clear hnew hz hzl
    with_reducible refine (HNEW.out w9 (Below.refl _ _)).mono ?_
    rintro e w10 ⟨ρ1, g1, s0, rfl, hst1, hs0, hb10⟩
    subst hs0
    have HST1 := Lib.hid hst1
    have HB10 := Lib.hid hb10
    clear hst1 hb10
    have fb := HFB9.out.below HB10.out HFB9.out.lt
    have f0 := fb.cell 0
    have f1 := fb.cell 1
    simp at f0 f1
    clear fb
    go_wp2_with fail
    with_reducible refine (HNEW.out w10 HB10.out).mono ?_
    rintro e w11 ⟨ρ2, g2, s0, rfl, hst2, hs0, hb11⟩
    subst hs0
    have HST2 := Lib.hid hst2
    have HB11 := Lib.hid hb11
    have HS1b := Lib.hid (HST1.out.below hb11)
    clear hst2 hb11 f0 f1 HNEW
    have hs10 := HB10.out.size
    have hs11 := HB11.out.size
    -- the two streams
    have HW11 : Hid (∀ W, Below w11.heap.size w11 W → Words W w.heap.size Aw cw ws) := Lib.hid fun W hb => HWW.out W (((HB5.out.trans (HB9.out.mono HB5.out.size)).trans (HB10.out.mono (by omega))).trans ((HB11.out.trans (hb.mono hs11)).mono (by omega)))
    go_wp2_with fail
    refine (rng_new (HW11.out w11 (Below.refl _ _)) (by have := HB5.out.size; omega) 9 (by decide)).mono ?_
    rintro e w12 ⟨r1, rfl, hsr1, hb12⟩
    have HR1 := Lib.hid hsr1
    have HB12 := Lib.hid hb12
    have hs12 := hb12.size
    have hr1l := hsr1.low
    have hr1u := hsr1.lt
    clear hsr1 hb12
    go_wp2_with fail
    refine (rng_new (HW11.out w12 HB12.out) (by have := HB5.out.size; omega) 9 (by decide)).mono ?_
    rintro e w13 ⟨r2, rfl, hsr2, hb13⟩
    have HR2 := Lib.hid hsr2
    have HB13 := Lib.hid hb13
    have hs13 := hb13.size
    have hr2l := hsr2.low
    have hr2u := hsr2.lt
    have HR1b := Lib.hid (HR1.out.below hb13 hr1u)
    have HS1c := Lib.hid ((HS1b.out.below HB12.out).below hb13)
    have HS2c := Lib.hid ((HST2.out.below HB12.out).below hb13)
    clear hsr2 hb13 HW11
    have hf1 : ∀ q, ρ1 q ≠ 0 → q < w10.heap.size := HST1.out.fresh
    have hf2 : ∀ q, ρ2 q ≠ 0 → q < w11.heap.size := HST2.out.fresh
    have hl2 : ∀ q, ρ2 q ≠ 0 → w10.heap.size ≤ q := HST2.out.lo
    have HFF := Lib.hid (And.intro hf1 (And.intro hf2 hl2))
    obtain ⟨c0, hc0⟩ : ∃ c0 : Cfg, c0 = ⟨z, startLS z (normForm xss), ⟨ws, seedOf 9⟩⟩ := ⟨_, rfl⟩
    have hyb := ((((HYB9.out.below HB10.out HYB9.out.lt).below HB11.out (by have := HYB9.out.lt; omega)).below HB12.out (by have := HYB9.out.lt; omega)).below HB13.out (by have := HYB9.out.lt; omega))
    have hyl := HYB9.out.lt
    have HYB := Lib.hid hyb
    have HBE : Hid (Below w.heap.size w w13) := Lib.hid (((HB5.out.trans (HB9.out.mono HB5.out.size)).trans (HB10.out.mono (by have := HB5.out.size; omega))).trans ((HB11.out.trans ((HB12.out.trans (HB13.out.mono hs12)).mono hs11)).mono (by have := HB5.out.size; omega)))
    have HC0 := Lib.hid hc0
    -- the first walk
    have h1 := run_any15 (c := c0) (y := y) (Bs := w11.heap.size) (r := r1) (d := 0) 30 (by omega) (by rw [hc0]; exact HS1c.out) (Nat.zero_le _) (by rw [hc0]; exact HR1b.out) (Nat.zero_le _) (fun q hq => .inl (by have := hf1 q hq; omega)) HY.out
    rw [HWV.out] at h1
    have HRUN1 := Lib.hid h1
    have e0 := hyb.cell 0
    have e1 := hyb.cell 1
    have e2 := hyb.cell 2
    simp at e0 e1 e2
    clear h1 hyb hf1 hf2 hl2 hc0 HB9 HB10 HB11 HB12 HB13 HFB9 HRO9 HKA9 HST1 HST2 HS1b HR1
    go_wp2_with fail
    refine HRUN1.out.mono ?_
    rintro e w14 ⟨rfl, ρ1', b1, hp1, hfl1, _⟩
    have hsz14 := hp1.ft.size
    have HP1 := Lib.hid (And.intro hp1 hfl1)
    have HS2d := Lib.hid (HS2c.out.ft hp1.ft fun q hq e => by
      have := HFF.out.2.1 q hq
      have := HFF.out.2.2 q hq
      rcases e with e | e
      · have := HFF.out.1 q e; omega
      · omega)
    have HR2d := Lib.hid (HR2.out.ft hp1.ft fun q e => by
      rcases e with e | e
      · have := HFF.out.1 q e; omega
      · omega)
    have hyb := hp1.ft.blk HYB.out fun e => by
      rcases e with e | e
      · have := HS1c.out.lo _ e; omega
      · omega
    have HYB14 := Lib.hid hyb
    have h2 := run_any15 (c := c0) (y := y) (Bs := w12.heap.size) (r := r2) (d := 0) 11 (by omega) (by rw [HC0.out]; exact HS2d.out) (Nat.zero_le _) (by rw [HC0.out]; exact HR2d.out) (Nat.zero_le _) (fun q hq => .inl (by have := HFF.out.2.1 q hq; omega)) HY.out
    rw [HWV.out] at h2
    have HRUN2 := Lib.hid h2
    have hle11 := runF_le y (Int.toNat 11) c0
    have HLE11 := Lib.hid hle11
    have hle30 := runF_le y (Int.toNat 30) c0
    obtain ⟨m30, hm30⟩ : ∃ m30, (runF y (Int.toNat 30) c0).1 = m30 := ⟨_, rfl⟩
    have HM30 := Lib.hid hm30
    rw [hm30] at hle30 ⊢
    have hle30 : m30 ≤ 30 := hle30
    clear hp1 hfl1 hyb h2 e0 e1 e2 HRUN1 hm30
    have e0 := HYB14.out.cell 0
    have e1 := HYB14.out.cell 1
    have e2 := HYB14.out.cell 2
    simp at e0 e1 e2
    go_wp2_with fail
    refine HRUN2.out.mono ?_
    rintro e w15 ⟨rfl, ρ2', b2, hp2, hfl2, _⟩
    have hsz15 := hp2.ft.size
    have HP2 := Lib.hid (And.intro hp2 hfl2)
    have hS1e := HP1.out.1.st.ft hp2.ft fun q hq e => by
      rcases Nat.lt_or_ge q w13.heap.size with hl | hl
      · rw [HP1.out.1.part q hl] at hq
        have := HFF.out.1 q hq
        rcases e with e | e
        · have := HFF.out.2.2 q e; omega
        · omega
      · rcases e with e | e
        · have := HFF.out.2.1 q e; omega
        · omega
    have HS1e := Lib.hid hS1e
    have HR1e := Lib.hid (HP1.out.1.sm.ft hp2.ft fun q e => by
      rcases e with e | e
      · have := HFF.out.2.1 q e; exact .inl this
      · exact .inr (by omega))
    have hyb := hp2.ft.blk HYB14.out fun e => by
      rcases e with e | e
      · have := HS2c.out.lo _ e; omega
      · omega
    have HYB15 := Lib.hid hyb
    have hdr11 := runF_draws y (Int.toNat 11) c0
    have h3 := run_any15 (c := (runF y (Int.toNat 11) c0).2.2) (y := y) (Bs := w12.heap.size) (r := r2) (d := 0 + (runF y (Int.toNat 11) c0).2.1) 19 (by omega) hp2.st (by have : (11 : Int).toNat = 11 := rfl; omega) hp2.sm (by have : (11 : Int).toNat = 11 := rfl; omega) hp2.dj HY.out
    rw [HWV.out] at h3
    have HRUN3 := Lib.hid h3
    obtain ⟨m11, hm11⟩ : ∃ m11, (runF y (Int.toNat 11) c0).1 = m11 := ⟨_, rfl⟩
    have HM11 := Lib.hid hm11
    rw [hm11] at hle11 ⊢
    have hle11 : m11 ≤ 11 := hle11
    clear hp2 hfl2 hyb h3 e0 e1 e2 HRUN2 hm11 hdr11 hS1e
    have e0 := HYB15.out.cell 0
    have e1 := HYB15.out.cell 1
    have e2 := HYB15.out.cell 2
    simp at e0 e1 e2
    have hle19 := runF_le y (Int.toNat 19) (runF y (Int.toNat 11) c0).2.2
    obtain ⟨m19, hm19⟩ : ∃ m19, (runF y (Int.toNat 19) (runF y (Int.toNat 11) c0).2.2).1 = m19 := ⟨_, rfl⟩
    have HM19 := Lib.hid hm19
    rw [hm19] at hle19
    have hle19 : m19 ≤ 19 := hle19
    have hadd := runF_add y 11 19 c0
    have HADD := Lib.hid hadd
    have hsum : m30 = m11 + m19 := by
      rw [← HM30.out, ← HM11.out, ← HM19.out]
      show (runF y (11 + 19) c0).1 = _
      rw [hadd]
      rfl
    clear hadd
    go_wp2_with fail
    refine HRUN3.out.mono ?_
    rintro e w16 ⟨rfl, ρ2'', b3, hp3, hfl3, _⟩
    rw [hm19]
    have hsz16 := hp3.ft.size
    have HP3 := Lib.hid hp3
    have HS1f := Lib.hid (HS1e.out.ft hp3.ft fun q hq e => by
      rcases e with e | e
      · rcases Nat.lt_or_ge q w14.heap.size with hl | hl
        · rw [HP2.out.1.part q hl] at e
          have h1 := HFF.out.2.1 q e
          have h2 := HFF.out.2.2 q e
          rw [HP1.out.1.part q (by omega)] at hq
          have := HFF.out.1 q hq
          omega
        · have := HP1.out.1.st.fresh q hq; omega
      · rw [e, HP1.out.1.part r2 (by omega)] at hq
        have := HFF.out.1 _ hq
        omega)
    have HR1f := Lib.hid (HR1e.out.ft hp3.ft fun q e => by
      rcases e with e | e
      · rcases Nat.lt_or_ge q w14.heap.size with hl | hl
        · rw [HP2.out.1.part q hl] at e
          have h1 := HFF.out.2.1 q e
          exact .inl h1
        · exact .inr (by omega)
      · exact .inr (by omega))
    have HYB16 := Lib.hid (hp3.ft.blk HYB15.out fun e => by
      rcases e with e | e
      · have := HP2.out.1.st.lo _ e; omega
      · omega)
    -- what both come to
    have hcfg : (runF y (Int.toNat 19) (runF y (Int.toNat 11) c0).2.2).2.2 = (runF y (Int.toNat 30) c0).2.2 := by
      show (runF y 19 (runF y 11 c0).2.2).2.2 = (runF y (11 + 19) c0).2.2
      rw [HADD.out]
    have hdrw : (runF y (Int.toNat 11) c0).2.1 + (runF y (Int.toNat 19) (runF y (Int.toNat 11) c0).2.2).2.1 = (runF y (Int.toNat 30) c0).2.1 := by
      show (runF y 11 c0).2.1 + (runF y 19 (runF y 11 c0).2.2).2.1 = (runF y (11 + 19) c0).2.1
      rw [HADD.out]
    obtain ⟨cE, hcE⟩ : ∃ cE, (runF y (Int.toNat 30) c0).2.2 = cE := ⟨_, rfl⟩
    obtain ⟨dE, hdE⟩ : ∃ dE, (runF y (Int.toNat 30) c0).2.1 = dE := ⟨_, rfl⟩
    have hT := hp3.st
    have hTR := hp3.sm
    rw [Nat.zero_add, hcfg, hdrw, hdE, hcE] at hTR
    rw [hcfg, hcE] at hT
    have hS := HS1f.out
    have hSR := HR1f.out
    rw [hcE] at hS hSR
    rw [Nat.zero_add, hdE] at hSR
    have hdEb : dE ≤ 90 := by
      have := (runF_draws y (Int.toNat 30) c0).2
      have h30 := runF_le y (Int.toNat 30) c0
      rw [hdE] at this
      have : (30 : Int).toNat = 30 := rfl
      omega
    have hstop := runF_stop y (Int.toNat 30) c0
    rw [hcE, HM30.out] at hstop
    have hstop : m30 = 30 ∨ cE.s.row = [] := hstop
    have hzE : cE.z.length = F := by
      rw [← hcE, runF_len, HC0.out]
      exact HZL.out
    have HE := Lib.hid (And.intro hS (And.intro hT (And.intro hSR (And.intro hTR (And.intro hstop hzE)))))
    have hf1b : b1.flips ≤ 30 := by have := HP1.out.2; rw [HM30.out] at this; simpa using (by omega : b1.flips ≤ 30)
    have HFL1 := Lib.hid hf1b
    have hfr1 : ∀ q, ρ1' q ≠ 0 → q < w11.heap.size ∨ r1 < q := HP1.out.1.dj
    have HDJ1 := Lib.hid hfr1
    have hwB := HB5.out.size
    have HBE16 : Hid (Below w.heap.size w w16) := Lib.hid (((HBE.out.trans (HP1.out.1.ft.below (by omega) fun q hq => by
      rcases hq with e | e
      · have := HS1c.out.lo q e; omega
      · omega)).trans (HP2.out.1.ft.below (by omega) fun q hq => by
      rcases hq with e | e
      · have := HS2c.out.lo q e; omega
      · omega)).trans (hp3.ft.below (by omega) fun q hq => by
      rcases hq with e | e
      · have := HP2.out.1.st.lo q e; omega
      · omega))
    have has := st_assign hS
    have hat := fun (W : World) (hb : Below w16.heap.size w16 W) => st_assign (hT.below hb)
    rw [hzE] at has
    simp only [hzE] at hat
    have HAS := Lib.hid has
    have HAT := Lib.hid hat
    clear hp3 hfl3 hS hT hSR hTR has hat hcfg hdrw hstop hf1b hfr1 e0 e1 e2 HRUN3 hm19 hcE hdE HADD HP1 HP2 HP3 HS1c HS2c HR1b HR2 HS2d HR2d HYB HYB14 HYB15 HS1e HR1e HS1f HR1f HFF
    go_wp2_with fail
    refine HAS.out.mono ?_
    rintro e w17 ⟨Ax, cx, rfl, hox, hb17⟩
    have HOX := Lib.hid (And.intro hox hb17)
    clear hox hb17
    go_wp2_with fail
    refine (HAT.out w17 HOX.out.2).mono ?_
    rintro e w18 ⟨Ay, cy, rfl, hoy, hb18⟩
    have hbx := own_below HOX.out.1 hb18 fun q hq => (HOX.out.1.lt q hq).2
    have hb1618 := HOX.out.2.trans (hb18.mono HOX.out.2.size)
    have HXY := Lib.hid (And.intro hbx (And.intro hoy hb1618))
    have hs18 := hb1618.size
    clear hoy hb18 hbx hb1618 HAS HAT HOX
    go_wp2
    go_loopg [95] (F + 1) (fun gk ti wr => ∃ (j nq : Nat), wr = w18.drewN nq ∧ j ≤ F ∧ gk = F - j + 1 ∧ ti = .int .i64 (j : Nat))
    case atStart => exact ⟨0, 0, rfl, by omega, by omega, rfl⟩
    case round =>
      obtain ⟨j, nq, rfl, hj, rfl, rfl⟩ := hrel
      by_cases hlt : j < F
      · obtain ⟨gx, eX, _, _⟩ := own_addr HXY.out.1 (by omega)
        obtain ⟨gy, eY, _, _⟩ := own_addr HXY.out.2.1 (by omega)
        have cxj := HXY.out.1
        have cyj := HXY.out.2.1
        rw [eX] at cxj
        rw [eY] at cyj
        have cxj := World.ownsRow.cellAt cxj j (by omega)
        have cyj := World.ownsRow.cellAt cyj j (by omega)
        have hzj : (cE.z.map Value.bool)[j]? = some (.bool (cE.z.getD j false)) := by simp [List.getD, show j < cE.z.length by rw [HE.out.2.2.2.2.2]; exact hlt]
        rw [hzj] at cxj cyj
        obtain ⟨b, hb⟩ : ∃ b, cE.z.getD j false = b := ⟨_, rfl⟩
        rw [hb] at cxj cyj
        have hjF : (j : Int) < (F : Int) := by omega
        have hjG : decide ((F : Int) ≤ (j : Int)) = false := decide_eq_false (by omega)
        have hbb : (b != b) = false := by cases b <;> rfl
        subst eX eY
        clear hzj hb
        go_wp2_with fail
        go_quiet (fail)
        go_wp2
        go_roundg (F - j)
        case measure => omega
        case rel => exact ⟨j + 1, _, rfl, by omega, by omega, by go_num⟩
      · have hjF : F = j := by omega
        subst hjF
        obtain ⟨wy, hwy⟩ : ∃ wy, wy = w18.drewN nq := ⟨_, rfl⟩
        have hb16y : Below w16.heap.size w16 wy := by rw [hwy]; exact below_drewN HXY.out.2.2 nq
        rw [← hwy]
        clear hwy
        have HSy := Lib.hid (HE.out.1.below hb16y)
        have HUS := Lib.hid (st_unsat HSy.out)
        have HUT := Lib.hid (st_unsat (HE.out.2.1.below hb16y))
        have HR1y := Lib.hid (HE.out.2.2.1.below hb16y HE.out.2.2.1.lt)
        have HD1 := Lib.hid (rng_drawn HR1y.out)
        have HD2 := Lib.hid (rng_drawn (HE.out.2.2.2.1.below hb16y HE.out.2.2.2.1.lt))
        have hrun := run_any15 (c := cE) (y := y) (Bs := w11.heap.size) (r := r1) (d := dE) (-5) (by omega) HSy.out (by have := HFL1.out; omega) HR1y.out (by omega) HDJ1.out HY.out
        rw [HWV.out] at hrun
        have h05 : (runF y (Int.toNat (-5)) cE).1 = 0 := rfl
        rw [h05] at hrun
        have HRUN := Lib.hid hrun
        have hyb := HYB16.out.below hb16y HYB16.out.lt
        have e0 := hyb.cell 0
        have e1 := hyb.cell 1
        have e2 := hyb.cell 2
        simp at e0 e1 e2
        have HSTOP : Hid (m30 = 30 ∨ cE.s.row.length = 0) := Lib.hid (HE.out.2.2.2.2.1.elim .inl fun e => .inr (by rw [e]; rfl))
        have HBY := Lib.hid (HBE16.out.trans (hb16y.mono (by omega)))
        have HLO := Lib.hid (show (∀ q, ρ1' q ≠ 0 → w.heap.size ≤ q) ∧ w.heap.size ≤ wy.heap.size ∧ w.heap.size ≤ r1 from ⟨fun q hq => by have := HSy.out.lo q hq; omega, by have := hb16y.size; omega, by omega⟩)
        obtain ⟨R, hR⟩ : ∃ R, cE.s.row.length = R := ⟨_, rfl⟩
        rw [hR] at HUS HUT HSTOP
        have hsumI : ((m30 : Int) == (m11 : Int) + (m19 : Int)) = true := by simp; omega
        clear hyb hb16y hrun h05 hR hlt hj
        go_wp2_with fail
        refine HD1.out.mono ?_
        rintro e wz ⟨rfl, rfl⟩
        go_wp2_with fail
        refine HD2.out.mono ?_
        rintro e wz ⟨rfl, rfl⟩
        go_wp2_with fail
        refine HUS.out.mono ?_
        rintro e wz ⟨rfl, rfl⟩
        go_wp2_with fail
        refine HUT.out.mono ?_
        rintro e wz ⟨rfl, rfl⟩
        by_cases h30 : m30 = 30
        · have h30I : ((m30 : Int) == 30) = true := by simp; omega
          go_wp2_with fail
          refine HRUN.out.mono ?_
          rintro e wz ⟨rfl, ρ9, b9, hp9, _, _⟩
          have HBZ := Lib.hid (HBY.out.trans (hp9.ft.below HLO.out.2.1 fun q hq => by
            rcases hq with e | e
            · exact HLO.out.1 q e
            · have := HLO.out.2.2; omega))
          clear hp9
          go_wp2
          go_ret
          exact ⟨rfl, HBZ.out⟩
        · have hR0 : R = 0 := HSTOP.out.resolve_left h30
          have h30I : ((m30 : Int) == 30) = false := by simp; omega
          subst hR0
          go_wp2_with fail
          refine HUS.out.mono ?_
          rintro e wz ⟨rfl, rfl⟩
          go_wp2_with fail
          refine HRUN.out.mono ?_
          rintro e wz ⟨rfl, ρ9, b9, hp9, _, _⟩
          have HBZ := Lib.hid (HBY.out.trans (hp9.ft.below HLO.out.2.1 fun q hq => by
            rcases hq with e | e
            · exact HLO.out.1 q e
            · have := HLO.out.2.2; omega))
          clear hp9
          go_wp2
          go_ret
          exact ⟨rfl, HBZ.out⟩

theorem agrees15_raw (u : Int) (nss : List (List Int)) (A : Option Addr) (c' : Nat) (a b c : Int) (w : World) (Al : Option Addr) (len cap : Nat) (z : Nat → Int) (hu : (Lit.int .u8 u).wf = true)
    (hx : nss.length ≤ 5864062014805) (m : ∀ j, (nss.getD j []).length * 2 ≤ 140737488351232) (hn : ∀ j i, (Lit.int .i16 ((nss.getD j []).getD i 0)).wf = true) (h : KRows .i16 w w.heap.size A nss)
    (wa : (Lit.int .u32 a).wf = true) (wb : (Lit.int .u32 b).wf = true) (wc : (Lit.int .u32 c).wf = true) (hi : IsInts .u64 w Al len cap z) :
    Calls Try.prog 5 #[.agg #[.int .u8 u, .slice A nss.length c'], .agg #[.int .u32 a, .int .u32 b, .int .u32 c], .slice Al len cap] w fun e w' => e = .returned (.bool true) ∧ Below w.heap.size w w' := by
  obtain ⟨v, rfl, hv⟩ := u8_nat14 hu
  obtain ⟨n0, rfl, hn0⟩ := u32_of15 wa
  obtain ⟨n1, rfl, hn1⟩ := u32_of15 wb
  obtain ⟨n2, rfl, hn2⟩ := u32_of15 wc
  obtain ⟨ws, rfl, hcw, hk, hws⟩ := words_of15 hi
  exact agrees15_any v nss A c' n0 n1 n2 ws Al cap w hv (by omega) (fun j => by have := m j; omega) (fun j k => by have := bounds_i16 (hn j k); omega) h hn0 hn1 hn2 hk hcw hws
end Go.Proofs.Ytllgepabjglnaaa
