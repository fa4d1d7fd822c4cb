/- The statement on single steps: the walk. -/
import Derived.Test.YtllgepabjglnaaaChosen15
import Derived.Test.YtllgepabjglnaaaOpenArr15
import Derived.Deep.RegionHeld3
import Derived.BigQuiet
namespace Go.Proofs.Ytllgepabjglnaaa
open Go.RowKit
set_option linter.unusedVariables false
set_option linter.unusedSimpArgs false

/-- what stands between the rounds -/
structure Stp15 (w0 w : World) (ρ : Nat → Nat) (f a B8 yb Bs1 Bs2 g r1 r2 F : Nat) (A4 : Option Addr) (c4 : Nat) (xss : List (List Int)) (y : Wy) (k1 k2 k3 : Nat) (c : Cfg) (d : Nat) (b : BS) : Prop where
  st : St14 w B8 ρ g c.z (normForm xss) c.s b
  s1 : Strm w Bs1 r1 c.g.ws c.g.last d
  s2 : Strm w Bs2 r2 c.g.ws c.g.last d
  dj : ∀ q, ρ q ≠ 0 → q < Bs1 ∨ r2 < q
  bz : BlkB w a 4 c.z
  fb : Blk w f 32 #[Value.int IntKind.i64 F, Value.slice A4 xss.length c4]
  ro : Rows w f A4 xss
  yk : Blk w yb 41 #[Value.int .i64 (k1 : Nat), Value.int .i64 (k2 : Nat), Value.int .i64 (k3 : Nat)]
  ft : Ft (fun q => a ≤ q) w0 w
  sz : w0.heap.size ≤ w.heap.size
  or_ : r1 < Bs2 ∧ Bs1 ≤ r1 ∧ Bs2 ≤ r2 ∧ yb < Bs1 ∧ B8 ≤ yb ∧ f < a ∧ a < B8
  zl : c.z.length = F
  yr : ρ yb = 0
theorem stepV_bd (y : Wy) {c : Cfg} (hg : c.s.Good c.z.length) : 0 ≤ (stepV y c).1 ∧ (stepV y c).1 ≤ c.z.length := by
  unfold stepV
  split
  · exact ⟨Int.le_refl _, by show (0 : Int) ≤ _; omega⟩
  · split
    · exact ⟨Int.le_refl _, by show (0 : Int) ≤ _; omega⟩
    · rename_i h1 h2
      have hlt := chooseF_lt y (bs := breaksOf c.s c.z.length c.clause) (by
        rw [breaksOf_len]
        rcases Nat.eq_zero_or_pos c.clause.length with h | h
        · exact absurd (List.eq_nil_of_length_eq_zero h) h2
        · exact h) c.g.after
      rw [breaksOf_len] at hlt
      have hl := hg.lits (c.s.row.getD (c.g.next % c.s.row.length) 0) (c.clause.getD (chooseF y (breaksOf c.s c.z.length c.clause) c.g.after).1 0) (by
        show _ ∈ c.clause
        simp only [List.getD, List.getElem?_eq_getElem hlt, Option.getD_some]
        exact List.getElem_mem hlt)
      show 0 ≤ litVar _ ∧ litVar _ ≤ _
      refine ⟨litVar_nonneg _, ?_⟩
      obtain ⟨x, hx⟩ : ∃ x, c.clause.getD (chooseF y (breaksOf c.s c.z.length c.clause) c.g.after).1 0 = x := ⟨_, rfl⟩
      rw [hx] at hl ⊢
      unfold litVar
      split <;> omega
theorem Stp15.below {w0 w w' : World} {ρ : Nat → Nat} {f a B8 yb Bs1 Bs2 g r1 r2 F : Nat} {A4 : Option Addr} {c4 : Nat} {xss : List (List Int)} {y : Wy} {k1 k2 k3 : Nat} {c : Cfg} {d : Nat} {b : BS} (h : Stp15 w0 w ρ f a B8 yb Bs1 Bs2 g r1 r2 F A4 c4 xss y k1 k2 k3 c d b) (hb : Below w.heap.size w w') : Stp15 w0 w' ρ f a B8 yb Bs1 Bs2 g r1 r2 F A4 c4 xss y k1 k2 k3 c d b :=
  ⟨h.st.below hb, h.s1.below hb h.s1.lt, h.s2.below hb h.s2.lt, h.dj, Blk.below h.bz hb h.bz.lt, h.fb.below hb h.fb.lt, Rows.keep h.ro fun p hp => hb.cell (by have := h.fb.lt; omega), h.yk.below hb h.yk.lt, h.ft.low hb, Nat.le_trans h.sz hb.size, h.or_, h.zl, h.yr⟩

set_option maxRecDepth 100000 in
set_option maxHeartbeats 16000000 in
theorem steps15_any (v : Nat) (nss : List (List Int)) (A : Option Addr) (c : Nat) (n0 n1 n2 : Nat) (ws : List Nat) (Aw : Option Addr) (cw : Nat) (w : World) (hv : v ≤ 255)
    (hx : nss.length ≤ 140737488355328) (hl : ∀ j, (nss.getD j []).length ≤ 140737488355328) (hn : ∀ j k, -32768 ≤ (nss.getD j []).getD k 0 ∧ (nss.getD j []).getD k 0 ≤ 32767) (h : KRows .i16 w w.heap.size A nss)
    (hn0 : n0 < 4294967296) (hn1 : n1 < 4294967296) (hn2 : n2 < 4294967296) (hi : KInts .u64 w w.heap.size Aw (ws.map fun (x : Nat) => (x : Int))) (hcw : ws.length ≤ cw) (hws : ∀ x ∈ ws, x < 2 ^ 64) :
    Calls Try.prog 3 #[.agg #[.int .u8 v, .slice A nss.length c], .agg #[.int .u32 (n0 : Nat), .int .u32 (n1 : Nat), .int .u32 (n2 : Nat)], .slice Aw ws.length cw] w fun e w' => e = .returned (.bool true) ∧ Below w.heap.size w w' := by
  have H := Lib.hid h
  have HL := Lib.hid hl
  have HN := Lib.hid hn
  have HWI := Lib.hid (And.intro hi (And.intro hcw hws))
  clear h hl hn hi hcw hws
  go_enter Try.func3, Try.ntmps3
  go_wp2_with fail
  obtain ⟨w1, hw1⟩ : ∃ w1, w1 = (w.alloc (Obj.cells #[Value.int IntKind.u8 v, Value.slice A nss.length c] 24)).alloc (Obj.cells #[Value.int .u32 (n0 : Nat), Value.int .u32 (n1 : Nat), Value.int .u32 (n2 : Nat)] 26) := ⟨_, rfl⟩
  have HR1 := Lib.hid (show KRows .i16 w1 w.heap.size A nss by rw [hw1]; exact (H.out.alloc (Nat.le_refl _) _).alloc (by simp) _)
  have HB1 := Lib.hid (show Below w.heap.size w w1 by rw [hw1]; exact ((Below.refl _ _).alloc (Nat.le_refl _) _).alloc (by simp) _)
  have HK1 := Lib.hid (show Blk w1 w.heap.size 24 #[Value.int IntKind.u8 v, Value.slice A nss.length c] by rw [hw1]; exact (Blk.new w _ _).alloc _)
  have HQ1 := Lib.hid (show Blk w1 (w.heap.size + 1) 26 #[Value.int .u32 (n0 : Nat), Value.int .u32 (n1 : Nat), Value.int .u32 (n2 : Nat)] by rw [hw1]; exact blk_new14 (by simp))
  rw [← hw1]
  clear hw1
  refine (fit_any15 w1).mono ?_
  rintro e w2 ⟨rfl, hb2⟩
  have HR2 := Lib.hid (HR1.out.below (hb2.mono HB1.out.size))
  have HB2 := Lib.hid (HB1.out.trans (hb2.mono HB1.out.size))
  have HK2 := Lib.hid (HK1.out.below hb2 HK1.out.lt)
  have HQ2 := Lib.hid (HQ1.out.below hb2 HQ1.out.lt)
  clear hb2 HR1 HB1 HK1 HQ1
  have k0 := HK2.out.cell 0
  have k1 := HK2.out.cell 1
  simp at k0 k1
  go_wp2_with fail
  refine (light_any v nss _ A c 40 w2 (by omega) hx HL.out HR2.out HB2.out.size).mono ?_
  rintro e w3 ⟨rfl, hb3⟩
  have HR3 := Lib.hid (HR2.out.below (hb3.mono HB2.out.size))
  have HB3 := Lib.hid (HB2.out.trans (hb3.mono HB2.out.size))
  have HK3 := Lib.hid (HK2.out.below hb3 HK2.out.lt)
  have HQ3 := Lib.hid (HQ2.out.below hb3 HQ2.out.lt)
  clear hb3 HR2 HB2 HK2 HQ2 k0 k1
  have k0 := HK3.out.cell 0
  have k1 := HK3.out.cell 1
  simp at k0 k1
  rcases hlt : light nss 40 with _ | _
  · go_wp2
    go_ret
    exact ⟨rfl, HB3.out⟩
  · have hls := light_rows hlt
    have hF : v % (12 + 1) ≤ 12 := by omega
    have hFM := lightForm_rawW14 (F := v % (12 + 1)) (W := 6) (by omega) hlt
    clear hlt
    by_cases hlen : 60 < ws.length
    · have hlI : (60 : Int) < (ws.length : Int) := by omega
      go_wp2
      go_ret
      exact ⟨rfl, HB3.out⟩
    have hlI : decide ((60 : Int) < (ws.length : Int)) = false := decide_eq_false (by omega)
    have HWW : Hid (∀ W, Below w.heap.size w W → Words W w.heap.size Aw cw ws) := Lib.hid fun W hb => ⟨Cells.keep HWI.out.1 fun p hp => hb.cell hp, HWI.out.2.1, HWI.out.2.2, by omega⟩
    go_wp2_with fail
    refine (formula_any v nss _ A c 12 6 w3 hv (by omega) (by omega) hls.1 hls.2 HN.out HR3.out HB3.out.size).mono ?_
    obtain ⟨F, hFF⟩ : ∃ F, F = v % (12 + 1) := ⟨_, rfl⟩
    rw [← hFF] at hF hFM ⊢
    clear hFF
    obtain ⟨xss, hxs⟩ : ∃ xss, xss = rawForm F 6 nss := ⟨_, rfl⟩
    rw [← hxs] at hFM ⊢
    have HFM := Lib.hid hFM
    have hx1 := hFM.few
    rintro e w4 ⟨A4, c4, vs4, rfl, hown4, hlist4, hb4⟩
    have HB4 := Lib.hid (HB3.out.trans (hb4.mono HB3.out.size))
    have HQ4 := Lib.hid (HQ3.out.below hb4 HQ3.out.lt)
    have HRO4 := Lib.hid (hlist4.rows hown4)
    clear hFM hown4 hlist4 hb4 k0 k1 hxs HR3 HB3 HK3 hls HQ3 hlI
    have hqa := HQ4.out.alloc (Obj.cells #[Value.int IntKind.i64 F, Value.slice A4 xss.length c4] 32)
    have qa0 := hqa.cell 0
    have qa1 := hqa.cell 1
    have qa2 := hqa.cell 2
    simp at qa0 qa1 qa2
    clear hqa
    go_wp2_with fail
    obtain ⟨w5, hw5⟩ : ∃ w5, w5 = w4.alloc (Obj.cells #[Value.int IntKind.i64 F, Value.slice A4 xss.length c4] 32) := ⟨_, rfl⟩
    have HFB5 := Lib.hid (show Blk w5 w4.heap.size 32 #[Value.int IntKind.i64 F, Value.slice A4 xss.length c4] by rw [hw5]; exact Blk.new w4 _ _)
    have HRO5 := Lib.hid (show Rows w5 w4.heap.size A4 xss by rw [hw5]; exact HRO4.out.alloc (Nat.le_refl _) _)
    have HB5 := Lib.hid (show Below w.heap.size w w5 by rw [hw5]; exact HB4.out.alloc HB4.out.size _)
    have HQ5 := Lib.hid (show Blk w5 (w.heap.size + 1) 26 #[Value.int .u32 (n0 : Nat), Value.int .u32 (n1 : Nat), Value.int .u32 (n2 : Nat)] by rw [hw5]; exact HQ4.out.alloc _)
    have hs5 : w4.heap.size + 1 ≤ w5.heap.size := by rw [hw5]; simp
    have hs4 := HB4.out.size
    rw [← hw5]
    clear hw5 HRO4 HB4 HQ4 qa0 qa1 qa2
    refine (start_any F (n0 : Int) w5 (by omega) (by omega)).mono ?_
    rintro e w7 ⟨rfl, hk7, hb7⟩
    have HKA7 := Lib.hid hk7
    have HB57 := Lib.hid hb7
    have HFB7 := Lib.hid (HFB5.out.below hb7 HFB5.out.lt)
    have HRO7 := Lib.hid (HRO5.out.below (hb7.mono (by omega)))
    have HQ7 := Lib.hid (HQ5.out.below hb7 HQ5.out.lt)
    have hka := hk7.lt
    have hs7 := hb7.size
    clear hk7 hb7 HFB5 HRO5 HQ5
    have hfa := HFB7.out
    have f0 := hfa.cell 0
    have f1 := hfa.cell 1
    simp at f0 f1
    clear hfa
    have hzl := startZ_len F (n0 : Int)
    have hnew := st_new F xss (startZ F n0) w7.heap.size A4 (some ⟨w5.heap.size, 0, none⟩) c4 F w7 (by omega) HFM.out (Rows.more HRO7.out (by omega)) (by have := HKA7.out.bools; exact this) (Nat.le_refl _) hzl
    rw [hzl] at hnew
    go_wp2_with fail
    refine hnew.mono ?_
    rintro e w8 ⟨ρ0, g, s0, rfl, hst, hs0, hb8⟩
    subst hs0
    have HST8 := Lib.hid hst
    have hs8 := hb8.size
    have HB8 := Lib.hid (HB57.out.trans (hb8.mono HB57.out.size))
    have HKA8 := Lib.hid (show BlkB w8 w5.heap.size 4 (startZ F n0) from Blk.below HKA7.out hb8 hka)
    have HFB8 := Lib.hid (HFB7.out.below hb8 HFB7.out.lt)
    have HRO8 := Lib.hid (HRO7.out.below (hb8.mono (by omega)))
    have HQ8 := Lib.hid (HQ7.out.below hb8 HQ7.out.lt)
    clear hst hb8 hnew HKA7 HB57 HFB7 HRO7 HQ7 f0 f1
    have hqw := HQ8.out
    have q0 := HQ8.out.cell 0
    have q1 := HQ8.out.cell 1
    have q2 := HQ8.out.cell 2
    simp at q0 q1 q2
    clear hqw
    have e8 := wrap_u8_15 n1
    have e16 := wrap_u16_15 n2
    obtain ⟨kd, hkd⟩ : ∃ kd, n1 % 256 = kd := ⟨_, rfl⟩
    obtain ⟨nn, hnn⟩ : ∃ nn, n2 % 65536 = nn := ⟨_, rfl⟩
    have hkd2 : kd ≤ 255 := by omega
    have hnn2 : nn ≤ 65535 := by omega
    rw [hkd] at e8
    rw [hnn] at e16
    clear hkd hnn
    go_wp2_with fail
    refine (way_any15 kd nn hkd2 hnn2 w8).mono ?_
    rintro e w9 ⟨rfl, hb9⟩
    have hyok := wayOf_ok kd nn
    obtain ⟨y, hy⟩ : ∃ y, wayOf kd nn = y := ⟨_, rfl⟩
    rw [hy] at hyok ⊢
    have HY := Lib.hid hyok
    unfold wayV
    obtain ⟨k1, hk1⟩ : ∃ k1, y.kind = k1 := ⟨_, rfl⟩
    obtain ⟨k2, hk2⟩ : ∃ k2, y.base = k2 := ⟨_, rfl⟩
    obtain ⟨k3, hk3⟩ : ∃ k3, y.nz = k3 := ⟨_, rfl⟩
    rw [hk1, hk2, hk3]
    have HWV : Hid (wayV y = .agg #[.int .i64 (k1 : Nat), .int .i64 (k2 : Nat), .int .i64 (k3 : Nat)]) := Lib.hid (by unfold wayV; rw [hk1, hk2, hk3])
    have HST9 := Lib.hid (HST8.out.below hb9)
    have HB9 := Lib.hid (HB8.out.trans (hb9.mono HB8.out.size))
    have HKA9 := Lib.hid (show BlkB w9 w5.heap.size 4 (startZ F n0) from Blk.below HKA8.out hb9 (by omega))
    have HFB9 := Lib.hid (HFB8.out.below hb9 HFB8.out.lt)
    have HRO9 := Lib.hid (HRO8.out.below (hb9.mono (by omega)))
    have hs9 := hb9.size
    have hyr : ρ0 w9.heap.size = 0 := Decidable.not_not.1 fun e => by have := HST9.out.fresh _ e; omega
    clear hy hyok hk1 hk2 hk3 hb9 HST8 HB8 HKA8 HFB8 HRO8 HQ8 e8 e16 q0 q1 q2
    go_wp2_with fail
    obtain ⟨wa, hwa⟩ : ∃ wa, wa = w9.alloc (Obj.cells #[Value.int .i64 (k1 : Nat), Value.int .i64 (k2 : Nat), Value.int .i64 (k3 : Nat)] 41) := ⟨_, rfl⟩
    have HYBa := Lib.hid (show Blk wa w9.heap.size 41 #[Value.int .i64 (k1 : Nat), Value.int .i64 (k2 : Nat), Value.int .i64 (k3 : Nat)] by rw [hwa]; exact Blk.new w9 _ _)
    have hba : Below w9.heap.size w9 wa := by rw [hwa]; exact (Below.refl _ _).alloc (Nat.le_refl _) _
    have hsa : wa.heap.size = w9.heap.size + 1 := by rw [hwa]; simp
    rw [← hwa]
    clear hwa
    have HSTa := Lib.hid (HST9.out.below hba)
    have HBa := Lib.hid (HB9.out.trans (hba.mono HB9.out.size))
    have HKAa := Lib.hid (show BlkB wa w5.heap.size 4 (startZ F n0) from Blk.below HKA9.out hba (by omega))
    have HFBa := Lib.hid (HFB9.out.below hba HFB9.out.lt)
    have HROa := Lib.hid (HRO9.out.below (hba.mono (by omega)))
    clear hba HST9 HB9 HKA9 HFB9 HRO9
    have HWa : Hid (∀ W, Below wa.heap.size wa W → Words W w.heap.size Aw cw ws) := Lib.hid fun W hb => HWW.out W ((HB5.out.trans (HBa.out.mono HB5.out.size)).trans (hb.mono (by have := HB5.out.size; omega)))
    refine (rng_new (HWa.out wa (Below.refl _ _)) (by have := HB5.out.size; omega) 5 (by decide)).mono ?_
    rintro e wb ⟨r1, rfl, hsr1, hbb⟩
    have HR1 := Lib.hid hsr1
    have HBb := Lib.hid hbb
    have hsb := hbb.size
    have hr1l := hsr1.low
    have hr1u := hsr1.lt
    clear hsr1 hbb
    go_wp2_with fail
    refine (rng_new (HWa.out wb HBb.out) (by have := HB5.out.size; omega) 5 (by decide)).mono ?_
    rintro e w0 ⟨r2, rfl, hsr2, hbc⟩
    have hs0 := hbc.size
    have hr2l := hsr2.low
    have hr2u := hsr2.lt
    obtain ⟨z0, hz0⟩ : ∃ z0, startZ F (n0 : Int) = z0 := ⟨_, rfl⟩
    have hB5 := HB5.out.size
    have hor0 : r1 < wb.heap.size ∧ wa.heap.size ≤ r1 ∧ wb.heap.size ≤ r2 ∧ w9.heap.size < wa.heap.size ∧ w7.heap.size ≤ w9.heap.size ∧ w4.heap.size < w5.heap.size ∧ w5.heap.size < w7.heap.size := ⟨hr1u, hr1l, hr2l, by omega, by omega, by omega, by omega⟩
    have hq12 : r1 < w0.heap.size ∧ r2 < w0.heap.size := ⟨by omega, hr2u⟩
    have HL0 : Hid (Stp15 w0 w0 ρ0 w4.heap.size w5.heap.size w7.heap.size w9.heap.size wa.heap.size wb.heap.size g r1 r2 F A4 c4 xss y k1 k2 k3 (⟨z0, startLS z0 (normForm xss), ⟨ws, seedOf 5⟩⟩ : Cfg) 0 ⟨0, (startLS z0 (normForm xss)).row.length, [], none⟩) := Lib.hid (by
      rw [← hz0]
      exact ⟨(HSTa.out.below HBb.out).below hbc, HR1.out.below hbc hr1u, hsr2, fun q hq => by have := HSTa.out.fresh q hq; omega,
        by have := Blk.below (Blk.below HKAa.out HBb.out (by omega)) hbc (by omega); exact this, (HFBa.out.below HBb.out (by omega)).below hbc (by omega), (HROa.out.below (HBb.out.mono (by omega))).below (hbc.mono (by omega)), (HYBa.out.below HBb.out (by omega)).below hbc (by omega), Ft.refl _, Nat.le_refl _, hor0, hzl, hyr⟩)
    have HBE : Hid (Below w.heap.size w w0) := Lib.hid ((HB5.out.trans (HBa.out.mono hB5)).trans ((HBb.out.trans (hbc.mono hsb)).mono (by omega)))
    clear hsr2 hbc HSTa HBa HKAa HFBa HROa HYBa HBb HR1 HWa HWW HWI HB5 hz0 hzl
    have hsc : (startLS z0 (normForm xss)).cls = normForm xss := HL0.out.st.cls
    go_wp2
    go_loopg [61] (12 + 1) (fun gk ti wr => ∃ (j : Nat) (ρ : Nat → Nat) (c : Cfg) (d : Nat) (b : BS), j ≤ 12 ∧ gk = 12 - j + 1 ∧ ti = .int .i64 (j : Nat) ∧ Hid (d ≤ 3 * j ∧ b.flips ≤ j) ∧ Hid (Stp15 w0 wr ρ w4.heap.size w5.heap.size w7.heap.size w9.heap.size wa.heap.size wb.heap.size g r1 r2 F A4 c4 xss y k1 k2 k3 c d b))
    case atStart => exact ⟨0, ρ0, _, 0, _, by omega, by omega, rfl, Lib.hid ⟨Nat.le_refl _, Nat.le_refl _⟩, HL0⟩
    case round =>
      obtain ⟨j, ρ, cf, d, b, hj, rfl, rfl, HD, HL⟩ := hrel
      clear HL0
      by_cases hlt : j < 12
      · have hjI : (j : Int) < 12 := by omega
        have hgood := HL.out.st.good
        have hrl := hgood.rlen
        have hfw := hgood.few
        have hzv := hgood.vars
        have hor := HL.out.or_
        have hr20 : ρ r2 = 0 := Decidable.not_not.1 fun e => by have := HL.out.dj r2 e; omega
        have HU := Lib.hid (st_unsat HL.out.st)
        obtain ⟨R, hRR⟩ : ∃ R, cf.s.row.length = R := ⟨_, rfl⟩
        rw [hRR] at HU hrl
        have HRR := Lib.hid hRR
        have HGD := Lib.hid hgood
        have HRZ := Lib.hid hr20
        clear hgood hr20 hRR
        go_wp2_with fail
        refine HU.out.mono ?_
        rintro e wr2 ⟨rfl, rfl⟩
        clear HU
        go_upto_if 66 with fail
        go_cut [14, 16, 17, 19, 20, 61] from 61 to 146 (fun a14 a16 a17 a19 a20 a61 wx => a14 = .int .i64 (stepV y cf).1 ∧ a61 = .int .i64 (j : Nat) ∧ Hid (Strm wx wb.heap.size r2 (cf.g.adv (stepV y cf).2).ws (cf.g.adv (stepV y cf).2).last (d + (stepV y cf).2) ∧ Ft (fun q => q = r2) wr wx))
        case first =>
          by_cases hR0 : R = 0
          · have hrow : cf.s.row = [] := List.eq_nil_of_length_eq_zero (by rw [HRR.out]; exact hR0)
            have hsv : stepV y cf = (0, 0) := if_pos hrow
            have HSV := Lib.hid hsv
            subst hR0
            clear hrow hsv
            go_wp2_with fail
            go_meet
            rw [HSV.out]
            exact ⟨rfl, rfl, Lib.hid ⟨HL.out.s2, Ft.refl _⟩⟩
          · have hR : 0 < cf.s.row.length := by rw [HRR.out]; omega
            have hrow : cf.s.row ≠ [] := fun e => by rw [e] at hR; exact absurd hR (Nat.lt_irrefl 0)
            have hgood := HGD.out
            have hidx : cf.g.next % cf.s.row.length < cf.s.row.length := Nat.mod_lt _ hR
            obtain ⟨ix, hix⟩ : ∃ ix, cf.g.next % cf.s.row.length = ix := ⟨_, rfl⟩
            have hmem : cf.s.row.getD ix 0 ∈ cf.s.row := by
              rw [hix] at hidx
              simp only [List.getD, List.getElem?_eq_getElem hidx, Option.getD_some]
              exact List.getElem_mem hidx
            obtain ⟨ci, hci⟩ : ∃ ci, cf.s.row.getD ix 0 = ci := ⟨_, rfl⟩
            rw [hci] at hmem
            have hcil := ((hgood.rmem ci).1 hmem).1
            obtain ⟨cl, hcl⟩ : ∃ cl, cf.s.cls.getD ci [] = cl := ⟨_, rfl⟩
            have hclause : cf.clause = cl := by
              show cf.s.cls.getD (cf.s.row.getD (cf.g.next % cf.s.row.length) 0) [] = cl
              rw [hix, hci, hcl]
            have hclen : cl.length ≤ 100 := by rw [← hcl]; exact hgood.short ci
            have hclit : ∀ x ∈ cl, x ≠ 0 ∧ x.natAbs ≤ cf.z.length := fun x hx => hgood.lits ci x (by rw [hcl]; exact hx)
            have hbl := rng_below HL.out.s2 (by have := HD.out.1; omega) cf.s.row.length hR (by rw [HRR.out]; omega)
            have hnx : nextOf cf.g.ws cf.g.last = cf.g.next := rfl
            rw [hnx, hix] at hbl
            have hrw : rowAt cf.s.row (ix : Int) = (ci : Int) := by
              unfold rowAt
              rw [if_pos (by omega), Int.toNat_natCast, hci]
            have hst3 : ∀ w3, Ft (fun q => q = r2) wr w3 → St14 w3 w7.heap.size ρ g cf.z (normForm xss) cf.s b := fun w3 hf => HL.out.st.ft hf fun q hq e => by subst e; exact hq HRZ.out
            have HRW : Hid (∀ w3, Ft (fun q => q = r2) wr w3 → Calls Try.prog 18 #[.pointer (some ⟨g, 0, none⟩), .int .i64 (ix : Nat)] w3 fun e w' => e = .returned (.int .i64 (ci : Nat)) ∧ w3 = w') := Lib.hid fun w3 hf => by
              have := st_row (hst3 w3 hf) (ix : Int)
              rw [hrw] at this
              exact this
            have HCLS : Hid (∀ w3, Ft (fun q => q = r2) wr w3 → Calls Try.prog 17 #[.pointer (some ⟨g, 0, none⟩), .int .i64 (ci : Nat)] w3 fun e w' => ∃ A c, e = .returned (.slice A cl.length c) ∧ w'.ownsRow w3.heap.size 3 1 (.slice A cl.length c) cl.length (cl.map (Value.int .i64)) ∧ Below w3.heap.size w3 w') := Lib.hid fun w3 hf => by
              have := st_clause (hst3 w3 hf) (ci : Int)
              have hc : (0 : Int) ≤ (ci : Int) ∧ (ci : Int) < ((normForm xss).length : Nat) := by rw [← HL.out.st.cls]; omega
              rw [if_pos hc, if_pos hc, Int.toNat_natCast, ← HL.out.st.cls, hcl] at this
              exact this
            have hsv : stepV y cf = if cl = [] then (0, 1) else (litVar (cl.getD (chooseF y (breaksOf cf.s cf.z.length cl) cf.g.after).1 0), 1 + (chooseF y (breaksOf cf.s cf.z.length cl) cf.g.after).2) := by
              unfold stepV
              rw [if_neg hrow, hclause]
            rw [HRR.out] at hbl
            have HBL := Lib.hid hbl
            have HSV := Lib.hid hsv
            have HCL := Lib.hid (And.intro hclen hclit)
            have hRI : (0 : Int) < (R : Int) := by omega
            clear hrow hgood hidx hix hmem hci hcil hcl hclause hclit hbl hnx hrw hst3 hsv hR
            go_wp2_with fail
            refine HBL.out.mono ?_
            rintro e w3 ⟨rfl, hs3, ho3⟩
            have HF3 := Lib.hid ho3.ft
            have HS3 := Lib.hid hs3
            clear hs3 ho3 HBL
            go_wp2_with fail
            refine (HRW.out _ HF3.out).mono ?_
            rintro e w4' ⟨rfl, rfl⟩
            go_wp2_with fail
            refine (HCLS.out _ HF3.out).mono ?_
            rintro e w5' ⟨Ac, cc, rfl, hown, hb5⟩
            have HO5 := Lib.hid (And.intro hown hb5)
            have HF5 := Lib.hid (HF3.out.low hb5)
            have HS5 := Lib.hid (HS3.out.below (B' := w3.heap.size) hb5 HS3.out.lt)
            have hs35 := hb5.size
            clear hown hb5 HRW HCLS
            by_cases hcl0 : cl = []
            · have hl0 : cl.length = 0 := by rw [hcl0]; rfl
              have hsv := HSV.out
              rw [if_pos hcl0] at hsv
              have HSW := Lib.hid hsv
              rw [hl0]
              clear hsv hcl0 hl0
              go_wp2_with fail
              go_meet
              rw [HSW.out]
              exact ⟨rfl, rfl, Lib.hid ⟨HS5.out, HF5.out⟩⟩
            · have hcp : 0 < cl.length := by
                rcases Nat.eq_zero_or_pos cl.length with h | h
                · exact absurd (List.eq_nil_of_length_eq_zero h) hcl0
                · exact h
              have hsv := HSV.out
              rw [if_neg hcl0] at hsv
              have HSW := Lib.hid hsv
              have hst5 := HL.out.st.ft HF5.out fun q hq e => by subst e; exact hq HRZ.out
              have HST5 := Lib.hid hst5
              obtain ⟨n, hn⟩ : ∃ n, cl.length = n := ⟨_, rfl⟩
              have HN := Lib.hid hn
              have hbl2 := breaksOf_len cf.s cf.z.length cl
              obtain ⟨bs, hbs⟩ : ∃ bs, breaksOf cf.s cf.z.length cl = bs := ⟨_, rfl⟩
              rw [hbs] at hbl2
              have HBS := Lib.hid (And.intro hbs hbl2)
              have hgt : decide ((0 : Int) < (cl.length : Int)) = true := decide_eq_true (by omega)
              obtain ⟨i0, hi0, hz0', hz1', hz2'⟩ := info_parts infoCI
              have HII := Lib.hid (And.intro hi0 (And.intro hz0' (And.intro hz1' hz2')))
              rw [hn] at hcp hclen hgt ⊢
              have hnI : (0 : Int) < (n : Int) := by omega
              clear hsv hcl0 hst5 hn hbl2 hbs hi0 hz0' hz1' hz2' HSV
              go_wp2
              go_loopg [17, 79] (n + 1) (fun gk tb ti wq => ∃ (jj : Nat) (A' : Option Addr) (c' : Nat), jj ≤ n ∧ gk = n - jj + 1 ∧ ti = .int .i64 (jj : Nat) ∧ tb = .slice A' jj c' ∧ Hid (wq.ownsRow w5'.heap.size 3 1 (.slice A' jj c') jj ((bs.take jj).map (Value.int .i64)) ∧ Below w5'.heap.size w5' wq))
              case atStart => exact ⟨0, none, 0, by omega, by omega, rfl, rfl, Lib.hid ⟨World.ownsRow_nil _ _ _ _, Below.refl _ _⟩⟩
              case round =>
                obtain ⟨jj, A', c', hjj, rfl, rfl, rfl, HB⟩ := hrel
                by_cases hjn : jj < n
                · have hjc : jj < cl.length := by rw [HN.out]; exact hjn
                  have hrow := own_below HO5.out.1 HB.out.2 fun q hq => (HO5.out.1.lt q hq).2
                  obtain ⟨ba, eA, _, _⟩ := own_addr hrow (by rw [HN.out]; omega)
                  rw [eA] at hrow
                  have cx := World.ownsRow.cellAt hrow jj (by omega)
                  rw [show (cl.map (Value.int .i64))[jj]? = some (.int .i64 (cl.getD jj 0)) by simp [List.getD, hjc]] at cx
                  have hxl := HCL.out.2 (cl.getD jj 0) (by simp only [List.getD, List.getElem?_eq_getElem hjc, Option.getD_some]; exact List.getElem_mem hjc)
                  have htk := breaksOf_take cf.s cf.z.length hjc
                  rw [HBS.out.1] at htk
                  obtain ⟨x, hx⟩ : ∃ x, cl.getD jj 0 = x := ⟨_, rfl⟩
                  rw [hx] at cx hxl htk
                  have hlv := litVar_nonneg x
                  have hlv2 := litVar_le (l := x) (b := 1000000) (by omega) (by omega)
                  have hmx : max x (-x) = litVar x := by unfold litVar; split <;> omega
                  have hw64 : wrap64 (-x) = -x := by unfold wrap64; omega
                  have hwi : IntKind.i64.wrap (-x) = -x := IntWalk.i64_in _ (by omega)
                  have HBR := Lib.hid (st_break (HST5.out.below HB.out.2) (litVar x) (by omega))
                  obtain ⟨bv, hbv⟩ : ∃ bv, breakV cf.s cf.z.length (litVar x) = bv := ⟨_, rfl⟩
                  rw [hbv] at HBR htk
                  obtain ⟨lv, hlvv⟩ : ∃ lv, litVar x = lv := ⟨_, rfl⟩
                  rw [hlvv] at HBR hmx
                  have HTK := Lib.hid htk
                  have hjI2 : (jj : Int) < (n : Int) := by omega
                  subst eA
                  clear hx hxl htk hlv hlv2 hbv hlvv hrow
                  go_wp2_with fail
                  refine HBR.out.mono ?_
                  rintro e wq2 ⟨rfl, rfl⟩
                  have HOA := Lib.hid (own_below HB.out.1 ((Below.refl wr.heap.size wr).alloc (Nat.le_refl _) (Obj.cells #[Value.int .i64 (bv : Nat)] 3)) fun q hq => (HB.out.1.lt q hq).2)
                  have HBX := Lib.hid (show (wr.alloc (Obj.cells #[Value.int .i64 (bv : Nat)] 3)).cell? ⟨wr.heap.size, 0, none⟩ = some (.int .i64 (bv : Nat)) by rw [Blk.cell (Blk.new wr 3 #[Value.int .i64 (bv : Nat)]) 0]; rfl)
                  have hm1 : jj + 1 ≤ maxLen := by unfold maxLen; omega
                  have hm2 : (jj + 1) * 8 ≤ 140737488355328 := by omega
                  have hm3 : w5'.heap.size ≤ (wr.alloc (Obj.cells #[Value.int .i64 (bv : Nat)] 3)).heap.size := by have := HB.out.2.size; simp; omega
                  have HM123 := Lib.hid (And.intro hm1 (And.intro hm2 hm3))
                  clear hm1 hm2 hm3
                  go_wp2_with (at_builtin; refine wpList_append1 _ rfl _ _ 48 rfl w5'.heap.size 3 i0 (.int .i64 0) 8 Try.underlying48 HII.out.1 HII.out.2.1 HII.out.2.2.1 HII.out.2.2.2 rfl (.slice A' jj c') jj _ rfl HOA.out (.int .i64 (bv : Nat)) wr.heap.size rfl HBX.out rfl HM123.out.1 HM123.out.2.1 HM123.out.2.2 ?_)
                  intro v' w9' hown3 hg3 hat3
                  obtain ⟨A3, c3, rfl, -⟩ := own_slice hown3
                  have HN9 := Lib.hid (And.intro hown3 (And.intro hg3 hat3))
                  clear hown3 hg3 hat3
                  go_wp2
                  go_roundg (n - jj)
                  case measure => omega
                  case rel =>
                    exact ⟨jj + 1, A3, c3, by omega, by omega, by go_num, rfl, Lib.hid ⟨by rw [HTK.out]; simpa using HN9.out.1, (HB.out.2.alloc HB.out.2.size _).grown HN9.out.2.1 (by have := HB.out.2.size; simp; omega) fun q hq => (HB.out.1.lt q hq).1⟩⟩
                · have hje : n = jj := by omega
                  subst hje
                  clear hjn hjj
                  have hbn : bs.length = n := HBS.out.2.trans HN.out
                  have hbo := HB.out.1
                  rw [List.take_of_length_le (by omega)] at hbo
                  have hb0 : ∀ q, 0 ≤ bs.getD q 0 := fun q => by
                    rw [← HBS.out.1]
                    simp only [breaksOf, List.getD, List.getElem?_map]
                    cases cl[q]? with
                    | none => exact Int.le_refl _
                    | some x => show (0 : Int) ≤ ((breakV cf.s cf.z.length (litVar x) : Nat) : Int); omega
                  have hr2q : r2 < w5'.heap.size := HS5.out.lt
                  have hch := chosen_any15 (y := y) (sg := cf.g.after) (d := d + 1) hbo hbn hcp (by omega) hb0 (fun q hq e => by have := (hbo.lt q hq).1; omega) (HS5.out.below HB.out.2 HS5.out.lt) (by have := HD.out.1; omega) HY.out
                  have hil := chooseF_lt y (bs := bs) (by omega) cf.g.after
                  have hsw := HSW.out
                  rw [HBS.out.1] at hsw
                  obtain ⟨⟨i, kq⟩, hik⟩ : ∃ ik, chooseF y bs cf.g.after = ik := ⟨_, rfl⟩
                  rw [hik] at hch hil hsw
                  rw [HWV.out] at hch
                  have HCH := Lib.hid hch
                  have HSX := Lib.hid hsw
                  have hyq := HB.out.2.trans (Below.refl _ _)
                  have hyb := (HF5.out.low HB.out.2).blk HL.out.yk (by omega)
                  have e0 := hyb.cell 0
                  have e1 := hyb.cell 1
                  have e2 := hyb.cell 2
                  simp at e0 e1 e2
                  have hiN : i < n := by omega
                  have hilI : (i : Int) < (n : Int) := by omega
                  have hig : decide ((n : Int) ≤ (i : Int)) = false := decide_eq_false (by omega)
                  have hig2 : decide (n ≤ i) = false := decide_eq_false (by omega)
                  have hrow := own_below HO5.out.1 HB.out.2 fun q hq => (HO5.out.1.lt q hq).2
                  have HRW5 := Lib.hid hrow
                  clear hch hil hsw hik hyq hyb hbo hrow
                  go_wp2_with fail
                  refine HCH.out.mono ?_
                  rintro e w6 ⟨rfl, hs6, hf6⟩
                  have hrow := hf6.own HRW5.out fun q hq e => by have := (HO5.out.1.lt q hq).1; have := HS3.out.lt; omega
                  obtain ⟨ba, eA, _, _⟩ := own_addr hrow (by rw [HN.out]; omega)
                  rw [eA] at hrow
                  have hic : i < cl.length := by rw [HN.out]; exact hiN
                  have cx := World.ownsRow.cellAt hrow i (by omega)
                  rw [show (cl.map (Value.int .i64))[i]? = some (.int .i64 (cl.getD i 0)) by simp [List.getD, hic]] at cx
                  have hxl := HCL.out.2 (cl.getD i 0) (by simp only [List.getD, List.getElem?_eq_getElem hic, Option.getD_some]; exact List.getElem_mem hic)
                  have hsx := HSX.out
                  change stepV y cf = (litVar (cl.getD i 0), 1 + kq) at hsx
                  obtain ⟨x, hx⟩ : ∃ x, cl.getD i 0 = x := ⟨_, rfl⟩
                  rw [hx] at cx hxl hsx
                  have hmx : max x (-x) = litVar x := by unfold litVar; split <;> omega
                  have hw64 : wrap64 (-x) = -x := by unfold wrap64; omega
                  have hwi : IntKind.i64.wrap (-x) = -x := IntWalk.i64_in _ (by omega)
                  have HSZ := Lib.hid hsx
                  have H6 := Lib.hid (And.intro hs6 ((HF5.out.low HB.out.2).trans hf6 NewF.refl))
                  subst eA
                  clear hrow hs6 hf6 hx hsx HCH hxl
                  go_wp2_with fail
                  go_region
                  all_goals
                    go_wp2_with fail
                    go_meet
                    rw [HSZ.out]
                    refine ⟨by first | rfl | rw [hmx] | (show Value.int .i64 (max x (wrap64 (-x))) = _; rw [hw64, hmx]), rfl, Lib.hid ⟨?_, ?_⟩⟩
                    · have := H6.out.1
                      show Strm _ wb.heap.size r2 (cf.g.adv (1 + kq)).ws (cf.g.adv (1 + kq)).last (d + (1 + kq))
                      rw [← Nat.add_assoc, Nat.add_comm 1 kq]
                      first | exact this | exact Strm.below this (B' := _) (Below.refl _ _).drew this.lt
                    · first | exact H6.out.2 | exact H6.out.2.drew
        case rest =>
          obtain ⟨rfl, rfl, HM⟩ := hcut
          have hbd := stepV_bd y HGD.out
          have h3 := stepV_draws y cf
          have hyk := HL.out.yk.lt
          have hstep := wstep_any15 (c := cf) (d := d) (Bs := wa.heap.size) (r := r1) (y := y) (HL.out.st.ft HM.out.2 fun q hq e => by subst e; exact hq HRZ.out) (by have := HD.out.2; omega) (HL.out.s1.ft HM.out.2 fun q e => .inr (by omega)) (by have := HD.out.1; omega) (fun q hq => (HL.out.dj q hq).elim .inl fun e => .inr (by omega)) HY.out
          rw [HWV.out] at hstep
          have HSTEP := Lib.hid hstep
          have hyb := HM.out.2.blk HL.out.yk (by omega)
          have e0 := hyb.cell 0
          have e1 := hyb.cell 1
          have e2 := hyb.cell 2
          simp at e0 e1 e2
          obtain ⟨vv, hvv⟩ : ∃ vv, (stepV y cf).1 = vv := ⟨_, rfl⟩
          obtain ⟨kk, hkk⟩ : ∃ kk, (stepV y cf).2 = kk := ⟨_, rfl⟩
          have hcz : (stepC y cf).z = turnV cf.z vv := by rw [← hvv]; rfl
          rw [hvv] at HSTEP hbd ⊢
          rw [hkk] at HSTEP HM h3
          have HVV := Lib.hid (And.intro hvv (And.intro hkk hcz))
          have hvne : (vv != vv) = false := by simp
          clear hstep hyb hvv hkk hcz
          go_wp2_with fail
          refine HSTEP.out.mono ?_
          rintro e wd ⟨rfl, ρ', b', hp, hbs⟩
          have hpd := hp.ft.size
          have hlo := HL.out.st.lo
          have HS2d := Lib.hid (HM.out.1.ft hp.ft fun q e => by
            rcases e with e | e
            · rcases HL.out.dj q e with h | h
              · exact .inl (by omega)
              · exact .inr h
            · exact .inl (by omega))
          have HD1 := Lib.hid (rng_drawn hp.sm)
          have HD2 := Lib.hid (rng_drawn HS2d.out)
          have hsg : (cf.g.adv kk) = (stepC y cf).g := by rw [← HVV.out.2.1]; rfl
          have hnF : ∀ q, q < w7.heap.size → ¬ (ρ q ≠ 0 ∨ q = r1) := fun q hq e => by
            rcases e with e | e
            · have := hlo q e; omega
            · omega
          have hbz := hp.ft.blk (HM.out.2.blk HL.out.bz (by omega)) (hnF _ (by omega))
          have hfb := hp.ft.blk (HM.out.2.blk HL.out.fb (by omega)) (hnF _ (by omega))
          have hykd := hp.ft.blk (HM.out.2.blk HL.out.yk (by omega)) (fun e => by
            rcases e with e | e
            · exact e HL.out.yr
            · omega)
          have hro : Rows wd w4.heap.size A4 xss := by
            refine Rows.keep (Rows.keep HL.out.ro fun p hp => HM.out.2.cell (p := p) (by have := HL.out.fb.lt; omega) (by omega)) fun p hpb => hp.ft.cell (p := p) (by have := HM.out.2.size; have := HL.out.fb.lt; omega) (hnF _ (by omega))
          have hyr' : ρ' w9.heap.size = 0 := (hp.part _ (by have := HM.out.2.size; omega)).trans HL.out.yr
          have hdj' : ∀ q, ρ' q ≠ 0 → q < wa.heap.size ∨ r2 < q := fun q hq => by
            rcases Nat.lt_or_ge q wc.heap.size with hl | hl
            · rw [hp.part q hl] at hq
              exact HL.out.dj q hq
            · have := HM.out.1.lt; exact .inr (by omega)
          have hft : Ft (fun q => w5.heap.size ≤ q) w0 wd := (HL.out.ft.trans (HM.out.2.mono (F' := fun q => w5.heap.size ≤ q) fun q e => by omega) NewF.refl).trans (hp.ft.mono (F' := fun q => w5.heap.size ≤ q) fun q e => by
            rcases e with e | e
            · have := hlo q e; omega
            · omega) NewF.refl
          have hsz : w0.heap.size ≤ wd.heap.size := hft.size
          have hflip : b'.flips ≤ j + 1 := by have := hbs.flips; have := HD.out.2; omega
          have hdd : d + kk ≤ 3 * (j + 1) := by have := HD.out.1; omega
          have HDN := Lib.hid (And.intro hdd hflip)
          have hzl' : (stepC y cf).z.length = F := by rw [HVV.out.2.2, turnV_len]; exact HL.out.zl
          rw [hsg] at HS2d
          obtain ⟨D, hDD⟩ : ∃ D, d + kk = D := ⟨_, rfl⟩
          have hsm := hp.sm
          have hst1 := hp.st
          rw [hDD] at HS2d HD1 HD2 hsm hdd HDN
          have hbz' : BlkB wd w5.heap.size 4 cf.z := hbz
          -- what stands once the assignment is turned too
          have HNX : Hid (∀ W, Ft (fun q => q = w5.heap.size) wd W → BlkB W w5.heap.size 4 (stepC y cf).z → Stp15 w0 W ρ' w4.heap.size w5.heap.size w7.heap.size w9.heap.size wa.heap.size wb.heap.size g r1 r2 F A4 c4 xss y k1 k2 k3 (stepC y cf) D b') := Lib.hid fun W hf hz => ⟨hst1.ft hf fun q hq e => by have := hst1.lo q hq; omega, hsm.ft hf fun q e => .inl (by omega), HS2d.out.ft hf fun q e => .inl (by omega), hdj', hz, hf.blk hfb (by omega), Rows.keep hro fun p hp => hf.cell (p := p) (by have := hfb.lt; omega) (by omega), hf.blk hykd (by omega), hft.trans (hf.mono (F' := fun q => w5.heap.size ≤ q) fun q e => by omega) NewF.refl, Nat.le_trans hsz hf.size, HL.out.or_, hzl', hyr'⟩
          have hDne : ((D : Int) != (D : Int)) = false := by simp
          clear hbs hpd hro hfb hykd hft hsm hst1 hdj' hsg
          go_wp2_with fail
          refine HD1.out.mono ?_
          rintro e we ⟨rfl, rfl⟩
          go_wp2_with fail
          refine HD2.out.mono ?_
          rintro e we ⟨rfl, rfl⟩
          by_cases hv0 : vv = 0
          · have hzz : (stepC y cf).z = cf.z := by rw [HVV.out.2.2, hv0, turnV_zero]
            have HL1 := Lib.hid (HNX.out wd (Ft.refl _) (by rw [hzz]; exact hbz'))
            subst hv0
            clear hbz' hbz hzz HNX
            have hR' := row_uns HL1.out.st.good HL1.out.st.at_
            rw [HL1.out.st.cls] at hR'
            have HUA := Lib.hid (fun (W : World) (hb : Below wd.heap.size wd W) => st_unsat (HL1.out.st.below hb))
            have HUB := Lib.hid (fun (W : World) (hb : Below wd.heap.size wd W) => unsat_any15 F xss (stepC y cf).z w7.heap.size W.heap.size A4 (some ⟨w5.heap.size, 0, none⟩) c4 F W (by omega) HFM.out (Rows.more (Rows.keep HL1.out.ro fun p hp => hb.cell (by have := HL1.out.bz.lt; omega)) (by omega)) (BlkB.bools (show BlkB W w5.heap.size 4 (stepC y cf).z from Blk.below HL1.out.bz hb HL1.out.bz.lt)) (by have := hb.size; have := HL1.out.st.hB; omega) (Nat.le_refl _) HL1.out.zl)
            rw [HL1.out.zl] at HUB
            rw [← hR'] at HUB
            obtain ⟨R', hRq⟩ : ∃ R', (stepC y cf).s.row.length = R' := ⟨_, rfl⟩
            rw [hRq] at HUA HUB
            have hrr : ((R' : Int) != (R' : Int)) = false := by simp
            have HCC : Hid (∀ W, Below wd.heap.size wd W → W.cell? ⟨w4.heap.size, 0, none⟩ = some (.int .i64 F) ∧ W.cell? ⟨w4.heap.size, 1, none⟩ = some (.slice A4 xss.length c4)) := Lib.hid fun W hb => by
              have hk := HL1.out.fb.below hb HL1.out.fb.lt
              exact ⟨by rw [hk.cell]; rfl, by rw [hk.cell]; rfl⟩
            have HB0 : Hid (Below wd.heap.size wd wd) := Lib.hid (Below.refl _ _)
            have HC0 := Lib.hid (HCC.out _ HB0.out)
            obtain ⟨p0, p1⟩ := HC0.out
            clear hR' hRq
            go_wp2_with fail
            go_region_held3 (fun W => W.cell? ⟨w4.heap.size, 0, none⟩ = some (.int .i64 F) ∧ W.cell? ⟨w4.heap.size, 1, none⟩ = some (.slice A4 xss.length c4)) (first | with_reducible exact HC0.out | exact HC0.out | exact HC9.out)
              (first
               | (go_at_call 16; first | (with_reducible refine (HUA.out _ HB9.out).mono ?_; rintro e wq ⟨rfl, rfl⟩) | (with_reducible refine (HUA.out _ HB0.out.drew).mono ?_; rintro e wq ⟨rfl, rfl⟩))
               | (go_at_call 24; with_reducible refine (HUB.out _ HB0.out.drew).mono ?_; rintro e w9' ⟨rfl, hb9⟩; have HB9 : Hid (Below wd.heap.size wd w9') := Lib.hid (HB0.out.drew.trans (hb9.mono HB0.out.drew.size)); have HC9 := Lib.hid (HCC.out w9' HB9.out); clear hb9))
            all_goals
              go_wp2
              go_roundg (12 - j)
              case measure => omega
              case rel => exact ⟨j + 1, ρ', stepC y cf, _, b', by omega, by omega, by go_num, Lib.hid HDN.out, Lib.hid (HL1.out.below HB9.out)⟩
          · obtain ⟨k, rfl⟩ : ∃ k : Nat, vv = (k : Int) + 1 := ⟨(vv - 1).toNat, by omega⟩
            have hkz : k < cf.z.length := by omega
            have hkF : (k : Int) < (F : Int) := by have := HL.out.zl; omega
            have ck := BlkB.cell hbz' (i := k) hkz
            have fk := BlkB.frozen hbz' k
            have hset := BlkB.set_ hbz' k (!cf.z.getD k false)
            have hzz : (stepC y cf).z = cf.z.set k (!cf.z.getD k false) := by
              rw [HVV.out.2.2]
              unfold turnV
              rw [if_pos (by omega)]
              rw [show ((k : Int) + 1).toNat = k + 1 by omega]
              simp [turn]
            rw [← hzz] at hset
            have HL1 := Lib.hid (HNX.out (wd.setCell ⟨w5.heap.size, k, none⟩ (.bool (!cf.z.getD k false))) ((Ft.refl (F := fun q => q = w5.heap.size) wd).set (q := w5.heap.size) (fun _ => rfl) _ _) hset)
            obtain ⟨zk, hzk⟩ : ∃ zk, cf.z.getD k false = zk := ⟨_, rfl⟩
            rw [hzk] at ck HL1
            have hvp : decide ((0 : Int) < (k : Int) + 1) = true := decide_eq_true (by omega)
            clear hbz' hbz hset hzz hzk HNX hv0
            obtain ⟨wf, hwf⟩ : ∃ wf, wf = wd.setCell ⟨w5.heap.size, k, none⟩ (.bool (!zk)) := ⟨_, rfl⟩
            rw [← hwf] at HL1
            have hR' := row_uns HL1.out.st.good HL1.out.st.at_
            rw [HL1.out.st.cls] at hR'
            have HUA := Lib.hid (fun (W : World) (hb : Below wf.heap.size wf W) => st_unsat (HL1.out.st.below hb))
            have HUB := Lib.hid (fun (W : World) (hb : Below wf.heap.size wf W) => unsat_any15 F xss (stepC y cf).z w7.heap.size W.heap.size A4 (some ⟨w5.heap.size, 0, none⟩) c4 F W (by omega) HFM.out (Rows.more (Rows.keep HL1.out.ro fun p hp => hb.cell (by have := HL1.out.bz.lt; omega)) (by omega)) (BlkB.bools (show BlkB W w5.heap.size 4 (stepC y cf).z from Blk.below HL1.out.bz hb HL1.out.bz.lt)) (by have := hb.size; have := HL1.out.st.hB; omega) (Nat.le_refl _) HL1.out.zl)
            rw [HL1.out.zl] at HUB
            rw [← hR'] at HUB
            obtain ⟨R', hRq⟩ : ∃ R', (stepC y cf).s.row.length = R' := ⟨_, rfl⟩
            rw [hRq] at HUA HUB
            have hrr : ((R' : Int) != (R' : Int)) = false := by simp
            have HCC : Hid (∀ W, Below wf.heap.size wf W → W.cell? ⟨w4.heap.size, 0, none⟩ = some (.int .i64 F) ∧ W.cell? ⟨w4.heap.size, 1, none⟩ = some (.slice A4 xss.length c4)) := Lib.hid fun W hb => by
              have hk := HL1.out.fb.below hb HL1.out.fb.lt
              exact ⟨by rw [hk.cell]; rfl, by rw [hk.cell]; rfl⟩
            have HB0 : Hid (Below wf.heap.size wf wf) := Lib.hid (Below.refl _ _)
            have HC0 := Lib.hid (HCC.out _ HB0.out)
            obtain ⟨p0, p1⟩ := HC0.out
            clear hR' hRq
            go_wp2_with fail
            rw [← hwf]
            clear hwf
            go_region_held3 (fun W => W.cell? ⟨w4.heap.size, 0, none⟩ = some (.int .i64 F) ∧ W.cell? ⟨w4.heap.size, 1, none⟩ = some (.slice A4 xss.length c4)) (first | with_reducible exact HC0.out | exact HC0.out | exact HC9.out)
              (first
               | (go_at_call 16; first | (with_reducible refine (HUA.out _ HB9.out).mono ?_; rintro e wq ⟨rfl, rfl⟩) | (with_reducible refine (HUA.out _ HB0.out.drew).mono ?_; rintro e wq ⟨rfl, rfl⟩))
               | (go_at_call 24; with_reducible refine (HUB.out _ HB0.out.drew).mono ?_; rintro e w9' ⟨rfl, hb9⟩; have HB9 : Hid (Below wf.heap.size wf w9') := Lib.hid (HB0.out.drew.trans (hb9.mono HB0.out.drew.size)); have HC9 := Lib.hid (HCC.out w9' HB9.out); clear hb9))
            all_goals
              go_wp2
              go_roundg (12 - j)
              case measure => omega
              case rel => exact ⟨j + 1, ρ', stepC y cf, _, b', by omega, by omega, by go_num, Lib.hid HDN.out, Lib.hid (HL1.out.below HB9.out)⟩
      · have hje : j = 12 := by omega
        subst hje
        have HBF : Hid (Below w.heap.size w wr) := Lib.hid (HBE.out.trans (HL.out.ft.below HBE.out.size fun q hq => by omega))
        go_wp2
        go_ret
        exact ⟨rfl, HBF.out⟩

theorem steps15_raw (u : Int) (nss : List (List Int)) (A : Option Addr) (c' : Nat) (a b c : Int) (w : World) (Al : Option Addr) (len cap : Nat) (z : Nat → Int) (hu : (Lit.int .u8 u).wf = true)
    (hx : nss.length ≤ 5864062014805) (m : ∀ j, (nss.getD j []).length * 2 ≤ 140737488351232) (hn : ∀ j i, (Lit.int .i16 ((nss.getD j []).getD i 0)).wf = true) (h : KRows .i16 w w.heap.size A nss)
    (wa : (Lit.int .u32 a).wf = true) (wb : (Lit.int .u32 b).wf = true) (wc : (Lit.int .u32 c).wf = true) (hi : IsInts .u64 w Al len cap z) :
    Calls Try.prog 3 #[.agg #[.int .u8 u, .slice A nss.length c'], .agg #[.int .u32 a, .int .u32 b, .int .u32 c], .slice Al len cap] w fun e w' => e = .returned (.bool true) ∧ Below w.heap.size w w' := by
  obtain ⟨v, rfl, hv⟩ := u8_nat14 hu
  obtain ⟨n0, rfl, hn0⟩ := u32_of15 wa
  obtain ⟨n1, rfl, hn1⟩ := u32_of15 wb
  obtain ⟨n2, rfl, hn2⟩ := u32_of15 wc
  obtain ⟨ws, rfl, hcw, hk, hws⟩ := words_of15 hi
  exact steps15_any v nss A c' n0 n1 n2 ws Al cap w hv (by omega) (fun j => by have := m j; omega) (fun j k => by have := bounds_i16 (hn j k); omega) h hn0 hn1 hn2 hk hcw hws
end Go.Proofs.Ytllgepabjglnaaa
