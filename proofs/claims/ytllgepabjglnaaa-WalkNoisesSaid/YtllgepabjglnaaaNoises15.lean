/- The statement on noise: the walk. -/
import Derived.Test.YtllgepabjglnaaaChosen15
import Derived.Test.YtllgepabjglnaaaOpenArr15
import Derived.Deep.RegionHeld3
import Derived.BigQuiet
import Derived.Maps.OwnSet
import Derived.Maps.OwnIn
namespace Go.Proofs.Ytllgepabjglnaaa
open Go.RowKit
set_option linter.unusedVariables false
set_option linter.unusedSimpArgs false

theorem intLaw15 : Maps.Keyed Try.prog 3 := Maps.int_keyed Try.underlying3
theorem zeroI15 (w : World) : (zeroValue 3).run Try.prog w = .ok (.int .i64 0) w := by kernel_rfl
theorem breakV_le {s : LS} {n : Nat} (hg : s.Good n) (m : Nat) (v : Int) : breakV s m v ≤ 100 := by
  unfold breakV
  split
  · have := brk_le s.hss v.toNat
    have := hg.len
    have := hg.few
    omega
  · omega
/-- the breaks told so far -/
def wasF (s : LS) (n j : Nat) (x : Int) : Int := if 1 ≤ x ∧ x ≤ j then (breakV s n x : Int) else 0
theorem wasF_zero (s : LS) (n : Nat) (x : Int) : wasF s n 0 x = 0 := by unfold wasF; rw [if_neg (by omega)]
theorem wasF_next (s : LS) (n j : Nat) (x : Int) : wasF s n (j + 1) x = if x = (j : Int) + 1 then (breakV s n ((j : Int) + 1) : Int) else wasF s n j x := by
  unfold wasF
  by_cases e : x = (j : Int) + 1
  · subst e
    rw [if_pos (by omega), if_pos rfl]
  · rw [if_neg e]
    by_cases h : 1 ≤ x ∧ x ≤ (j : Int)
    · rw [if_pos (by omega), if_pos h]
    · rw [if_neg (by omega), if_neg h]
theorem noise_cases15 {nz : Nat} {c : Cfg} (hnz : nz = 0 ∨ nz = 1000) (hg : c.s.Good c.z.length) :
    (c.s.row = [] ∧ (stepV (.noise nz) c).1 = 0 ∧ (stepV (.noise nz) c).2 = 0) ∨ (c.s.row ≠ [] ∧ (stepV (.noise nz) c).1 = 0 ∧ (stepV (.noise nz) c).2 = 1) ∨
    (c.s.row ≠ [] ∧ 1 ≤ (stepV (.noise nz) c).1 ∧ (stepV (.noise nz) c).1 ≤ c.z.length ∧ ((breakV c.s c.z.length (stepV (.noise nz) c).1 = 0 ∧ (stepV (.noise nz) c).2 = 1) ∨ (breakV c.s c.z.length (stepV (.noise nz) c).1 ≠ 0 ∧ nz = 0 ∧ (stepV (.noise nz) c).2 = 2) ∨ (breakV c.s c.z.length (stepV (.noise nz) c).1 ≠ 0 ∧ nz = 1000 ∧ (stepV (.noise nz) c).2 = 3))) := by
  by_cases hrow : c.s.row = []
  · left
    unfold stepV
    rw [if_pos hrow]
    exact ⟨hrow, rfl, rfl⟩
  · right
    by_cases hcl : c.clause = []
    · left
      unfold stepV
      rw [if_neg hrow, if_pos hcl]
      exact ⟨hrow, rfl, rfl⟩
    · right
      have hcp : 0 < c.clause.length := by
        rcases Nat.eq_zero_or_pos c.clause.length with h | h
        · exact absurd (List.eq_nil_of_length_eq_zero h) hcl
        · exact h
      have hsv : stepV (.noise nz) c = (litVar (c.clause.getD (chooseF (.noise nz) (breaksOf c.s c.z.length c.clause) c.g.after).1 0), 1 + (chooseF (.noise nz) (breaksOf c.s c.z.length c.clause) c.g.after).2) := by
        unfold stepV
        rw [if_neg hrow, if_neg hcl]
      have hlt := chooseF_lt (.noise nz) (bs := breaksOf c.s c.z.length c.clause) (by rw [breaksOf_len]; exact hcp) c.g.after
      rw [breaksOf_len] at hlt
      have hl := hg.lits (c.s.row.getD (c.g.next % c.s.row.length) 0) (c.clause.getD (chooseF (.noise nz) (breaksOf c.s c.z.length c.clause) c.g.after).1 0) (by
        show _ ∈ c.clause
        simp only [List.getD, List.getElem?_eq_getElem hlt, Option.getD_some]
        exact List.getElem_mem hlt)
      have hbi := breaksOf_getD c.s c.z.length hlt
      have hle := leastTo_le (breaksOf c.s c.z.length c.clause) (breaksOf c.s c.z.length c.clause).length (chooseF (.noise nz) (breaksOf c.s c.z.length c.clause) c.g.after).1 (by rw [breaksOf_len]; exact hlt)
      rw [hsv]
      obtain ⟨bs, hbs⟩ : ∃ bs, breaksOf c.s c.z.length c.clause = bs := ⟨_, rfl⟩
      rw [hbs] at hbi hle hl ⊢
      obtain ⟨x, hx⟩ : ∃ x, c.clause.getD (chooseF (.noise nz) bs c.g.after).1 0 = x := ⟨_, rfl⟩
      rw [hx] at hbi hl ⊢
      have hlv : 1 ≤ litVar x ∧ litVar x ≤ (c.z.length : Int) := by unfold litVar; split <;> omega
      refine ⟨hrow, hlv.1, hlv.2, ?_⟩
      show (breakV c.s c.z.length (litVar x) = 0 ∧ 1 + (chooseF (.noise nz) bs c.g.after).2 = 1) ∨ (breakV c.s c.z.length (litVar x) ≠ 0 ∧ nz = 0 ∧ 1 + (chooseF (.noise nz) bs c.g.after).2 = 2) ∨ (breakV c.s c.z.length (litVar x) ≠ 0 ∧ nz = 1000 ∧ 1 + (chooseF (.noise nz) bs c.g.after).2 = 3)
      by_cases hpos : 0 < bs.getD (leastTo bs bs.length) 0
      · by_cases hch : c.g.after.next % 1000 < nz
        · rw [chooseF_n2 hpos hch] at hbi hle ⊢
          right; right
          refine ⟨fun e => ?_, by omega, rfl⟩
          rw [e] at hbi
          omega
        · rw [chooseF_n1 hpos hch] at hbi hle ⊢
          right; left
          have := Nat.mod_lt c.g.after.next (show 0 < 1000 by omega)
          refine ⟨fun e => ?_, by omega, rfl⟩
          rw [e] at hbi
          omega
      · rw [chooseF_n0 c.g.after hpos] at hbi hle ⊢
        dsimp only at hbi
        left
        refine ⟨by omega, rfl⟩
/-- what stands between the rounds -/
structure Stn15 (w5 w : World) (ρ : Nat → Nat) (f B8 Bs g r F : Nat) (A4 : Option Addr) (c4 : Nat) (xss : List (List Int)) (c : Cfg) (d : Nat) (b : BS) : Prop where
  st : St14 w B8 ρ g c.z (normForm xss) c.s b
  sm : Strm w Bs r c.g.ws c.g.last d
  dj : ∀ q, ρ q ≠ 0 → q < Bs ∨ r < q
  fb : Blk w f 32 #[Value.int IntKind.i64 F, Value.slice A4 xss.length c4]
  ft : Below w5.heap.size w5 w
  or_ : w5.heap.size ≤ B8 ∧ w5.heap.size ≤ Bs ∧ f < w5.heap.size
  zl : c.z.length = F
theorem Stn15.below {w5 w w' : World} {ρ : Nat → Nat} {f B8 Bs g r F : Nat} {A4 : Option Addr} {c4 : Nat} {xss : List (List Int)} {c : Cfg} {d : Nat} {b : BS} (h : Stn15 w5 w ρ f B8 Bs g r F A4 c4 xss c d b) (hb : Below w.heap.size w w') : Stn15 w5 w' ρ f B8 Bs g r F A4 c4 xss c d b :=
  ⟨h.st.below hb, h.sm.below hb h.sm.lt, h.dj, h.fb.below hb h.fb.lt, h.ft.trans (hb.mono h.ft.size), h.or_, h.zl⟩

set_option maxRecDepth 100000 in
set_option maxHeartbeats 16000000 in
theorem noises15_any (v : Nat) (nss : List (List Int)) (A : Option Addr) (c : Nat) (n0 n1 n2 : Nat) (ws : List Nat) (Aw : Option Addr) (cw : Nat) (w : World) (hv : v ≤ 255)
    (hx : nss.length ≤ 140737488355328) (hl : ∀ j, (nss.getD j []).length ≤ 140737488355328) (hn : ∀ j k, -32768 ≤ (nss.getD j []).getD k 0 ∧ (nss.getD j []).getD k 0 ≤ 32767) (h : KRows .i16 w w.heap.size A nss)
    (hn0 : n0 < 4294967296) (hn1 : n1 < 4294967296) (hn2 : n2 < 4294967296) (hi : KInts .u64 w w.heap.size Aw (ws.map fun (x : Nat) => (x : Int))) (hcw : ws.length ≤ cw) (hws : ∀ x ∈ ws, x < 2 ^ 64) :
    Calls Try.prog 7 #[.agg #[.int .u8 v, .slice A nss.length c], .agg #[.int .u32 (n0 : Nat), .int .u32 (n1 : Nat), .int .u32 (n2 : Nat)], .slice Aw ws.length cw] w fun e w' => e = .returned (.bool true) ∧ Below w.heap.size w w' := by
  have H := Lib.hid h
  have HL := Lib.hid hl
  have HN := Lib.hid hn
  have HWI := Lib.hid (And.intro hi (And.intro hcw hws))
  clear h hl hn hi hcw hws
  go_enter Try.func7, Try.ntmps7
  go_wp2_with fail
  obtain ⟨w1, hw1⟩ : ∃ w1, w1 = (w.alloc (Obj.cells #[Value.int IntKind.u8 v, Value.slice A nss.length c] 24)).alloc (Obj.cells #[Value.int .u32 (n0 : Nat), Value.int .u32 (n1 : Nat), Value.int .u32 (n2 : Nat)] 26) := ⟨_, rfl⟩
  have HR1 := Lib.hid (show KRows .i16 w1 w.heap.size A nss by rw [hw1]; exact (H.out.alloc (Nat.le_refl _) _).alloc (by simp) _)
  have HB1 := Lib.hid (show Below w.heap.size w w1 by rw [hw1]; exact ((Below.refl _ _).alloc (Nat.le_refl _) _).alloc (by simp) _)
  have HK1 := Lib.hid (show Blk w1 w.heap.size 24 #[Value.int IntKind.u8 v, Value.slice A nss.length c] by rw [hw1]; exact (Blk.new w _ _).alloc _)
  have HQ1 := Lib.hid (show Blk w1 (w.heap.size + 1) 26 #[Value.int .u32 (n0 : Nat), Value.int .u32 (n1 : Nat), Value.int .u32 (n2 : Nat)] by rw [hw1]; exact blk_new14 (by simp))
  rw [← hw1]
  clear hw1
  refine (fit_any15 w1).mono ?_
  rintro e w2 ⟨rfl, hb2⟩
  have HR2 := Lib.hid (HR1.out.below (hb2.mono HB1.out.size))
  have HB2 := Lib.hid (HB1.out.trans (hb2.mono HB1.out.size))
  have HK2 := Lib.hid (HK1.out.below hb2 HK1.out.lt)
  have HQ2 := Lib.hid (HQ1.out.below hb2 HQ1.out.lt)
  clear hb2 HR1 HB1 HK1 HQ1
  have k0 := HK2.out.cell 0
  have k1 := HK2.out.cell 1
  simp at k0 k1
  go_wp2_with fail
  refine (light_any v nss _ A c 40 w2 (by omega) hx HL.out HR2.out HB2.out.size).mono ?_
  rintro e w3 ⟨rfl, hb3⟩
  have HR3 := Lib.hid (HR2.out.below (hb3.mono HB2.out.size))
  have HB3 := Lib.hid (HB2.out.trans (hb3.mono HB2.out.size))
  have HK3 := Lib.hid (HK2.out.below hb3 HK2.out.lt)
  have HQ3 := Lib.hid (HQ2.out.below hb3 HQ2.out.lt)
  clear hb3 HR2 HB2 HK2 HQ2 k0 k1
  have k0 := HK3.out.cell 0
  have k1 := HK3.out.cell 1
  simp at k0 k1
  rcases hlt : light nss 40 with _ | _
  · go_wp2
    go_ret
    exact ⟨rfl, HB3.out⟩
  · have hls := light_rows hlt
    have hF : v % (12 + 1) ≤ 12 := by omega
    have hFM := lightForm_rawW14 (F := v % (12 + 1)) (W := 6) (by omega) hlt
    clear hlt
    by_cases hlen : 60 < ws.length
    · have hlI : (60 : Int) < (ws.length : Int) := by omega
      go_wp2
      go_ret
      exact ⟨rfl, HB3.out⟩
    have hlI : decide ((60 : Int) < (ws.length : Int)) = false := decide_eq_false (by omega)
    have HWW : Hid (∀ W, Below w.heap.size w W → Words W w.heap.size Aw cw ws) := Lib.hid fun W hb => ⟨Cells.keep HWI.out.1 fun p hp => hb.cell hp, HWI.out.2.1, HWI.out.2.2, by omega⟩
    go_wp2_with fail
    refine (formula_any v nss _ A c 12 6 w3 hv (by omega) (by omega) hls.1 hls.2 HN.out HR3.out HB3.out.size).mono ?_
    obtain ⟨F, hFF⟩ : ∃ F, F = v % (12 + 1) := ⟨_, rfl⟩
    rw [← hFF] at hF hFM ⊢
    clear hFF
    obtain ⟨xss, hxs⟩ : ∃ xss, xss = rawForm F 6 nss := ⟨_, rfl⟩
    rw [← hxs] at hFM ⊢
    have HFM := Lib.hid hFM
    have hx1 := hFM.few
    rintro e w4 ⟨A4, c4, vs4, rfl, hown4, hlist4, hb4⟩
    have HB4 := Lib.hid (HB3.out.trans (hb4.mono HB3.out.size))
    have HQ4 := Lib.hid (HQ3.out.below hb4 HQ3.out.lt)
    have HRO4 := Lib.hid (hlist4.rows hown4)
    clear hFM hown4 hlist4 hb4 k0 k1 hxs HR3 HB3 HK3 hls HQ3 hlI
    have hqa := HQ4.out.alloc (Obj.cells #[Value.int IntKind.i64 F, Value.slice A4 xss.length c4] 32)
    have qa0 := hqa.cell 0
    have qa1 := hqa.cell 1
    have qa2 := hqa.cell 2
    simp at qa0 qa1 qa2
    clear hqa
    go_wp2_with fail
    obtain ⟨w5, hw5⟩ : ∃ w5, w5 = w4.alloc (Obj.cells #[Value.int IntKind.i64 F, Value.slice A4 xss.length c4] 32) := ⟨_, rfl⟩
    have HFB5 := Lib.hid (show Blk w5 w4.heap.size 32 #[Value.int IntKind.i64 F, Value.slice A4 xss.length c4] by rw [hw5]; exact Blk.new w4 _ _)
    have HRO5 := Lib.hid (show Rows w5 w4.heap.size A4 xss by rw [hw5]; exact HRO4.out.alloc (Nat.le_refl _) _)
    have HB5 := Lib.hid (show Below w.heap.size w w5 by rw [hw5]; exact HB4.out.alloc HB4.out.size _)
    have HQ5 := Lib.hid (show Blk w5 (w.heap.size + 1) 26 #[Value.int .u32 (n0 : Nat), Value.int .u32 (n1 : Nat), Value.int .u32 (n2 : Nat)] by rw [hw5]; exact HQ4.out.alloc _)
    have hs5 : w4.heap.size + 1 ≤ w5.heap.size := by rw [hw5]; simp
    have hs4 := HB4.out.size
    rw [← hw5]
    clear hw5 HRO4 HB4 HQ4 qa0 qa1 qa2
    have hfc := HFB5.out
    have hzl := startZ_len F (n0 : Int)
    have HSTA := Lib.hid (fun W : World => start_any F (n0 : Int) W (by omega) (by omega))
    have HNEW := Lib.hid (fun (wx W : World) (a : Nat) (h5 : Below w5.heap.size w5 wx) (hk : BlkB wx a 4 (startZ F n0)) => show Calls Try.prog 13 #[.agg #[.int .i64 F, .slice A4 xss.length c4], .slice (some ⟨a, 0, none⟩) F F] wx fun e w' => ∃ ρ g s, e = .returned (.tuple #[.pointer (some ⟨g, 0, none⟩), .int .i64 0]) ∧ St14 w' wx.heap.size ρ g (startZ F n0) (normForm xss) s ⟨0, s.row.length, [], none⟩ ∧ s = startLS (startZ F n0) (normForm xss) ∧ Below wx.heap.size wx w' from by
      have := st_new F xss (startZ F n0) wx.heap.size A4 (some ⟨a, 0, none⟩) c4 F wx (by omega) HFM.out (Rows.more (HRO5.out.below (h5.mono (by omega))) (by have := h5.size; omega)) (by have := BlkB.bools hk; exact this) (Nat.le_refl _) hzl
      rw [hzl] at this
      exact this)
    have HCE : Hid (∀ W, Below w5.heap.size w5 W → (W.cell? ⟨w4.heap.size, 0, none⟩ = some (.int .i64 F) ∧ W.cell? ⟨w4.heap.size, 1, none⟩ = some (.slice A4 xss.length c4) ∧ W.cell? ⟨w.heap.size + 1, 0, none⟩ = some (.int .u32 (n0 : Nat)))) := Lib.hid fun W hb => by
      have h1 := HFB5.out.below hb HFB5.out.lt
      have h2 := HQ5.out.below hb HQ5.out.lt
      exact ⟨by rw [h1.cell]; rfl, by rw [h1.cell]; rfl, by rw [h2.cell]; rfl⟩
    have HB50 : Hid (Below w5.heap.size w5 w5) := Lib.hid (Below.refl _ _)
    have HC0 := Lib.hid (HCE.out w5 HB50.out)
    obtain ⟨f0, f1, q0⟩ := HC0.out
    clear hfc hzl
    go_cut [8, 9] (fun p q wx => ∃ (g : Nat) (ρ : Nat → Nat) (B8 : Nat), p = .pointer (some ⟨g, 0, none⟩) ∧ q = .int .i64 0 ∧ Hid (St14 wx B8 ρ g (startZ F n0) (normForm xss) (startLS (startZ F n0) (normForm xss)) ⟨0, (startLS (startZ F n0) (normForm xss)).row.length, [], none⟩ ∧ w5.heap.size ≤ B8 ∧ Below w5.heap.size w5 wx))
    case first =>
      go_region_held3 (fun W => W.cell? ⟨w4.heap.size, 0, none⟩ = some (.int .i64 F) ∧ W.cell? ⟨w4.heap.size, 1, none⟩ = some (.slice A4 xss.length c4) ∧ W.cell? ⟨w.heap.size + 1, 0, none⟩ = some (.int .u32 (n0 : Nat))) (first | exact HC0.out | exact HC7.out | exact HC8.out)
        (first
         | (go_at_call 12; with_reducible refine (HSTA.out _).mono ?_; rintro e w7 ⟨rfl, hk7, hb7⟩; have HB7 : Hid (Below w5.heap.size w5 w7) := Lib.hid (HB50.out.drew.trans (hb7.mono HB50.out.drew.size)); have HC7 := Lib.hid (HCE.out w7 HB7.out); have HK7 := Lib.hid hk7; clear hk7 hb7)
         | (go_at_call 13; refine (HNEW.out w7 w7 _ HB7.out HK7.out).mono ?_; rintro e w8 ⟨ρ, g, s, rfl, hst, hs, hb8⟩; subst hs; have HB8 : Hid (Below w5.heap.size w5 w8) := Lib.hid (HB7.out.trans (hb8.mono HB7.out.size)); have HC8 := Lib.hid (HCE.out w8 HB8.out); have HS8 := Lib.hid hst; clear hst hb8))
      all_goals
        go_wp2_with fail
        go_meet
        exact ⟨g, ρ, _, rfl, rfl, Lib.hid ⟨HS8.out, HB7.out.size, HB8.out⟩⟩
    case rest =>
      obtain ⟨g, ρ0, B8, rfl, rfl, HS⟩ := hcut
      have hqc := HQ5.out.below HS.out.2.2 HQ5.out.lt
      have q1 := hqc.cell 1
      have q2 := hqc.cell 2
      simp at q1 q2
      have hn2u : IntKind.u64.wrap (n2 : Int) = (n2 : Int) := wrap_u64_15 (by omega)
      clear hqc f0 f1 q0
      obtain ⟨bn, hbn⟩ : ∃ bn, (Go.bits BinOp.and IntKind.u32 (n1 : Int) 1 == 1) = bn := ⟨_, rfl⟩
      go_upto_if 49 with fail
      go_cut [10] (fun a wx => ∃ nz : Nat, a = .int .i64 (nz : Nat) ∧ (nz = 0 ∨ nz = 1000) ∧ wx = wc)
      case first =>
        rcases bn with _ | _
        · go_wp2_with fail
          go_meet
          exact ⟨0, rfl, .inl rfl, rfl⟩
        · go_wp2_with fail
          go_meet
          exact ⟨1000, rfl, .inr rfl, rfl⟩
      case rest =>
        obtain ⟨nz, rfl, hnz, rfl⟩ := hcut
        clear hbn
        have HWc := Lib.hid (HWW.out wc (HB5.out.trans (HS.out.2.2.mono HB5.out.size)))
        have hB5 := HB5.out.size
        have hsc := HS.out.2.2.size
        go_wp2_with fail
        refine (rng_new HWc.out (by omega) n2 (by omega)).mono ?_
        rintro e w0 ⟨r, rfl, hsr, hb0⟩
        have hs0 := hb0.size
        obtain ⟨z0, hz0⟩ : ∃ z0, startZ F (n0 : Int) = z0 := ⟨_, rfl⟩
        have hzl0 : z0.length = F := by rw [← hz0]; exact startZ_len F _
        rw [hz0] at HS
        have HL0 : Hid (Stn15 w5 w0 ρ0 w4.heap.size B8 wc.heap.size g r F A4 c4 xss ⟨z0, startLS z0 (normForm xss), ⟨ws, seedOf n2⟩⟩ 0 ⟨0, (startLS z0 (normForm xss)).row.length, [], none⟩) := Lib.hid ⟨HS.out.1.below hb0, hsr, fun q hq => .inl (HS.out.1.fresh q hq), (HFB5.out.below HS.out.2.2 HFB5.out.lt).below hb0 (by have := HFB5.out.lt; omega), HS.out.2.2.trans (hb0.mono hsc), ⟨HS.out.2.1, hsc, by have := HFB5.out.lt; omega⟩, hzl0⟩
        have HBE := Lib.hid (show Below w.heap.size w w5 from HB5.out)
        clear hsr hb0 hz0 hzl0 HS HWc HWW HWI HSTA HNEW HCE HB50 HC0 HFB5 HRO5 HQ5 HB5 q1 q2
        go_wp2
        go_loopg [55] (15 + 1) (fun gk ti wr => ∃ (j : Nat) (ρ : Nat → Nat) (c : Cfg) (d : Nat) (b : BS), j ≤ 15 ∧ gk = 15 - j + 1 ∧ ti = .int .i64 (j : Nat) ∧ Hid (d ≤ 3 * j ∧ b.flips ≤ j) ∧ Hid (Stn15 w5 wr ρ w4.heap.size B8 wc.heap.size g r F A4 c4 xss c d b))
        case atStart => exact ⟨0, ρ0, _, 0, _, by omega, by omega, rfl, Lib.hid ⟨Nat.le_refl _, Nat.le_refl _⟩, HL0⟩
        case round =>
          obtain ⟨j, ρ, cf, d, b, hj, rfl, rfl, HD, HL⟩ := hrel
          clear HL0
          by_cases hlt : j < 15
          · have hjI : (j : Int) < 15 := by omega
            have hmm := @run_makeMap Try.prog
            have hgood := HL.out.st.good
            have hrl := hgood.rlen
            have hfw := hgood.few
            have hzv := hgood.vars
            have HGD := Lib.hid hgood
            have f0 := (HL.out.fb.alloc (.map #[] 0)).cell 0
            simp at f0
            clear hgood
            go_wp2
            obtain ⟨mp, hmp⟩ : ∃ mp, wr.heap.size = mp := ⟨_, rfl⟩
            obtain ⟨wm, hwm⟩ : ∃ wm, wm = wr.alloc (.map #[] 0) := ⟨_, rfl⟩
            have hmap0 : wm.ownsMap Try.prog 3 (plainElem (H := Unit) Try.prog 3) mp 0 (.map []) := by rw [hwm, ← hmp]; exact World.ownsMap_made _ _ _ _
            have hbm : Below wr.heap.size wr wm := by rw [hwm]; exact (Below.refl _ _).alloc (Nat.le_refl _) _
            have hsm1 : mp + 1 ≤ wm.heap.size := by rw [hwm, ← hmp]; simp
            rw [← hwm]
            rw [hmp]
            have HM0 := Lib.hid hmap0
            have HBM := Lib.hid hbm
            have hmpl : wr.heap.size ≤ mp := by omega
            have HMP := Lib.hid hmp
            have hfr : ρ mp = 0 := Decidable.not_not.1 fun e => by have := HL.out.st.fresh mp e; omega
            have HFR := Lib.hid hfr
            have hrmp : r < mp := by have := HL.out.sm.lt; omega
            have HLm := Lib.hid (show Stn15 w5 wm ρ w4.heap.size B8 wc.heap.size g r F A4 c4 xss cf d b from HL.out.below hbm)
            clear hmap0 hbm hwm hmm hmp hfr f0
            go_loopg [13] (F + 1) (fun gk tv wq => ∃ (jj kb : Nat) (D : DataW Unit), jj ≤ F ∧ gk = F - jj + 1 ∧ tv = .int .i64 ((jj : Int) + 1) ∧ kb ≤ jj ∧ Hid (wq.ownsMap Try.prog 3 (plainElem (H := Unit) Try.prog 3) mp kb D ∧ (∀ x : Int, -9223372036854775808 ≤ x → x ≤ 9223372036854775807 → D.atKey (.int .i64 x) (.lit (.int .i64 0)) = .lit (.int .i64 (wasF cf.s F jj x))) ∧ Ft (fun q => q = mp) wm wq))
            case atStart => exact ⟨0, 0, .map [], by omega, by omega, rfl, Nat.le_refl _, Lib.hid ⟨HM0.out, (fun x _ _ => by rw [wasF_zero]; rfl), Ft.refl _⟩⟩
            case round =>
              obtain ⟨jj, kb, D, hjj, rfl, rfl, hkb, HK⟩ := hrel
              clear HM0
              have hnm : ¬ w4.heap.size = mp := by have := HLm.out.or_; have := HL.out.ft.size; omega
              have hst := HLm.out.st.ft HK.out.2.2 fun q hq e => by subst e; exact hq HFR.out
              have hfb := HK.out.2.2.blk HLm.out.fb hnm
              have f0 := hfb.cell 0
              simp at f0
              by_cases hjF : jj < F
              · have HBR := Lib.hid (st_break hst ((jj : Int) + 1) (by omega))
                rw [HLm.out.zl] at HBR
                have hbvl : breakV cf.s F ((jj : Int) + 1) ≤ 100 := breakV_le HGD.out _ _
                have hnx : ∀ x, wasF cf.s F (jj + 1) x = if x = (jj : Int) + 1 then (breakV cf.s F ((jj : Int) + 1) : Int) else wasF cf.s F jj x := wasF_next cf.s F jj
                obtain ⟨bv, hbv⟩ : ∃ bv, breakV cf.s F ((jj : Int) + 1) = bv := ⟨_, rfl⟩
                rw [hbv] at HBR hbvl hnx
                have HNX := Lib.hid hnx
                have hlF : (jj : Int) + 1 ≤ (F : Int) := by omega
                clear hst hfb hnx hbv
                go_wp2_with fail
                refine HBR.out.mono ?_
                rintro e wq2 ⟨rfl, rfl⟩
                go_wp2_with (at_mapUpdate; refine wpList_mapUpdate_own _ rfl _ _ _ 66 rfl 3 3 intLaw15 Try.underlying66 _ mp kb D rfl HK.out.1 (by unfold maxLen; omega) _ _ _ rfl rfl (Maps.keyOf_int_mk Try.underlying3 (WalkArith.wf_i64 (by omega))) _ [] (plainElem_int Try.underlying3 (WalkArith.wf_i64 (by omega))) ?_)
                intro w4' hown4 hgrow4
                have HX := Lib.hid (And.intro hown4 hgrow4)
                clear hown4 hgrow4 f0
                go_wp2
                go_roundg (F - jj)
                case measure => omega
                case rel =>
                  refine ⟨jj + 1, kb + 1, _, by omega, by omega, by go_num, by omega, Lib.hid ⟨HX.out.1, fun x h1 h2 => ?_, HK.out.2.2.grown HX.out.2 fun q hq _ => by injection hq with hq; exact hq.symm⟩⟩
                  rw [HNX.out]
                  have hk : ∀ z : Int, WideAt.IsKeyLit (.int .i64 z) := fun _ => trivial
                  by_cases e : x = (jj : Int) + 1
                  · subst e
                    rw [if_pos rfl, Maps.atKey_put_same HK.out.1.isMap (hk _)]
                  · have ne : (Lit.int .i64 x) ≠ .int .i64 ((jj : Int) + 1) := by intro h; injection h with _ h; exact e h
                    rw [if_neg e, Maps.atKey_put_other ne]
                    exact HK.out.2.1 x h1 h2
              · have hje : F = jj := by omega
                have hlF : ¬ ((jj : Int) + 1 ≤ (F : Int)) := by omega
                have hlFd : decide ((jj : Int) + 1 ≤ (F : Int)) = false := decide_eq_false hlF
                subst hje
                have hsm := HLm.out.sm.ft HK.out.2.2 fun q e => .inr (by omega)
                have hor := HLm.out.or_
                have hst' := hst
                have HU := Lib.hid (st_unsat hst)
                have HD1 := Lib.hid (rng_drawn hsm)
                have hstep := wstep_any15 (c := cf) (d := d) (Bs := wc.heap.size) (r := r) (y := .noise nz) hst (by have := HD.out.2; omega) hsm (by have := HD.out.1; omega) HLm.out.dj (by show nz ≤ 1000; omega)
                have hw : wayV (.noise nz) = .agg #[.int .i64 2, .int .i64 0, .int .i64 (nz : Nat)] := rfl
                rw [hw] at hstep
                have hcs := noise_cases15 hnz HGD.out
                have h3 := stepV_draws (.noise nz) cf
                obtain ⟨vv, hvv⟩ : ∃ vv, (stepV (.noise nz) cf).1 = vv := ⟨_, rfl⟩
                obtain ⟨kk, hkk⟩ : ∃ kk, (stepV (.noise nz) cf).2 = kk := ⟨_, rfl⟩
                rw [hvv, hkk] at hstep hcs
                rw [hkk] at h3
                rw [HLm.out.zl] at hcs
                have HSTEP := Lib.hid hstep
                have HCS := Lib.hid hcs
                obtain ⟨R, hR⟩ : ∃ R, cf.s.row.length = R := ⟨_, rfl⟩
                rw [hR] at HU hrl
                have HR := Lib.hid hR
                have hfb2 := hfb
                clear hst' hw hcs hvv hkk hstep hR
                go_wp2_with fail
                refine HU.out.mono ?_
                rintro e wq2 ⟨rfl, rfl⟩
                go_wp2_with fail
                refine HD1.out.mono ?_
                rintro e wq3 ⟨rfl, rfl⟩
                go_wp2_with fail
                refine HSTEP.out.mono ?_
                rintro e wd ⟨rfl, ρ', b', hp, hbs⟩
                have hmapd := hp.ft.map HK.out.1 (fun e => e.elim (fun e => e HFR.out) fun e => by omega)
                have hbd : Below w5.heap.size wr wd := hp.ft.below (by have := HLm.out.ft.size; have := HK.out.2.2.size; omega) fun q e => by
                  rcases e with e | e
                  · have := HLm.out.st.lo q e; omega
                  · have := hsm.low; omega
                have hbw : Below w5.heap.size w5 wr := HLm.out.ft.trans (HK.out.2.2.below HLm.out.ft.size fun q e => by have := HL.out.ft.size; omega)
                have HLn : Hid (Stn15 w5 wd ρ' w4.heap.size B8 wc.heap.size g r F A4 c4 xss (stepC (.noise nz) cf) (d + kk) b') := Lib.hid ⟨hp.st, hp.sm, hp.dj, hp.ft.blk hfb2 (fun e => by
                  rcases e with e | e
                  · have := HLm.out.st.lo _ e; omega
                  · have := hsm.low; omega), hbw.trans hbd, HLm.out.or_, by rw [stepC_len]; exact HLm.out.zl⟩
                have HDN := Lib.hid (show d + kk ≤ 3 * (j + 1) ∧ b'.flips ≤ j + 1 from ⟨by have := HD.out.1; omega, by have := hbs.flips; have := HD.out.2; omega⟩)
                have HD2 := Lib.hid (rng_drawn hp.sm)
                have hkx : ((d + kk : Nat) : Int) - (d : Int) = (kk : Int) := by omega
                obtain ⟨D2, hD2⟩ : ∃ D2, d + kk = D2 := ⟨_, rfl⟩
                rw [hD2] at HD2 hkx
                have hd2b : D2 ≤ 100 ∧ d ≤ 100 := by have := HD.out.1; omega
                have HMD := Lib.hid (And.intro hmapd HK.out.2.1)
                clear hst hsm hfb hfb2 hp hbs hmapd hbd hbw hD2 HK HSTEP HU HD1 f0 hlF hlFd
                go_wp2_with fail
                refine HD2.out.mono ?_
                rintro e wq4 ⟨rfl, rfl⟩
                clear HD2
                rcases HCS.out with ⟨c1, c2, c3⟩ | ⟨c1, c2, c3⟩ | ⟨c1, c2, c2', c3⟩
                · have hR0 : R = 0 := by rw [← HR.out, c1]; rfl
                  subst hR0 c2 c3
                  clear c1
                  go_wp2
                  go_roundg (15 - j)
                  case measure => omega
                  case rel => exact ⟨j + 1, ρ', _, _, b', by omega, by omega, by go_num, Lib.hid HDN.out, HLn⟩
                · have hR0 : R ≠ 0 := fun e => c1 (List.eq_nil_of_length_eq_zero (by rw [HR.out]; exact e))
                  have hRz : ((R : Int) == 0) = false := by simp; omega
                  subst c2 c3
                  clear c1 hR0
                  go_wp2
                  go_roundg (15 - j)
                  case measure => omega
                  case rel => exact ⟨j + 1, ρ', _, _, b', by omega, by omega, by go_num, Lib.hid HDN.out, HLn⟩
                · have hR0 : R ≠ 0 := fun e => c1 (List.eq_nil_of_length_eq_zero (by rw [HR.out]; exact e))
                  have hRz : ((R : Int) == 0) = false := by simp; omega
                  have hvz : (vv == 0) = false := by simp; omega
                  have hwas : wasF cf.s F F vv = (breakV cf.s F vv : Int) := by unfold wasF; rw [if_pos (by omega)]
                  have hat0 := HMD.out.2 vv (by omega) (by omega)
                  rw [hwas] at hat0
                  obtain ⟨bv, hbv⟩ : ∃ bv, breakV cf.s F vv = bv := ⟨_, rfl⟩
                  rw [hbv] at hat0 c3
                  have HAT0 := Lib.hid hat0
                  clear c1 hR0 hwas hbv hat0
                  rcases c3 with ⟨b0, e1⟩ | ⟨b0, hz1, e1⟩ | ⟨b0, hz1, e1⟩
                  · subst b0 e1
                    go_wp2_with (at_lookup; refine wpList_lookup_own_int _ rfl _ _ 66 rfl 3 3 .i64 intLaw15 Try.underlying66 Try.underlying3 (zeroI15 _) mp kb D rfl HMD.out.1 _ _ rfl (Maps.keyOf_int_mk Try.underlying3 (WalkArith.wf_i64 (by omega))) ?_; intro c9 hat hwc; obtain rfl : c9 = ((0 : Nat) : Int) := by rw [HAT0.out] at hat; injection hat with hat; injection hat with _ hat; exact hat.symm)
                    go_roundg (15 - j)
                    case measure => omega
                    case rel => exact ⟨j + 1, ρ', _, _, b', by omega, by omega, by go_num, Lib.hid HDN.out, HLn⟩
                  · have hb0 : ((bv : Int) == 0) = false := by simp; omega
                    subst hz1 e1
                    clear hnz b0
                    go_wp2_with (at_lookup; refine wpList_lookup_own_int _ rfl _ _ 66 rfl 3 3 .i64 intLaw15 Try.underlying66 Try.underlying3 (zeroI15 _) mp kb D rfl HMD.out.1 _ _ rfl (Maps.keyOf_int_mk Try.underlying3 (WalkArith.wf_i64 (by omega))) ?_; intro c9 hat hwc; obtain rfl : c9 = (bv : Int) := by rw [HAT0.out] at hat; injection hat with hat; injection hat with _ hat; exact hat.symm)
                    go_roundg (15 - j)
                    case measure => omega
                    case rel => exact ⟨j + 1, ρ', _, _, b', by omega, by omega, by go_num, Lib.hid HDN.out, HLn⟩
                  · have hb0 : ((bv : Int) == 0) = false := by simp; omega
                    subst hz1 e1
                    clear hnz b0
                    go_wp2_with (at_lookup; refine wpList_lookup_own_int _ rfl _ _ 66 rfl 3 3 .i64 intLaw15 Try.underlying66 Try.underlying3 (zeroI15 _) mp kb D rfl HMD.out.1 _ _ rfl (Maps.keyOf_int_mk Try.underlying3 (WalkArith.wf_i64 (by omega))) ?_; intro c9 hat hwc; obtain rfl : c9 = (bv : Int) := by rw [HAT0.out] at hat; injection hat with hat; injection hat with _ hat; exact hat.symm)
                    go_roundg (15 - j)
                    case measure => omega
                    case rel => exact ⟨j + 1, ρ', _, _, b', by omega, by omega, by go_num, Lib.hid HDN.out, HLn⟩
          · have hje : j = 15 := by omega
            subst hje
            have HBF := Lib.hid (HBE.out.trans (HL.out.ft.mono HBE.out.size))
            go_wp2
            go_ret
            exact ⟨rfl, HBF.out⟩

theorem noises15_raw (u : Int) (nss : List (List Int)) (A : Option Addr) (c' : Nat) (a b c : Int) (w : World) (Al : Option Addr) (len cap : Nat) (z : Nat → Int) (hu : (Lit.int .u8 u).wf = true)
    (hx : nss.length ≤ 5864062014805) (m : ∀ j, (nss.getD j []).length * 2 ≤ 140737488351232) (hn : ∀ j i, (Lit.int .i16 ((nss.getD j []).getD i 0)).wf = true) (h : KRows .i16 w w.heap.size A nss)
    (wa : (Lit.int .u32 a).wf = true) (wb : (Lit.int .u32 b).wf = true) (wc : (Lit.int .u32 c).wf = true) (hi : IsInts .u64 w Al len cap z) :
    Calls Try.prog 7 #[.agg #[.int .u8 u, .slice A nss.length c'], .agg #[.int .u32 a, .int .u32 b, .int .u32 c], .slice Al len cap] w fun e w' => e = .returned (.bool true) ∧ Below w.heap.size w w' := by
  obtain ⟨v, rfl, hv⟩ := u8_nat14 hu
  obtain ⟨n0, rfl, hn0⟩ := u32_of15 wa
  obtain ⟨n1, rfl, hn1⟩ := u32_of15 wb
  obtain ⟨n2, rfl, hn2⟩ := u32_of15 wc
  obtain ⟨ws, rfl, hcw, hk, hws⟩ := words_of15 hi
  exact noises15_any v nss A c' n0 n1 n2 ws Al cap w hv (by omega) (fun j => by have := m j; omega) (fun j k => by have := bounds_i16 (hn j k); omega) h hn0 hn1 hn2 hk hcw hws
end Go.Proofs.Ytllgepabjglnaaa
