/- The statement on what is done to the rise alone. -/
import Derived.Test.YtnimmlfccgnneaaFit16
import Derived.Test.YtnimmlfccgnneaaCnt16
namespace Go.Proofs.Ytnimmlfccgnneaa
open Go.RowKit
set_option linter.unusedVariables false
set_option linter.unusedSimpArgs false

/-- the rise, k times risen -/
def riseK : Nat → Nat
  | 0 => 1048576
  | k + 1 => 16 * riseK k / 15 + 1
theorem riseK_ok : ∀ k, k < 100 → riseK k ≤ 1125899906842624 := by
  have h : ∀ k : Fin 100, riseK k.1 ≤ 1125899906842624 := by decide +kernel
  exact fun k hk => h ⟨k, hk⟩
theorem riseK_lt (k : Nat) : riseK k < riseK (k + 1) := by
  show riseK k < 16 * riseK k / 15 + 1
  omega
theorem decay_riseK {s : SP} {k : Nat} (hk : k + 1 < 100) (h : s.rise = riseK k) : s.decay = ⟨s.sc, s.inn, riseK (k + 1)⟩ := by
  have hr : s.rose = ⟨s.sc, s.inn, riseK (k + 1)⟩ := by unfold SP.rose; rw [h]; rfl
  have := riseK_ok (k + 1) hk
  unfold SP.decay
  rw [hr, if_neg (by show ¬ 1125899906842624 < riseK (k + 1); omega)]
/-- few bumps divide nothing -/
structure Low16 (s : SP) (B n : Nat) : Prop where
  rise : s.rise = 1048576
  sc : ∀ i, s.sc.getD i 0 ≤ B
  all : s.inn = List.replicate n true
theorem Low16.bump {s : SP} {B n : Nat} (h : Low16 s B n) (hB : B ≤ 100000000) (V : Int) : Low16 (s.bump V) (B + 1048576) n := by
  by_cases hv : s.isV V = true
  · have hv2 := SP.isV_iff.1 hv
    obtain ⟨k, hk⟩ : ∃ k, k = V.toNat - 1 := ⟨_, rfl⟩
    have h1 := SP.up_get (s := s) (k := k) (by omega)
    have h2 := h.sc k
    have h3 := h.rise
    have e : s.bump V = s.up k := by
      unfold SP.bump
      rw [if_pos hv, ← hk, if_neg (by omega)]
    rw [e]
    refine ⟨h3, fun i => ?_, h.all⟩
    have h4 := h.sc i
    by_cases e : i = k
    · rw [e]; omega
    · have : (s.up k).sc.getD i 0 = s.sc.getD i 0 := by
        show (s.sc.set k _).getD i 0 = _
        rw [getD_set_nat, if_neg (by omega)]
      omega
  · have e : s.bump V = s := by unfold SP.bump; rw [if_neg hv]
    rw [e]
    exact ⟨h.rise, fun i => Nat.le_trans (h.sc i) (by omega), h.all⟩
theorem Low16.more {s : SP} {B n : Nat} (h : Low16 s B n) : Low16 s (B + 1048576) n := ⟨h.rise, fun i => Nat.le_trans (h.sc i) (by omega), h.all⟩
theorem Low16.first {s : SP} {B n : Nat} (h : Low16 s B (n + 1)) (hg : s.Good (n + 1)) : s.first ≠ 0 := by
  intro e
  have := (cntB_zero (n := n + 1)).1 ((SP.first_zero hg).1 e) 0 (by omega)
  rw [h.all] at this
  simp [List.getD] at this
theorem zeros9 : #[Value.int .i64 0, Value.int .i64 0, Value.int .i64 0, Value.int .i64 0, Value.int .i64 0, Value.int .i64 0, Value.int .i64 0, Value.int .i64 0, Value.int .i64 0] = natCells (List.replicate 9 0) := by rfl

set_option maxRecDepth 100000 in
set_option maxHeartbeats 2000000 in
theorem decay_out (kk : Nat) (ds : List DeedV) (A0 : Option Addr) (c0 : Nat) (w : World) (hm : 60 < ds.length) :
    Calls Try.prog 7 #[.slice A0 ds.length c0, .int .u8 kk] w fun e w' => e = .returned (.bool true) ∧ Below w.heap.size w w' := by
  go_enter Try.func7, Try.ntmps7
  go_wp2_with fail
  refine (fit_any16 w).mono ?_
  rintro e w1 ⟨rfl, hb⟩
  go_wp2
  go_ret
  exact ⟨rfl, hb⟩

set_option maxRecDepth 100000 in
set_option maxHeartbeats 20000000 in
theorem decay_in (kk : Nat) (ds : List DeedV) (A0 : Option Addr) (c0 : Nat) (w : World) (hkk : kk ≤ 255) (hn : ds.length ≤ 60) (hok : ∀ d ∈ ds, d.ok) (h : Deeds w w.heap.size A0 ds) :
    Calls Try.prog 7 #[.slice A0 ds.length c0, .int .u8 kk] w fun e w' => e = .returned (.bool true) ∧ Below w.heap.size w w' := by
  have H := Lib.hid h
  have OK := Lib.hid hok
  clear h hok
  obtain ⟨n, hn100⟩ : ∃ n, kk % 100 = n := ⟨_, rfl⟩
  have e1 : (kk : Int) % 100 = (n : Int) := by omega
  have e2 : Int.tmod (kk : Int) 100 = (n : Int) := by rw [Int.tmod_eq_emod_of_nonneg (by omega)]; exact e1
  have hn99 : n < 100 := by omega
  have e3 : IntKind.u8.wrap (n : Int) = (n : Int) := by simp [IntKind.wrap, IntKind.signed, IntKind.bits]; omega
  clear hn100
  have HBEG := Lib.hid (fun w => begin_any16 8 (by omega) w)
  go_enter Try.func7, Try.ntmps7
  go_wp2_with fail
  refine (fit_any16 w).mono ?_
  rintro e w1 ⟨rfl, hb⟩
  have HB1 := Lib.hid hb
  clear hb

  go_wp2_with fail
  refine (HBEG.out w1).mono ?_
  rintro e w2 ⟨b, m, rfl, k1, k2, k3⟩
  have HP0 : Hid (Lp16 w w2 b m 8 (SP.fresh 8)) := Lib.hid ⟨k1, HB1.out.trans (k2.mono HB1.out.size)⟩
  have HN : Hid (∀ q, foot2 b m q → w.heap.size ≤ q) := Lib.hid fun q hq => Nat.le_trans HB1.out.size (k3 q hq)
  clear k1 k2 k3

  have HL0 : Hid (∃ B, B ≤ 0 * 1048576 ∧ Low16 (SP.fresh 8) B 8) := Lib.hid ⟨0, by omega, rfl, fun i => by
    show (List.replicate 8 0).getD i 0 ≤ _
    by_cases hi : i < 8
    · simp only [List.getD, List.getElem?_replicate, if_pos hi]; exact Nat.le_refl _
    · rw [getD_big _ _ (by simpa using hi)]; omega, rfl⟩
  go_wp2_with fail
  go_loopg [28] (ds.length + 1) (fun gk i wr => ∃ (k : Nat) (s : SP), k ≤ ds.length ∧ gk = ds.length - k + 1 ∧ i = .int .i64 k ∧ Hid (Lp16 w wr b m 8 s) ∧ Hid (∃ B, B ≤ k * 1048576 ∧ Low16 s B 8))
  case atStart => exact ⟨0, _, by omega, by omega, rfl, HP0, HL0⟩
  case round =>
    obtain ⟨k, s, hk, rfl, rfl, HP, HL⟩ := hrel
    by_cases hlt : k < ds.length
    · skip
      obtain ⟨bd, off, rfl, _, d, hd, d0, d1, d2⟩ := (H.out.below HP.out.fr).at_ hlt
      have hdo : d.ok := by rw [hd, List.getD, List.getElem?_eq_getElem hlt]; exact OK.out _ (List.getElem_mem hlt)
      obtain ⟨o1, o2, o3⟩ := hdo
      have O1 := Lib.hid o1
      have O2 := Lib.hid o2
      obtain ⟨wd, hwd⟩ : ∃ wd, wd = wr.alloc (.cells #[.int .u8 d.kd, .int .i64 d.l, .int .i64 d.r] 29) := ⟨_, rfl⟩
      have hbd : Below wr.heap.size wr wd := by rw [hwd]; exact (Below.refl _ _).alloc (Nat.le_refl _) _
      have HDd : Hid (Blk wd wr.heap.size 29 #[.int .u8 d.kd, .int .i64 d.l, .int .i64 d.r]) := Lib.hid (by rw [hwd]; exact Blk.new wr _ _)
      have HPd := Lib.hid (HP.out.low hbd)
      have HWD := Lib.hid hwd
      have hkI : (k : Int) < (ds.length : Int) := by omega
      clear hd hwd hbd o1 o2 o3

      have HTM : Hid ((d.kd : Int).tmod 7 = (d.kd : Int) % 7) := Lib.hid (Int.tmod_eq_emod_of_nonneg (by omega))
      obtain ⟨t, ht⟩ : ∃ t : Nat, (d.kd : Int) % 7 = (t : Int) := ⟨d.kd % 7, by omega⟩
      have ht2 : (d.kd : Int).tmod 7 = (t : Int) := HTM.out.trans ht
      have et : IntKind.u8.wrap (t : Int) = (t : Int) := by simp [IntKind.wrap, IntKind.signed, IntKind.bits]; omega
      have c0 := HDd.out.cell 0
      have c1 := HDd.out.cell 1
      have c2 := HDd.out.cell 2
      simp at c0 c1 c2
      have HK60 : Hid (k < 60) := Lib.hid (by omega)
      by_cases h4 : (t : Int) < 4
      · have HDE : Hid (s.deed d.kd d.l (d.r % 256).toNat = s.bump d.l) := Lib.hid (by unfold SP.deed; rw [if_pos (by omega)])
        clear ht
        go_wp2_with fail
        (try rw [← HWD.out])
        refine (do_any16 HPd.out.pr d.kd d.l d.r (by have := O1.out; omega) O2.out).mono ?_
        rintro e w3 ⟨rfl, k1⟩
        have HP3 := Lib.hid (HPd.out.step k1 HN.out)
        clear k1

        rw [HDE.out] at HP3
        go_wp2_with fail
        go_roundg (ds.length - k)
        case measure => omega
        case rel => exact ⟨k + 1, _, by omega, by omega, by go_num, HP3, Lib.hid (by obtain ⟨B, h1, h2⟩ := HL.out; exact ⟨_, by omega, h2.bump (by have := HK60.out; omega) d.l⟩)⟩
      · have h4n : ¬ (t : Int) < 4 := h4
        clear ht
        go_wp2_with fail
        (try rw [← HWD.out])
        go_roundg (ds.length - k)
        case measure => omega
        case rel => exact ⟨k + 1, _, by omega, by omega, by go_num, HPd, Lib.hid (by obtain ⟨B, h1, h2⟩ := HL.out; exact ⟨_, by omega, h2.more⟩)⟩
    · obtain ⟨w4, rfl⟩ : ∃ w4 : World, w4 = wr := ⟨_, rfl⟩
      have HG := Lib.hid HP.out.pr.st.good
      have HRI : Hid (s.rise = 1048576) := Lib.hid (by obtain ⟨B, h1, h2⟩ := HL.out; exact h2.rise)
      have HFN : Hid (s.first ≠ 0) := Lib.hid (by obtain ⟨B, h1, h2⟩ := HL.out; exact h2.first HG.out)
      obtain ⟨wa, hwa⟩ : ∃ wa, wa = w4.alloc (.cells #[Value.int .i64 0, Value.int .i64 0, Value.int .i64 0, Value.int .i64 0, Value.int .i64 0, Value.int .i64 0, Value.int .i64 0, Value.int .i64 0, Value.int .i64 0] 43) := ⟨_, rfl⟩
      obtain ⟨aa, haa⟩ : ∃ aa, aa = w4.heap.size := ⟨_, rfl⟩
      have HA : Hid (Blk wa aa 43 (natCells (List.replicate 9 0))) := Lib.hid (by rw [hwa, haa, ← zeros9]; exact Blk.new w4 _ _)
      have HPa : Hid (Lp16 w wa b m 8 s) := Lib.hid (HP.out.low (by rw [hwa]; exact (Below.refl _ _).alloc (Nat.le_refl _) _))
      have HNA : Hid (∀ q, foot2 b m q → q ≠ aa) := Lib.hid fun q hq => by have := HP.out.pr.lt hq; omega
      have HWA : Hid (w.heap.size ≤ aa) := Lib.hid (by rw [haa]; exact HP.out.fr.size)
      have HW := Lib.hid hwa
      have HAA := Lib.hid haa
      clear hwa haa
      go_wp2_with fail
      rw [← HW.out, ← HAA.out]
      go_loopg [44] (10) (fun gk i wr => ∃ (k : Nat) (xs : List Nat), k ≤ 9 ∧ gk = 9 - k + 1 ∧ i = .int .i64 k ∧ Hid (Lp16 w wr b m 8 s) ∧ Hid (Blk wr aa 43 (natCells xs)) ∧ Hid (xs.length = 9 ∧ ∀ i : Nat, i < k → xs.getD i 0 = s.score i))
      case atStart => exact ⟨0, _, by omega, by omega, rfl, HPa, HA, Lib.hid ⟨by simp, fun i hi => by omega⟩⟩
      case round =>
        obtain ⟨k, xs, hk, rfl, rfl, HP, HA, HX⟩ := hrel
        by_cases hlt2 : k < 9
        · have HSC := Lib.hid (score_st HP.out.pr.st (k : Int) (by omega))
          obtain ⟨v, hv⟩ : ∃ v : Nat, v = s.score (k : Int) := ⟨_, rfl⟩
          rw [← hv] at HSC
          have ca := (HA.out.cell k).trans (natCells_get (by rw [HX.out.1]; exact hlt2))
          have fa := HA.out.frozen k
          have hk9 : (k : Int) < 9 := by omega
          have A2 := Lib.hid (HA.out.set_ k (.int .i64 (v : Nat)))
          have F2 := (Ft.refl (F := fun q => q = aa) wr).set (q := aa) (fun _ => rfl) k (.int .i64 (v : Nat))
          have HP2 : Hid (Lp16 w (wr.setCell ⟨aa, k, none⟩ (.int .i64 (v : Nat))) b m 8 s) := Lib.hid (HP.out.set (HP.out.pr.ft F2 fun q hq e => HNA.out q hq e) (F2.mono fun q e => by rw [e]; exact HWA.out))
          have HX2 : Hid ((xs.set k v).length = 9 ∧ ∀ i : Nat, i < k + 1 → (xs.set k v).getD i 0 = s.score i) := Lib.hid ⟨by simp [HX.out.1], fun i hi => by
            rw [getD_set_nat, HX.out.1]
            by_cases e : i = k
            · subst e; rw [if_pos ⟨rfl, hlt2⟩]; exact hv
            · rw [if_neg (fun h => e h.1)]; exact HX.out.2 i (by omega)⟩
          clear hv F2
          go_wp2_with fail
          refine HSC.out.mono ?_
          rintro e w6 ⟨rfl, rfl⟩
          go_wp2_with fail
          go_roundg (9 - k)
          case measure => omega
          case rel => exact ⟨k + 1, _, by omega, by omega, by go_num, HP2, Lib.hid (by rw [← natCells_set]; exact A2.out), HX2⟩
        · obtain ⟨w5, rfl⟩ : ∃ w5 : World, w5 = wr := ⟨_, rfl⟩
          obtain rfl : k = 9 := by omega
          have HFS := Lib.hid (first_st HP.out.pr.st)
          have HRS := Lib.hid (rise_st HP.out.pr.st)
          rw [HRI.out] at HRS
          obtain ⟨f, hf⟩ : ∃ f, f = s.first := ⟨_, rfl⟩
          have HFF : Hid (f = s.first) := Lib.hid hf
          rw [← hf] at HFS
          rw [show decide (f ≠ 0) = true by rw [hf]; simp [HFN.out]] at HFS
          have HS0 : Hid (St16 w5 b 8 ⟨s.sc, s.inn, riseK 0⟩) := Lib.hid (by
            have : s = ⟨s.sc, s.inn, riseK 0⟩ := by
              have := HRI.out
              cases s
              simp only at this
              rw [this]
              rfl
            rw [← this]
            exact HP.out.pr.st)
          have HB5 : Hid (Below w.heap.size w w5) := Lib.hid HP.out.fr
          have HNB : Hid (∀ q, b.foot q → w.heap.size ≤ q) := Lib.hid fun q hq => HN.out q (.inl hq)
          have HAL : Hid (aa < w5.heap.size) := Lib.hid HA.out.lt
          clear hlt2 hf
          go_wp2_with fail
          refine HFS.out.mono ?_
          rintro e w6 ⟨rfl, rfl⟩
          go_wp2_with fail
          refine HRS.out.mono ?_
          rintro e w6 ⟨rfl, rfl⟩
          go_wp2_with fail
          go_loopg [13, 62] (n + 1) (fun gk rv iv wr => ∃ k : Nat, k ≤ n ∧ gk = n - k + 1 ∧ rv = .int .i64 (riseK k : Nat) ∧ iv = .int .u8 k ∧ Hid (St16 wr b 8 ⟨s.sc, s.inn, riseK k⟩) ∧ Hid (Blk wr aa 43 (natCells xs)) ∧ Hid (Below w.heap.size w wr))
          case atStart => exact ⟨0, by omega, by omega, rfl, rfl, HS0, HA, HB5⟩
          case round =>
            obtain ⟨k, hk, rfl, rfl, rfl, HS, HA, HB⟩ := hrel
            by_cases hlt3 : k < n
            · have HDS := Lib.hid (decay_st HS.out)
              have hde : (SP.mk s.sc s.inn (riseK k)).decay = ⟨s.sc, s.inn, riseK (k + 1)⟩ := decay_riseK (by omega) rfl
              rw [hde] at HDS
              have hr := riseK_lt k
              have HRK : Hid (∀ w', St16 w' b 8 ⟨s.sc, s.inn, riseK (k + 1)⟩ → Calls Try.prog 11 #[.pointer (some ⟨b.g, 0, none⟩)] w' fun e w'' => e = .returned (.int .i64 (riseK (k + 1) : Nat)) ∧ w' = w'') := Lib.hid fun w' h => rise_st h
              have hrb := riseK_ok (k + 1) (by omega)
              obtain ⟨x, hx⟩ : ∃ x, x = riseK k := ⟨_, rfl⟩
              obtain ⟨y, hy⟩ : ∃ y, y = riseK (k + 1) := ⟨_, rfl⟩
              rw [← hx] at hr ⊢
              rw [← hy] at hr HRK hrb
              have HY := Lib.hid hy
              have c1 : ¬ (y : Int) ≤ (x : Int) := by omega
              have hkI : (k : Int) < (n : Int) := by omega
              have ek : IntKind.u8.wrap ((k : Int) + 1) = (k : Int) + 1 := by simp [IntKind.wrap, IntKind.signed, IntKind.bits]; omega
              clear hx hy hde
              go_wp2_with fail
              refine HDS.out.mono ?_
              rintro e w7 ⟨rfl, k1, k2⟩
              have HS7 := Lib.hid k1
              have HA7 := Lib.hid (k2.blk HA.out fun h => HNA.out _ (.inl h) rfl)
              have HB7 := Lib.hid (HB.out.trans (k2.below HB.out.size HNB.out))
              clear k1 k2
              rw [← HY.out] at HS7
              go_wp2_with fail
              refine (HRK.out w7 HS7.out).mono ?_
              rintro e w8 ⟨rfl, rfl⟩
              go_wp2_with fail
              refine (HRK.out w7 HS7.out).mono ?_
              rintro e w8 ⟨rfl, rfl⟩
              go_wp2_with fail
              go_roundg (n - k)
              case measure => omega
              case rel => exact ⟨k + 1, by omega, by omega, by rw [← HY.out], by go_num, by rw [← HY.out]; exact HS7, HA7, HB7⟩
            · obtain ⟨w6, rfl⟩ : ∃ w6 : World, w6 = wr := ⟨_, rfl⟩
              obtain rfl : n = k := by omega
              have hrb := riseK_ok n (by omega)
              obtain ⟨y, hy⟩ : ∃ y, y = riseK n := ⟨_, rfl⟩
              rw [← hy] at HS hrb ⊢
              clear hy
              go_wp2_with fail
              go_loopg [73] (10) (fun gk i wr => ∃ (k j : Nat), k ≤ 9 ∧ gk = 9 - k + 1 ∧ i = .int .i64 k ∧ wr = w6.drewN j)
              case atStart => exact ⟨0, 0, by omega, by omega, rfl, rfl⟩
              case round =>
                obtain ⟨k, j, hk, rfl, rfl, hw⟩ := hrel
                obtain ⟨w7, rfl⟩ : ∃ w7 : World, w7 = wr := ⟨_, rfl⟩
                have HW7 := Lib.hid hw
                have HS7 : Hid (St16 w7 b 8 ⟨s.sc, s.inn, y⟩) := Lib.hid (by rw [hw]; exact HS.out.drewN j)
                have HA7 : Hid (Blk w7 aa 43 (natCells xs)) := Lib.hid (by rw [hw]; exact HA.out.drewN j)
                clear hw
                by_cases hlt4 : k < 9
                · have HSC := Lib.hid (fun q => score_st (HS7.out.drewN q) (k : Int) (by omega))
                  have ca := (HA7.out.cell k).trans (natCells_get (by rw [HX.out.1]; exact hlt4))
                  rw [HX.out.2 k hlt4] at ca
                  have hsv : (SP.mk s.sc s.inn y).score (k : Int) = s.score (k : Int) := rfl
                  rw [hsv] at HSC
                  obtain ⟨v, hv⟩ : ∃ v : Nat, v = s.score (k : Int) := ⟨_, rfl⟩
                  rw [← hv] at HSC ca
                  have hk9 : (k : Int) < 9 := by omega
                  clear hv hsv
                  go_wp2_with fail
                  go_quiet ((go_at_call 14; with_reducible exact quiet_left (HSC.out _)))
                  go_wp2_with fail
                  go_roundg (9 - k)
                  case measure => omega
                  case rel => exact ⟨k + 1, _, by omega, by omega, by go_num, by rw [HW7.out, World.drewN_drewN]⟩
                · have HFS := Lib.hid (first_st HS7.out)
                  have hfe : (SP.mk s.sc s.inn y).first = f := HFF.out.symm
                  rw [hfe] at HFS
                  rw [show decide (f ≠ 0) = true by rw [HFF.out]; simp [HFN.out]] at HFS
                  have HB7 : Hid (Below w.heap.size w w7) := Lib.hid (by rw [HW7.out]; exact below_drewN HB.out j)
                  have hyb : (y : Int) ≤ 1125899906842624 := by omega
                  clear hfe
                  go_wp2_with fail
                  refine HFS.out.mono ?_
                  rintro e w8 ⟨rfl, rfl⟩
                  go_wp2
                  go_ret
                  exact ⟨rfl, HB7.out⟩

open Go.ChangeShapes Go.WideShapes Go.ChangeAt Go.Deep Go.Joins in
theorem decay_raw (a1 : Int) (A : Option Addr) (c : Nat) (ds : List DeedV) (W : World) (w1 : (Lit.int .u8 a1).wf = true) (hok : ∀ d ∈ ds, d.ok) (h : Deeds W W.heap.size A ds) :
    Calls Try.prog 7 #[.slice A ds.length c, .int .u8 a1] W fun e w' => e = .returned (.bool true) ∧ Below W.heap.size W w' := by
  have b0 := bounds_u8 w1
  obtain ⟨n0, rfl⟩ : ∃ n : Nat, a1 = n := ⟨a1.toNat, by omega⟩
  by_cases hm : 60 < ds.length
  · exact decay_out n0 ds A c W hm
  · exact decay_in n0 ds A c W (by omega) (by omega) hok h
end Go.Proofs.Ytnimmlfccgnneaa
