/- The statement on what is picked. -/
import Derived.Test.YtjjpgiahifkinaaLaw11
import Derived.Test.YtjjpgiahifkinaaOpenPair
namespace Go.Proofs.Ytjjpgiahifkinaa
open Go.RowKit
set_option linter.unusedVariables false
set_option linter.unusedSimpArgs false

theorem made_mod (e : Bool) (x : Nat) (w : World) : Calls Try.prog 9 #[.bool e, .int .u8 ((x : Int) % 256)] w fun v w' => v = .returned (.tuple #[.int .i64 (kindI e), .int .i64 (baseN e (x % 256) : Int)]) ∧ w = w' := by
  rw [show (x : Int) % 256 = ((x % 256 : Nat) : Int) by omega]
  exact made_any e _ (Nat.mod_lt _ (by decide)) w
theorem picks_out (e : Bool) (a : Option Addr) (len cap : Nat) (x0 x1 : Int) (w : World) (h : 100 < len) :
    Calls Try.prog 4 #[.bool e, .slice a len cap, .agg #[.int .u64 x0, .int .u64 x1]] w fun v w' => v = .returned (.bool true) ∧ Below w.heap.size w w' := by
  go_enter Try.func4, Try.ntmps4
  go_wp2_with fail
  refine (fit_any _).mono ?_
  rintro v w1 ⟨rfl, hb⟩
  go_wp2
  go_ret
  exact ⟨rfl, ((Below.refl _ _).alloc (Nat.le_refl _) _).trans (hb.mono (by simp))⟩

set_option maxHeartbeats 2000000 in
theorem picks_in (e : Bool) {A : Option Addr} (n c : Nat) {xs : List Int} (x0 x1 : Nat) (h0 : x0 < 2 ^ 64) (w : World) (hn : xs.length = n) (hl : n ≤ 100) (hx : Ints w w.heap.size A xs) :
    Calls Try.prog 4 #[.bool e, .slice A n c, .agg #[.int .u64 x0, .int .u64 x1]] w fun v w' => v = .returned (.bool true) ∧ Below w.heap.size w w' := by
  have HO := Lib.hid (baseN_ok e (x1 % 256))
  have HM := Lib.hid (fun w => made_mod e x1 w)
  obtain ⟨b, hb⟩ : ∃ b, baseN e (x1 % 256) = b := ⟨_, rfl⟩
  rw [hb] at HO HM
  clear hb
  have HNEW := Lib.hid (fun w => new_any HO.out w)
  have HL := Lib.hid (fun k w => law_weight HO.out k w)
  have HLE := Lib.hid (fun k => wt_le HO.out k)
  have HX := Lib.hid hx
  have HN := Lib.hid hn
  obtain ⟨kd, hkd⟩ : ∃ kd, kindI e = kd := ⟨_, rfl⟩
  rw [hkd] at HM HNEW HL
  clear hkd hx hn
  go_enter Try.func4, Try.ntmps4
  go_wp2_with fail
  refine (fit_any _).mono ?_
  rintro v w1 ⟨rfl, hb⟩
  have HB := Lib.hid (((Below.refl w.heap.size w).alloc (Nat.le_refl _) _).trans (hb.mono (by simp)))
  have HP := Lib.hid (Blk.below (Blk.new w 33 #[.int .u64 x0, .int .u64 x1]) hb (by simp))
  have hsz := hb.size
  simp at hsz
  clear hb
  have c1 := HP.out.c1
  have c0 := HP.out.c0
  go_wp2_with fail
  with_reducible refine (HM.out _).mono ?_
  rintro v w2 ⟨rfl, rfl⟩
  go_wp2_with fail
  with_reducible refine (HNEW.out _).mono ?_
  rintro v w2 ⟨g, rfl, hg, ht, hb⟩
  have HT := Lib.hid ht
  have HB2 := Lib.hid (HB.out.trans (hb.mono HB.out.size))
  have HX2 := Lib.hid (Cells.below HX.out HB2.out)
  have hx2 : Ints w2 w2.heap.size A xs := Cells.more HX2.out HB2.out.size
  have HP2 := Lib.hid (HP.out.below hb (by omega))
  clear c0 c1
  have c0 := HP2.out.c0
  have HTOT := Lib.hid (HN.out ▸ total_any HT.out HO.out (c := c) hx2 (by have := HN.out; omega))
  have HS := Lib.hid (fun k => clip_sum HO.out (xs := xs) (by have := HN.out; omega) k)
  have hs2 : sumW e b xs ≤ 4503599627370496 := by have := HS.out xs.length; rwa [List.take_of_length_le (Nat.le_refl _)] at this
  have hs1 := HN.out ▸ len_le_sumW e b xs
  have HPN := Lib.hid (fun A c x => pick_none HT.out HO.out A c x)
  have HPA := Lib.hid (fun (h : 0 < n) (j : Nat) (hj : Falls e b xs (x0 % sumW e b xs) j) => HN.out ▸ pick_any HT.out HO.out (c := c) hx2 (by have := HN.out; omega) (by have := HN.out; omega) x0 h0 hj)
  clear ht hb hg HB hx2
  obtain ⟨T, hT⟩ : ∃ T, sumW e b xs = T := ⟨_, rfl⟩
  have HTT := Lib.hid hT
  rw [hT] at HTOT hs2 hs1 HPA
  clear hT
  go_wp2
  go_loopg [10, 33] (n + 1) (fun G s i wr => ∃ k : Nat, k ≤ n ∧ G = n + 1 - k ∧ s = .int .i64 (sumW e b (xs.take k) : Int) ∧ i = .int .i64 (k : Int) ∧ wr = w2)
  case atStart => exact ⟨0, by omega, rfl, by simp [sumW], rfl, rfl⟩
  case round =>
    obtain ⟨k, hk, rfl, rfl, rfl, rfl⟩ := hrel
    by_cases hlt : k < n
    · obtain ⟨ab, off, rfl, hab, hcell⟩ := HX2.out.at_ (k := k) (by have := HN.out; omega)
      have hstep := sumW_take e b (xs := xs) (k := k) (by have := HN.out; omega)
      have hs3 := HS.out (k + 1)
      obtain ⟨y, hy⟩ : ∃ y, xs.getD k 0 = y := ⟨_, rfl⟩
      rw [hy] at hstep hcell
      have HWY := Lib.hid (HL.out y)
      obtain ⟨v, hv⟩ : ∃ v, wt e b y = v := ⟨_, rfl⟩
      rw [hv] at hstep HWY
      obtain ⟨s, hs⟩ : ∃ s, sumW e b (xs.take k) = s := ⟨_, rfl⟩
      rw [hs] at hstep ⊢
      rw [hstep] at hs3
      have HST := Lib.hid hstep
      clear hy hv hs hstep
      go_wp2_with fail
      with_reducible refine (HWY.out _).mono ?_
      rintro x w3 ⟨rfl, rfl⟩
      go_wp2
      go_roundg (n - k)
      case measure => omega
      case rel => exact ⟨k + 1, by omega, by omega, by rw [HST.out]; go_num, by go_num, rfl⟩
    · obtain rfl : k = n := by omega
      have hF : sumW e b (xs.take k) = T := by rw [List.take_of_length_le (by have := HN.out; omega), HTT.out]
      rw [hF]
      clear hF
      rcases Nat.eq_zero_or_pos k with hk0 | hk0
      · subst hk0
        have hT0 : T = 0 := by
          rw [← HTT.out, List.eq_nil_of_length_eq_zero HN.out]
          rfl
        subst hT0
        go_wp2_with fail
        with_reducible refine HTOT.out.mono ?_
        rintro x w3 ⟨rfl, rfl⟩
        go_wp2_with fail
        refine (HPN.out _ _ _).mono ?_
        rintro x w3 ⟨rfl, rfl⟩
        go_wp2
        go_ret
        exact ⟨rfl, HB2.out⟩
      · obtain ⟨r, hr⟩ : ∃ r, x0 % T = r := ⟨_, rfl⟩
        have hrl : r < T := by rw [← hr]; exact Nat.mod_lt _ (by omega)
        obtain ⟨j, hj⟩ := Falls.any (e := e) (b := b) (xs := xs) (r := r) (by rw [HTT.out]; exact hrl)
        have hjn : j < k := by have := hj.1; have := HN.out; omega
        have HPJ := Lib.hid (HPA.out hk0 j (by rw [hr]; exact hj))
        have HJ := Lib.hid hj
        have ec : IntKind.u64.wrap (T : Int) = (T : Int) := by simp [IntKind.wrap, IntKind.signed, IntKind.bits]; omega
        have er : Int.tmod (x0 : Int) (T : Int) = (r : Int) := by rw [← hr]; rfl
        have er2 : (x0 : Int) % (T : Int) = (r : Int) := by rw [← hr]; simp
        have hT0 : ((T : Int) == 0) = false := by simp; omega
        clear hr hj
        go_wp2_with fail
        with_reducible refine HTOT.out.mono ?_
        rintro x w3 ⟨rfl, rfl⟩
        go_wp2
        have HS0 := Lib.hid (show sumW e b (xs.take 0) = 0 by simp [sumW])
        have HL2 := Lib.hid (fun k => wt_le HO.out k)
        go_loopg [13, 14] (k + 1) (fun G d i wx => ∃ i' D : Nat, i' ≤ j ∧ G = k + 1 - i' ∧ d = .int .i64 (D : Int) ∧ i = .int .i64 (i' : Int) ∧ wx = wr ∧ D ≤ r ∧ Hid (r = sumW e b (xs.take i') + D))
        case atStart => exact ⟨0, r, by omega, rfl, rfl, rfl, rfl, Nat.le_refl _, Lib.hid (by rw [HS0.out]; omega)⟩
        case round =>
          obtain ⟨i, D, hi, rfl, rfl, rfl, rfl, hD, HD⟩ := hrel
          have hin : i < k := by omega
          obtain ⟨ab, off, rfl, hab, hcell⟩ := HX2.out.at_ (k := i) (by have := HN.out; omega)
          have hstep := sumW_take e b (xs := xs) (k := i) (by have := HN.out; omega)
          obtain ⟨y, hy⟩ : ∃ y, xs.getD i 0 = y := ⟨_, rfl⟩
          rw [hy] at hstep hcell
          have HWY := Lib.hid (HL.out y)
          have hvl := HLE.out y
          obtain ⟨v, hv⟩ : ∃ v, wt e b y = v := ⟨_, rfl⟩
          rw [hv] at hstep HWY hvl
          have HST := Lib.hid hstep
          have hcmp : D < v ↔ i = j := by
            have hd := HD.out
            constructor
            · intro h
              exact Falls.one ⟨by have := HN.out; omega, by omega, by omega⟩ HJ.out
            · rintro rfl
              have := HJ.out.2.2
              omega
          clear hy hv hstep
          by_cases hkj : i = j
          · have hlt2 : D < v := hcmp.2 hkj
            subst hkj
            clear hcmp
            go_wp2_with fail
            with_reducible refine (HWY.out _).mono ?_
            rintro x w3 ⟨rfl, rfl⟩
            go_wp2_with fail
            with_reducible refine HPJ.out.mono ?_
            rintro x w3 ⟨rfl, rfl⟩
            go_wp2
            go_ret
            exact ⟨by simp, HB2.out⟩
          · have hge : v ≤ D := by
              rcases Nat.lt_or_ge D v with h | h
              · exact absurd (hcmp.1 h) hkj
              · exact h
            have hk1 : i + 1 ≤ j := by omega
            clear hcmp hkj
            go_wp2_with fail
            with_reducible refine (HWY.out _).mono ?_
            rintro x w3 ⟨rfl, rfl⟩
            go_wp2_with fail
            with_reducible refine (HWY.out _).mono ?_
            rintro x w3 ⟨rfl, rfl⟩
            go_wp2
            go_roundg (k - i)
            case measure => omega
            case rel => exact ⟨i + 1, D - v, by omega, by omega, by go_num, by go_num, rfl, by omega, Lib.hid (by rw [HST.out]; have := HD.out; omega)⟩

theorem picks_any (e : Bool) (a : Option Addr) (len cap : Nat) (z : Nat → Int) (x0 x1 : Int) (w : World) (h : IsInts .i64 w a len cap z) (h0 : (Lit.int .u64 x0).wf = true) (h1 : (Lit.int .u64 x1).wf = true) :
    Calls Try.prog 4 #[.bool e, .slice a len cap, .agg #[.int .u64 x0, .int .u64 x1]] w fun v w' => v = .returned (.bool true) ∧ Below w.heap.size w w' := by
  rcases Nat.lt_or_ge 100 len with hl | hl
  · exact picks_out e a len cap x0 x1 w hl
  · obtain ⟨xs, hn, hc, hx, _⟩ := list_of h
    obtain ⟨n0, rfl, h0'⟩ := u64_of h0
    obtain ⟨n1, rfl, h1'⟩ := u64_of h1
    exact picks_in e len cap n0 n1 h0' w hn hl hx
end Go.Proofs.Ytjjpgiahifkinaa
