/- The statement on counts; written by gen10.py. -/
import Derived.Test.YtipanbiackidgaaReckon10
namespace Go.Proofs.Ytipanbiackidgaa
open Go.RowKit
set_option linter.unusedVariables false
set_option linter.unusedSimpArgs false

theorem ints_of10 {W : World} {a : Option Addr} {len cap : Nat} {z : Nat → Int} (k : IntKind) (h : IsInts k W a len cap z) : Cells W W.heap.size a len (fun j => .int k (z j)) ∧ len ≤ cap := by
  obtain ⟨h1, h2, h3, h4⟩ := h
  refine ⟨fun h0 => ?_, h1⟩
  obtain ⟨b, off, rfl, hb, hc⟩ := h4 (by omega)
  exact ⟨b, off, rfl, hb, fun j hj => hc j (by omega)⟩
/-- the count behind the first k -/
def cntN (z : Nat → Int) : Nat → Nat
  | 0 => 0
  | k + 1 => sumN (cntN z k) (z k)

theorem counts_out (b anew : Int) (a : Option Addr) (len cap : Nat) (w : World) (h : 60 < len) :
    Calls Try.prog 4 #[.int .i64 b, .slice a len cap, .int .i64 anew] w fun e w' => e = .returned (.bool true) ∧ Below w.heap.size w w' := by
  go_enter Try.func4, Try.ntmps4
  go_wp2_with fail
  refine (fit_any _).mono ?_
  rintro e w1 ⟨rfl, hb⟩
  go_wp2
  go_ret
  exact ⟨rfl, hb⟩

theorem budN_cases (b : Int) : b < 0 ∧ budN b = 4611686018427387904 ∨ 4611686018427387904 < b ∧ budN b = 4611686018427387904 ∨ (0 ≤ b ∧ b ≤ 4611686018427387904 ∧ b = (budN b : Nat)) := by
  unfold budN clampN; split <;> omega
theorem left_int {w : World} {b v m : Nat} (h : Cnt w b v m) : Calls Try.prog 16 #[.pointer (some ⟨b, 0, none⟩)] w fun e w' => e = .returned (.int .i64 (max ((m : Int) - v) 0)) ∧ ∃ n, w' = w.drewN n := by
  rw [show max ((m : Int) - v) 0 = ((m - v : Nat) : Int) by omega]
  exact left_any h
theorem left_zero {w : World} {b m : Nat} (h : Cnt w b 0 m) : Calls Try.prog 16 #[.pointer (some ⟨b, 0, none⟩)] w fun e w' => e = .returned (.int .i64 m) ∧ ∃ n, w' = w.drewN n := left_any h
theorem over_if {w : World} {b v m : Nat} (h : Cnt w b v m) {o : Bool} (ho : (m ≤ v ∧ m < 4611686018427387904) ↔ o = true) : Calls Try.prog 15 #[.pointer (some ⟨b, 0, none⟩)] w fun e w' => e = .returned (.bool o) ∧ ∃ n, w' = w.drewN n := by
  have := over_any h
  rw [show decide (m ≤ v ∧ m < 4611686018427387904) = o by rw [Bool.eq_iff_iff]; simp only [decide_eq_true_eq]; exact ho] at this
  exact this
theorem add_if {w : World} {b v m : Nat} (h : Cnt w b v m) (n : Int) {o : Bool} (ho : (m ≤ sumN v n ∧ m < 4611686018427387904) ↔ o = false) : Calls Try.prog 13 #[.pointer (some ⟨b, 0, none⟩), .int .i64 n] w fun e w' => e = .returned (.bool o) ∧ Cnt w' b (sumN v n) m ∧ Below b w w' := by
  have := add_any h n
  rw [show (!decide (m ≤ sumN v n ∧ m < 4611686018427387904)) = o by cases o <;> simp at ho ⊢ <;> omega] at this
  exact this

set_option maxRecDepth 20000 in
set_option maxHeartbeats 4000000 in
theorem counts_in (b anew : Int) (a : Option Addr) (len cap : Nat) (z : Nat → Int) (w : World) (hl : len ≤ 60) (hcl : len ≤ cap) (h : Cells w w.heap.size a len (fun j => .int .i64 (z j))) :
    Calls Try.prog 4 #[.int .i64 b, .slice a len cap, .int .i64 anew] w fun e w' => e = .returned (.bool true) ∧ Below w.heap.size w w' := by
  have HC := Lib.hid h
  have HNEW := Lib.hid (fun w => new_any b w)
  have hml := budN_le b
  have hcb := budN_cases b
  have hal := budN_le anew
  have hab := budN_cases anew
  obtain ⟨m, hm⟩ : ∃ m, budN b = m := ⟨_, rfl⟩
  rw [hm] at HNEW hml hcb
  obtain ⟨m2, hm2⟩ : ∃ m2, budN anew = m2 := ⟨_, rfl⟩
  rw [hm2] at hal hab
  have HM2 := Lib.hid hm2
  have HAB := Lib.hid hab
  clear h hm hm2 hab
  rcases hcb with ⟨hb0, rfl⟩ | ⟨hb0, rfl⟩ | ⟨hb0, hb1, rfl⟩
  · go_enter Try.func4, Try.ntmps4
    go_wp2_with fail
    refine (fit_any _).mono ?_
    rintro e w1 ⟨rfl, hb⟩
    have HB := Lib.hid hb
    clear hb
    go_wp2_with fail
    refine (HNEW.out _).mono ?_
    rintro e w2 ⟨g, rfl, hg, hcn, hb⟩
    have HB2 := Lib.hid (HB.out.trans (hb.mono HB.out.size))
    have hg0 : w.heap.size ≤ g := Nat.le_trans HB.out.size hg
    have HCN := Lib.hid hcn
    clear hcn hb hg HB
    go_wp2
    go_loopg [9, 29] (len + 1) (fun G n i wr => ∃ j : Nat, Hid (Cnt wr g (cntN z j) 4611686018427387904) ∧ Hid (Below w.heap.size w wr) ∧ j ≤ len ∧ G = len + 1 - j ∧ n = .int .i64 (cntN z j) ∧ i = .int .i64 j)
    case atStart => exact ⟨0, HCN, HB2, by omega, by omega, rfl, rfl⟩
    case round =>
      obtain ⟨j, hcn, hb, hj, rfl, rfl, rfl⟩ := hrel
      by_cases hlt : j < len
      · obtain ⟨ab, off, rfl, hab, hcell⟩ := (HC.out.below hb.out).at_ hlt
        have hv := hcn.out.2.1
        have HS := Lib.hid (fun w => sum_any (cntN z j) (z j) w)
        have hsl := sumN_le (cntN z j) (z j)
        have hadd := fun o ho => add_if hcn.out (z j) (o := o) ho
        have hstep : cntN z (j + 1) = sumN (cntN z j) (z j) := rfl
        obtain ⟨v, hvv⟩ : ∃ v, cntN z j = v := ⟨_, rfl⟩
        obtain ⟨x, hx⟩ : ∃ x, z j = x := ⟨_, rfl⟩
        rw [hvv] at hv HS hsl hadd hstep ⊢
        simp only [hx] at HS hsl hadd hstep hcell
        obtain ⟨s, hs⟩ : ∃ s, sumN v x = s := ⟨_, rfl⟩
        simp only [hs] at HS hsl hadd hstep
        have HST := Lib.hid hstep
        clear hvv hx hs hstep
        by_cases h1 : 4611686018427387904 ≤ s
        ·
          have HA := Lib.hid (hadd true (by first | (simp; done) | (simp; omega)))
          clear hadd
          go_wp2_with fail
          refine (HS.out _).mono ?_
          rintro e w3 ⟨rfl, rfl⟩
          go_wp2_with fail
          skip
          refine HA.out.mono ?_
          rintro e w4 ⟨rfl, hcn2, hb2⟩
          have HCN2 := Lib.hid hcn2
          have HB3 := Lib.hid (hb.out.trans (hb2.mono hg0))
          clear hcn2 hb2
          go_wp2_with fail
          refine (value_any HCN2.out).mono ?_
          rintro e w5 ⟨rfl, rfl⟩
          go_wp2_with fail
          refine (over_if HCN2.out (o := false) (by first | (simp; done) | (simp; omega))).mono ?_
          rintro e w6 ⟨rfl, hd⟩
          have HCN3 := Lib.hid (HCN2.out.drew hd)
          have HB4 := Lib.hid (below_drewE10 HB3.out hd)
          clear hd
          go_wp2_with fail
          have hle := left_int HCN3.out
          try simp only [Int.cast_ofNat_Int, Nat.cast_ofNat] at hle
          refine hle.mono ?_
          rintro e w7 ⟨rfl, hd⟩
          have HCN4 := Lib.hid (HCN3.out.drew hd)
          have HB5 := Lib.hid (below_drewE10 HB4.out hd)
          clear hd hle
          go_wp2_with fail
          go_roundg (len - j)
          case measure => omega
          case rel => exact ⟨j + 1, HST.out ▸ HCN4, HB5, by omega, by omega, by rw [HST.out], by go_num⟩
        ·
          have HA := Lib.hid (hadd true (by first | (simp; done) | (simp; omega)))
          clear hadd
          go_wp2_with fail
          refine (HS.out _).mono ?_
          rintro e w3 ⟨rfl, rfl⟩
          go_wp2_with fail
          skip
          refine HA.out.mono ?_
          rintro e w4 ⟨rfl, hcn2, hb2⟩
          have HCN2 := Lib.hid hcn2
          have HB3 := Lib.hid (hb.out.trans (hb2.mono hg0))
          clear hcn2 hb2
          go_wp2_with fail
          refine (value_any HCN2.out).mono ?_
          rintro e w5 ⟨rfl, rfl⟩
          go_wp2_with fail
          refine (over_if HCN2.out (o := false) (by first | (simp; done) | (simp; omega))).mono ?_
          rintro e w6 ⟨rfl, hd⟩
          have HCN3 := Lib.hid (HCN2.out.drew hd)
          have HB4 := Lib.hid (below_drewE10 HB3.out hd)
          clear hd
          go_wp2_with fail
          have hle := left_int HCN3.out
          try simp only [Int.cast_ofNat_Int, Nat.cast_ofNat] at hle
          refine hle.mono ?_
          rintro e w7 ⟨rfl, hd⟩
          have HCN4 := Lib.hid (HCN3.out.drew hd)
          have HB5 := Lib.hid (below_drewE10 HB4.out hd)
          clear hd hle
          go_wp2_with fail
          go_roundg (len - j)
          case measure => omega
          case rel => exact ⟨j + 1, HST.out ▸ HCN4, HB5, by omega, by omega, by rw [HST.out], by go_num⟩
      · obtain rfl : j = len := by omega
        have HR := Lib.hid (HM2.out ▸ reset_any hcn.out.1 anew)
        rcases HAB.out with ⟨ha0, rfl⟩ | ⟨ha0, rfl⟩ | ⟨ha0, ha1, rfl⟩
        · go_wp2_with fail
          refine HR.out.mono ?_
          rintro e w3 ⟨rfl, hcn2, hb2⟩
          have HCN2 := Lib.hid hcn2
          have HB3 := Lib.hid (hb.out.trans (hb2.mono hg0))
          clear hcn2 hb2
          go_wp2_with fail
          refine (value_any HCN2.out).mono ?_
          rintro e w5 ⟨rfl, rfl⟩
          go_wp2_with fail
          refine (left_zero HCN2.out).mono ?_
          rintro e w6 ⟨rfl, hd⟩
          have HCN3 := Lib.hid (HCN2.out.drew hd)
          have HB4 := Lib.hid (below_drewE10 HB3.out hd)
          clear hd
          go_wp2_with fail
          refine (over_if HCN3.out (o := false) (by simp)).mono ?_
          rintro e w7 ⟨rfl, hd⟩
          have HB5 := Lib.hid (below_drewE10 HB4.out hd)
          clear hd
          go_wp2_with fail
          go_ret
          exact ⟨by simp, HB5.out⟩
        · go_wp2_with fail
          refine HR.out.mono ?_
          rintro e w3 ⟨rfl, hcn2, hb2⟩
          have HCN2 := Lib.hid hcn2
          have HB3 := Lib.hid (hb.out.trans (hb2.mono hg0))
          clear hcn2 hb2
          go_wp2_with fail
          refine (value_any HCN2.out).mono ?_
          rintro e w5 ⟨rfl, rfl⟩
          go_wp2_with fail
          refine (left_zero HCN2.out).mono ?_
          rintro e w6 ⟨rfl, hd⟩
          have HCN3 := Lib.hid (HCN2.out.drew hd)
          have HB4 := Lib.hid (below_drewE10 HB3.out hd)
          clear hd
          go_wp2_with fail
          refine (over_if HCN3.out (o := false) (by simp)).mono ?_
          rintro e w7 ⟨rfl, hd⟩
          have HB5 := Lib.hid (below_drewE10 HB4.out hd)
          clear hd
          go_wp2_with fail
          go_ret
          exact ⟨by simp, HB5.out⟩
        · go_wp2_with fail
          refine HR.out.mono ?_
          rintro e w3 ⟨rfl, hcn2, hb2⟩
          have HCN2 := Lib.hid hcn2
          have HB3 := Lib.hid (hb.out.trans (hb2.mono hg0))
          clear hcn2 hb2
          by_cases h0 : m2 = 0
          · subst h0
            go_wp2_with fail
            refine (value_any HCN2.out).mono ?_
            rintro e w5 ⟨rfl, rfl⟩
            go_wp2_with fail
            refine (left_zero HCN2.out).mono ?_
            rintro e w6 ⟨rfl, hd⟩
            have HCN3 := Lib.hid (HCN2.out.drew hd)
            have HB4 := Lib.hid (below_drewE10 HB3.out hd)
            clear hd
            go_wp2_with fail
            refine (over_if HCN3.out (o := true) (by simp)).mono ?_
            rintro e w7 ⟨rfl, hd⟩
            have HB5 := Lib.hid (below_drewE10 HB4.out hd)
            clear hd
            go_wp2_with fail
            go_ret
            exact ⟨by simp, HB5.out⟩
          · have h0b : ((m2 : Int) == 0) = false := by simp; omega
            go_wp2_with fail
            refine (value_any HCN2.out).mono ?_
            rintro e w5 ⟨rfl, rfl⟩
            go_wp2_with fail
            refine (left_zero HCN2.out).mono ?_
            rintro e w6 ⟨rfl, hd⟩
            have HCN3 := Lib.hid (HCN2.out.drew hd)
            have HB4 := Lib.hid (below_drewE10 HB3.out hd)
            clear hd
            go_wp2_with fail
            refine (over_if HCN3.out (o := false) (by first | (simp; done) | (simp; omega))).mono ?_
            rintro e w7 ⟨rfl, hd⟩
            have HB5 := Lib.hid (below_drewE10 HB4.out hd)
            clear hd
            go_wp2_with fail
            go_ret
            exact ⟨by simp, HB5.out⟩
  · go_enter Try.func4, Try.ntmps4
    go_wp2_with fail
    refine (fit_any _).mono ?_
    rintro e w1 ⟨rfl, hb⟩
    have HB := Lib.hid hb
    clear hb
    go_wp2_with fail
    refine (HNEW.out _).mono ?_
    rintro e w2 ⟨g, rfl, hg, hcn, hb⟩
    have HB2 := Lib.hid (HB.out.trans (hb.mono HB.out.size))
    have hg0 : w.heap.size ≤ g := Nat.le_trans HB.out.size hg
    have HCN := Lib.hid hcn
    clear hcn hb hg HB
    go_wp2
    go_loopg [9, 29] (len + 1) (fun G n i wr => ∃ j : Nat, Hid (Cnt wr g (cntN z j) 4611686018427387904) ∧ Hid (Below w.heap.size w wr) ∧ j ≤ len ∧ G = len + 1 - j ∧ n = .int .i64 (cntN z j) ∧ i = .int .i64 j)
    case atStart => exact ⟨0, HCN, HB2, by omega, by omega, rfl, rfl⟩
    case round =>
      obtain ⟨j, hcn, hb, hj, rfl, rfl, rfl⟩ := hrel
      by_cases hlt : j < len
      · obtain ⟨ab, off, rfl, hab, hcell⟩ := (HC.out.below hb.out).at_ hlt
        have hv := hcn.out.2.1
        have HS := Lib.hid (fun w => sum_any (cntN z j) (z j) w)
        have hsl := sumN_le (cntN z j) (z j)
        have hadd := fun o ho => add_if hcn.out (z j) (o := o) ho
        have hstep : cntN z (j + 1) = sumN (cntN z j) (z j) := rfl
        obtain ⟨v, hvv⟩ : ∃ v, cntN z j = v := ⟨_, rfl⟩
        obtain ⟨x, hx⟩ : ∃ x, z j = x := ⟨_, rfl⟩
        rw [hvv] at hv HS hsl hadd hstep ⊢
        simp only [hx] at HS hsl hadd hstep hcell
        obtain ⟨s, hs⟩ : ∃ s, sumN v x = s := ⟨_, rfl⟩
        simp only [hs] at HS hsl hadd hstep
        have HST := Lib.hid hstep
        clear hvv hx hs hstep
        by_cases h1 : 4611686018427387904 ≤ s
        ·
          have HA := Lib.hid (hadd true (by first | (simp; done) | (simp; omega)))
          clear hadd
          go_wp2_with fail
          refine (HS.out _).mono ?_
          rintro e w3 ⟨rfl, rfl⟩
          go_wp2_with fail
          skip
          refine HA.out.mono ?_
          rintro e w4 ⟨rfl, hcn2, hb2⟩
          have HCN2 := Lib.hid hcn2
          have HB3 := Lib.hid (hb.out.trans (hb2.mono hg0))
          clear hcn2 hb2
          go_wp2_with fail
          refine (value_any HCN2.out).mono ?_
          rintro e w5 ⟨rfl, rfl⟩
          go_wp2_with fail
          refine (over_if HCN2.out (o := false) (by first | (simp; done) | (simp; omega))).mono ?_
          rintro e w6 ⟨rfl, hd⟩
          have HCN3 := Lib.hid (HCN2.out.drew hd)
          have HB4 := Lib.hid (below_drewE10 HB3.out hd)
          clear hd
          go_wp2_with fail
          have hle := left_int HCN3.out
          try simp only [Int.cast_ofNat_Int, Nat.cast_ofNat] at hle
          refine hle.mono ?_
          rintro e w7 ⟨rfl, hd⟩
          have HCN4 := Lib.hid (HCN3.out.drew hd)
          have HB5 := Lib.hid (below_drewE10 HB4.out hd)
          clear hd hle
          go_wp2_with fail
          go_roundg (len - j)
          case measure => omega
          case rel => exact ⟨j + 1, HST.out ▸ HCN4, HB5, by omega, by omega, by rw [HST.out], by go_num⟩
        ·
          have HA := Lib.hid (hadd true (by first | (simp; done) | (simp; omega)))
          clear hadd
          go_wp2_with fail
          refine (HS.out _).mono ?_
          rintro e w3 ⟨rfl, rfl⟩
          go_wp2_with fail
          skip
          refine HA.out.mono ?_
          rintro e w4 ⟨rfl, hcn2, hb2⟩
          have HCN2 := Lib.hid hcn2
          have HB3 := Lib.hid (hb.out.trans (hb2.mono hg0))
          clear hcn2 hb2
          go_wp2_with fail
          refine (value_any HCN2.out).mono ?_
          rintro e w5 ⟨rfl, rfl⟩
          go_wp2_with fail
          refine (over_if HCN2.out (o := false) (by first | (simp; done) | (simp; omega))).mono ?_
          rintro e w6 ⟨rfl, hd⟩
          have HCN3 := Lib.hid (HCN2.out.drew hd)
          have HB4 := Lib.hid (below_drewE10 HB3.out hd)
          clear hd
          go_wp2_with fail
          have hle := left_int HCN3.out
          try simp only [Int.cast_ofNat_Int, Nat.cast_ofNat] at hle
          refine hle.mono ?_
          rintro e w7 ⟨rfl, hd⟩
          have HCN4 := Lib.hid (HCN3.out.drew hd)
          have HB5 := Lib.hid (below_drewE10 HB4.out hd)
          clear hd hle
          go_wp2_with fail
          go_roundg (len - j)
          case measure => omega
          case rel => exact ⟨j + 1, HST.out ▸ HCN4, HB5, by omega, by omega, by rw [HST.out], by go_num⟩
      · obtain rfl : j = len := by omega
        have HR := Lib.hid (HM2.out ▸ reset_any hcn.out.1 anew)
        rcases HAB.out with ⟨ha0, rfl⟩ | ⟨ha0, rfl⟩ | ⟨ha0, ha1, rfl⟩
        · go_wp2_with fail
          refine HR.out.mono ?_
          rintro e w3 ⟨rfl, hcn2, hb2⟩
          have HCN2 := Lib.hid hcn2
          have HB3 := Lib.hid (hb.out.trans (hb2.mono hg0))
          clear hcn2 hb2
          go_wp2_with fail
          refine (value_any HCN2.out).mono ?_
          rintro e w5 ⟨rfl, rfl⟩
          go_wp2_with fail
          refine (left_zero HCN2.out).mono ?_
          rintro e w6 ⟨rfl, hd⟩
          have HCN3 := Lib.hid (HCN2.out.drew hd)
          have HB4 := Lib.hid (below_drewE10 HB3.out hd)
          clear hd
          go_wp2_with fail
          refine (over_if HCN3.out (o := false) (by simp)).mono ?_
          rintro e w7 ⟨rfl, hd⟩
          have HB5 := Lib.hid (below_drewE10 HB4.out hd)
          clear hd
          go_wp2_with fail
          go_ret
          exact ⟨by simp, HB5.out⟩
        · go_wp2_with fail
          refine HR.out.mono ?_
          rintro e w3 ⟨rfl, hcn2, hb2⟩
          have HCN2 := Lib.hid hcn2
          have HB3 := Lib.hid (hb.out.trans (hb2.mono hg0))
          clear hcn2 hb2
          go_wp2_with fail
          refine (value_any HCN2.out).mono ?_
          rintro e w5 ⟨rfl, rfl⟩
          go_wp2_with fail
          refine (left_zero HCN2.out).mono ?_
          rintro e w6 ⟨rfl, hd⟩
          have HCN3 := Lib.hid (HCN2.out.drew hd)
          have HB4 := Lib.hid (below_drewE10 HB3.out hd)
          clear hd
          go_wp2_with fail
          refine (over_if HCN3.out (o := false) (by simp)).mono ?_
          rintro e w7 ⟨rfl, hd⟩
          have HB5 := Lib.hid (below_drewE10 HB4.out hd)
          clear hd
          go_wp2_with fail
          go_ret
          exact ⟨by simp, HB5.out⟩
        · go_wp2_with fail
          refine HR.out.mono ?_
          rintro e w3 ⟨rfl, hcn2, hb2⟩
          have HCN2 := Lib.hid hcn2
          have HB3 := Lib.hid (hb.out.trans (hb2.mono hg0))
          clear hcn2 hb2
          by_cases h0 : m2 = 0
          · subst h0
            go_wp2_with fail
            refine (value_any HCN2.out).mono ?_
            rintro e w5 ⟨rfl, rfl⟩
            go_wp2_with fail
            refine (left_zero HCN2.out).mono ?_
            rintro e w6 ⟨rfl, hd⟩
            have HCN3 := Lib.hid (HCN2.out.drew hd)
            have HB4 := Lib.hid (below_drewE10 HB3.out hd)
            clear hd
            go_wp2_with fail
            refine (over_if HCN3.out (o := true) (by simp)).mono ?_
            rintro e w7 ⟨rfl, hd⟩
            have HB5 := Lib.hid (below_drewE10 HB4.out hd)
            clear hd
            go_wp2_with fail
            go_ret
            exact ⟨by simp, HB5.out⟩
          · have h0b : ((m2 : Int) == 0) = false := by simp; omega
            go_wp2_with fail
            refine (value_any HCN2.out).mono ?_
            rintro e w5 ⟨rfl, rfl⟩
            go_wp2_with fail
            refine (left_zero HCN2.out).mono ?_
            rintro e w6 ⟨rfl, hd⟩
            have HCN3 := Lib.hid (HCN2.out.drew hd)
            have HB4 := Lib.hid (below_drewE10 HB3.out hd)
            clear hd
            go_wp2_with fail
            refine (over_if HCN3.out (o := false) (by first | (simp; done) | (simp; omega))).mono ?_
            rintro e w7 ⟨rfl, hd⟩
            have HB5 := Lib.hid (below_drewE10 HB4.out hd)
            clear hd
            go_wp2_with fail
            go_ret
            exact ⟨by simp, HB5.out⟩
  · go_enter Try.func4, Try.ntmps4
    go_wp2_with fail
    refine (fit_any _).mono ?_
    rintro e w1 ⟨rfl, hb⟩
    have HB := Lib.hid hb
    clear hb
    go_wp2_with fail
    refine (HNEW.out _).mono ?_
    rintro e w2 ⟨g, rfl, hg, hcn, hb⟩
    have HB2 := Lib.hid (HB.out.trans (hb.mono HB.out.size))
    have hg0 : w.heap.size ≤ g := Nat.le_trans HB.out.size hg
    have HCN := Lib.hid hcn
    clear hcn hb hg HB
    go_wp2
    go_loopg [9, 29] (len + 1) (fun G n i wr => ∃ j : Nat, Hid (Cnt wr g (cntN z j) m) ∧ Hid (Below w.heap.size w wr) ∧ j ≤ len ∧ G = len + 1 - j ∧ n = .int .i64 (cntN z j) ∧ i = .int .i64 j)
    case atStart => exact ⟨0, HCN, HB2, by omega, by omega, rfl, rfl⟩
    case round =>
      obtain ⟨j, hcn, hb, hj, rfl, rfl, rfl⟩ := hrel
      by_cases hlt : j < len
      · obtain ⟨ab, off, rfl, hab, hcell⟩ := (HC.out.below hb.out).at_ hlt
        have hv := hcn.out.2.1
        have HS := Lib.hid (fun w => sum_any (cntN z j) (z j) w)
        have hsl := sumN_le (cntN z j) (z j)
        have hadd := fun o ho => add_if hcn.out (z j) (o := o) ho
        have hstep : cntN z (j + 1) = sumN (cntN z j) (z j) := rfl
        obtain ⟨v, hvv⟩ : ∃ v, cntN z j = v := ⟨_, rfl⟩
        obtain ⟨x, hx⟩ : ∃ x, z j = x := ⟨_, rfl⟩
        rw [hvv] at hv HS hsl hadd hstep ⊢
        simp only [hx] at HS hsl hadd hstep hcell
        obtain ⟨s, hs⟩ : ∃ s, sumN v x = s := ⟨_, rfl⟩
        simp only [hs] at HS hsl hadd hstep
        have HST := Lib.hid hstep
        clear hvv hx hs hstep
        have D1 := fun h : m ≤ s => (decide_eq_true (by omega) : decide ((m : Int) ≤ (s : Int)) = true)
        have D2 := fun h : m < 4611686018427387904 => (decide_eq_true (by omega) : decide ((m : Int) < 4611686018427387904) = true)
        have D3 := fun h : ¬ m < 4611686018427387904 => (decide_eq_false (by omega) : decide ((m : Int) < 4611686018427387904) = false)
        have D4 := fun h : ¬ m ≤ s => (decide_eq_false (by omega) : decide ((m : Int) ≤ (s : Int)) = false)
        have D1 := Lib.hid D1
        have D2 := Lib.hid D2
        have D3 := Lib.hid D3
        have D4 := Lib.hid D4
        by_cases h1 : m ≤ s
        · by_cases h2 : m < 4611686018427387904
          ·
            have HA := Lib.hid (hadd false (by first | (simp; done) | (simp; omega)))
            clear hadd
            go_wp2_with fail
            refine (HS.out _).mono ?_
            rintro e w3 ⟨rfl, rfl⟩
            go_wp2_with fail
            try rw [D1.out h1]
            try rw [D2.out h2]
            refine HA.out.mono ?_
            rintro e w4 ⟨rfl, hcn2, hb2⟩
            have HCN2 := Lib.hid hcn2
            have HB3 := Lib.hid (hb.out.trans (hb2.mono hg0))
            clear hcn2 hb2
            go_wp2_with fail
            refine (value_any HCN2.out).mono ?_
            rintro e w5 ⟨rfl, rfl⟩
            go_wp2_with fail
            refine (over_if HCN2.out (o := true) (by first | (simp; done) | (simp; omega))).mono ?_
            rintro e w6 ⟨rfl, hd⟩
            have HCN3 := Lib.hid (HCN2.out.drew hd)
            have HB4 := Lib.hid (below_drewE10 HB3.out hd)
            clear hd
            go_wp2_with fail
            have hle := left_int HCN3.out
            try simp only [Int.cast_ofNat_Int, Nat.cast_ofNat] at hle
            refine hle.mono ?_
            rintro e w7 ⟨rfl, hd⟩
            have HCN4 := Lib.hid (HCN3.out.drew hd)
            have HB5 := Lib.hid (below_drewE10 HB4.out hd)
            clear hd hle
            go_wp2_with fail
            go_roundg (len - j)
            case measure => omega
            case rel => exact ⟨j + 1, HST.out ▸ HCN4, HB5, by omega, by omega, by rw [HST.out], by go_num⟩
          ·
            have HA := Lib.hid (hadd true (by first | (simp; done) | (simp; omega)))
            clear hadd
            go_wp2_with fail
            refine (HS.out _).mono ?_
            rintro e w3 ⟨rfl, rfl⟩
            go_wp2_with fail
            try rw [D1.out h1]
            try rw [D3.out h2]
            refine HA.out.mono ?_
            rintro e w4 ⟨rfl, hcn2, hb2⟩
            have HCN2 := Lib.hid hcn2
            have HB3 := Lib.hid (hb.out.trans (hb2.mono hg0))
            clear hcn2 hb2
            go_wp2_with fail
            refine (value_any HCN2.out).mono ?_
            rintro e w5 ⟨rfl, rfl⟩
            go_wp2_with fail
            refine (over_if HCN2.out (o := false) (by first | (simp; done) | (simp; omega))).mono ?_
            rintro e w6 ⟨rfl, hd⟩
            have HCN3 := Lib.hid (HCN2.out.drew hd)
            have HB4 := Lib.hid (below_drewE10 HB3.out hd)
            clear hd
            go_wp2_with fail
            have hle := left_int HCN3.out
            try simp only [Int.cast_ofNat_Int, Nat.cast_ofNat] at hle
            refine hle.mono ?_
            rintro e w7 ⟨rfl, hd⟩
            have HCN4 := Lib.hid (HCN3.out.drew hd)
            have HB5 := Lib.hid (below_drewE10 HB4.out hd)
            clear hd hle
            go_wp2_with fail
            go_roundg (len - j)
            case measure => omega
            case rel => exact ⟨j + 1, HST.out ▸ HCN4, HB5, by omega, by omega, by rw [HST.out], by go_num⟩
        ·
          have HA := Lib.hid (hadd true (by first | (simp; done) | (simp; omega)))
          clear hadd
          go_wp2_with fail
          refine (HS.out _).mono ?_
          rintro e w3 ⟨rfl, rfl⟩
          go_wp2_with fail
          try rw [D4.out h1]
          refine HA.out.mono ?_
          rintro e w4 ⟨rfl, hcn2, hb2⟩
          have HCN2 := Lib.hid hcn2
          have HB3 := Lib.hid (hb.out.trans (hb2.mono hg0))
          clear hcn2 hb2
          go_wp2_with fail
          refine (value_any HCN2.out).mono ?_
          rintro e w5 ⟨rfl, rfl⟩
          go_wp2_with fail
          refine (over_if HCN2.out (o := false) (by first | (simp; done) | (simp; omega))).mono ?_
          rintro e w6 ⟨rfl, hd⟩
          have HCN3 := Lib.hid (HCN2.out.drew hd)
          have HB4 := Lib.hid (below_drewE10 HB3.out hd)
          clear hd
          go_wp2_with fail
          have hle := left_int HCN3.out
          try simp only [Int.cast_ofNat_Int, Nat.cast_ofNat] at hle
          refine hle.mono ?_
          rintro e w7 ⟨rfl, hd⟩
          have HCN4 := Lib.hid (HCN3.out.drew hd)
          have HB5 := Lib.hid (below_drewE10 HB4.out hd)
          clear hd hle
          go_wp2_with fail
          go_roundg (len - j)
          case measure => omega
          case rel => exact ⟨j + 1, HST.out ▸ HCN4, HB5, by omega, by omega, by rw [HST.out], by go_num⟩
      · obtain rfl : j = len := by omega
        have HR := Lib.hid (HM2.out ▸ reset_any hcn.out.1 anew)
        rcases HAB.out with ⟨ha0, rfl⟩ | ⟨ha0, rfl⟩ | ⟨ha0, ha1, rfl⟩
        · go_wp2_with fail
          refine HR.out.mono ?_
          rintro e w3 ⟨rfl, hcn2, hb2⟩
          have HCN2 := Lib.hid hcn2
          have HB3 := Lib.hid (hb.out.trans (hb2.mono hg0))
          clear hcn2 hb2
          go_wp2_with fail
          refine (value_any HCN2.out).mono ?_
          rintro e w5 ⟨rfl, rfl⟩
          go_wp2_with fail
          refine (left_zero HCN2.out).mono ?_
          rintro e w6 ⟨rfl, hd⟩
          have HCN3 := Lib.hid (HCN2.out.drew hd)
          have HB4 := Lib.hid (below_drewE10 HB3.out hd)
          clear hd
          go_wp2_with fail
          refine (over_if HCN3.out (o := false) (by simp)).mono ?_
          rintro e w7 ⟨rfl, hd⟩
          have HB5 := Lib.hid (below_drewE10 HB4.out hd)
          clear hd
          go_wp2_with fail
          go_ret
          exact ⟨by simp, HB5.out⟩
        · go_wp2_with fail
          refine HR.out.mono ?_
          rintro e w3 ⟨rfl, hcn2, hb2⟩
          have HCN2 := Lib.hid hcn2
          have HB3 := Lib.hid (hb.out.trans (hb2.mono hg0))
          clear hcn2 hb2
          go_wp2_with fail
          refine (value_any HCN2.out).mono ?_
          rintro e w5 ⟨rfl, rfl⟩
          go_wp2_with fail
          refine (left_zero HCN2.out).mono ?_
          rintro e w6 ⟨rfl, hd⟩
          have HCN3 := Lib.hid (HCN2.out.drew hd)
          have HB4 := Lib.hid (below_drewE10 HB3.out hd)
          clear hd
          go_wp2_with fail
          refine (over_if HCN3.out (o := false) (by simp)).mono ?_
          rintro e w7 ⟨rfl, hd⟩
          have HB5 := Lib.hid (below_drewE10 HB4.out hd)
          clear hd
          go_wp2_with fail
          go_ret
          exact ⟨by simp, HB5.out⟩
        · go_wp2_with fail
          refine HR.out.mono ?_
          rintro e w3 ⟨rfl, hcn2, hb2⟩
          have HCN2 := Lib.hid hcn2
          have HB3 := Lib.hid (hb.out.trans (hb2.mono hg0))
          clear hcn2 hb2
          by_cases h0 : m2 = 0
          · subst h0
            go_wp2_with fail
            refine (value_any HCN2.out).mono ?_
            rintro e w5 ⟨rfl, rfl⟩
            go_wp2_with fail
            refine (left_zero HCN2.out).mono ?_
            rintro e w6 ⟨rfl, hd⟩
            have HCN3 := Lib.hid (HCN2.out.drew hd)
            have HB4 := Lib.hid (below_drewE10 HB3.out hd)
            clear hd
            go_wp2_with fail
            refine (over_if HCN3.out (o := true) (by simp)).mono ?_
            rintro e w7 ⟨rfl, hd⟩
            have HB5 := Lib.hid (below_drewE10 HB4.out hd)
            clear hd
            go_wp2_with fail
            go_ret
            exact ⟨by simp, HB5.out⟩
          · have h0b : ((m2 : Int) == 0) = false := by simp; omega
            go_wp2_with fail
            refine (value_any HCN2.out).mono ?_
            rintro e w5 ⟨rfl, rfl⟩
            go_wp2_with fail
            refine (left_zero HCN2.out).mono ?_
            rintro e w6 ⟨rfl, hd⟩
            have HCN3 := Lib.hid (HCN2.out.drew hd)
            have HB4 := Lib.hid (below_drewE10 HB3.out hd)
            clear hd
            go_wp2_with fail
            refine (over_if HCN3.out (o := false) (by first | (simp; done) | (simp; omega))).mono ?_
            rintro e w7 ⟨rfl, hd⟩
            have HB5 := Lib.hid (below_drewE10 HB4.out hd)
            clear hd
            go_wp2_with fail
            go_ret
            exact ⟨by simp, HB5.out⟩

theorem counts_any (b anew : Int) (a : Option Addr) (len cap : Nat) (z : Nat → Int) (w : World) (h : IsInts .i64 w a len cap z) :
    Calls Try.prog 4 #[.int .i64 b, .slice a len cap, .int .i64 anew] w fun e w' => e = .returned (.bool true) ∧ Below w.heap.size w w' := by
  by_cases hl : 60 < len
  · exact counts_out b anew a len cap w hl
  · exact counts_in b anew a len cap z w (by omega) (ints_of10 _ h).2 (ints_of10 _ h).1
end Go.Proofs.Ytipanbiackidgaa
