/- The statement on what is left. -/
import Derived.Test.YtipanbiackidgaaCounts10
namespace Go.Proofs.Ytipanbiackidgaa
open Go.RowKit
set_option linter.unusedVariables false
set_option linter.unusedSimpArgs false

def plusN (z : Nat → Nat) : Nat → Nat
  | 0 => 0
  | k + 1 => plusN z k + z k
theorem plusN_le (z : Nat → Nat) (h : ∀ j, z j ≤ 65535) : ∀ k, plusN z k ≤ 65535 * k := by
  intro k
  induction k with
  | zero => exact Nat.le_refl _
  | succ k ih => have := h k; rw [plusN]; omega
theorem sumN_plain {v x : Nat} (h : v + x ≤ 4611686018427387904) : sumN v x = v + x := by unfold sumN clampN; omega
theorem budN_plain {m : Nat} (h : m ≤ 4611686018427387904) : budN m = m := by unfold budN; rw [if_neg (by omega), clampN_of h]

theorem new_plain {m : Nat} (h : m ≤ 4611686018427387904) (w : World) : Calls Try.prog 12 #[.int .i64 m] w fun e w' => ∃ b, e = .returned (.pointer (some ⟨b, 0, none⟩)) ∧ w.heap.size ≤ b ∧ Cnt w' b 0 m ∧ Below w.heap.size w w' := by
  have := new_any (m : Int) w
  rw [budN_plain h] at this
  exact this
theorem reset_plain {w : World} {b v m : Nat} (h : Cnt w b v m) : Calls Try.prog 17 #[.pointer (some ⟨b, 0, none⟩), .int .i64 m] w fun e w' => e = .returned (.tuple #[]) ∧ Cnt w' b 0 m ∧ Below b w w' := by
  have := reset_any h.1 (m : Int)
  rw [budN_plain h.2.2] at this
  exact this

theorem lefts_out (m : Int) (a : Option Addr) (len cap : Nat) (w : World) (h : 100 < len) :
    Calls Try.prog 7 #[.int .u32 m, .slice a len cap] w fun e w' => e = .returned (.bool true) ∧ Below w.heap.size w w' := by
  go_enter Try.func7, Try.ntmps7
  go_wp2_with fail
  refine (fit_any _).mono ?_
  rintro e w1 ⟨rfl, hb⟩
  go_wp2
  go_ret
  exact ⟨rfl, hb⟩

set_option maxRecDepth 20000 in
set_option maxHeartbeats 4000000 in
theorem lefts_in (m : Nat) (hm : m < 4294967296) (a : Option Addr) (len cap : Nat) (z : Nat → Nat) (hz : ∀ j, z j ≤ 65535) (w : World) (hl : len ≤ 100) (hcl : len ≤ cap) (h : Cells w w.heap.size a len (fun j => .int .u16 (z j))) :
    Calls Try.prog 7 #[.int .u32 m, .slice a len cap] w fun e w' => e = .returned (.bool true) ∧ Below w.heap.size w w' := by
  have HC := Lib.hid h
  have HZ := Lib.hid hz
  have HNEW := Lib.hid (fun w => new_plain (m := m) (by omega) w)
  clear h hz
  go_enter Try.func7, Try.ntmps7
  go_wp2_with fail
  refine (fit_any _).mono ?_
  rintro e w1 ⟨rfl, hb⟩
  have HB := Lib.hid hb
  clear hb
  go_wp2_with fail
  refine (HNEW.out _).mono ?_
  rintro e w2 ⟨g, rfl, hg, hcn, hb⟩
  have HB2 := Lib.hid (HB.out.trans (hb.mono HB.out.size))
  have hg0 : w.heap.size ≤ g := Nat.le_trans HB.out.size hg
  have HCN := Lib.hid hcn
  clear hcn hb hg HB
  go_wp2
  go_loopg [6, 20] (len + 1) (fun G n i wr => ∃ j : Nat, Hid (Cnt wr g (plusN z j) m) ∧ Hid (Below w.heap.size w wr) ∧ j ≤ len ∧ G = len + 1 - j ∧ n = .int .i64 (plusN z j) ∧ i = .int .i64 j)
  case atStart => exact ⟨0, HCN, HB2, by omega, by omega, rfl, rfl⟩
  case round =>
    obtain ⟨j, hcn, hb, hj, rfl, rfl, rfl⟩ := hrel
    by_cases hlt : j < len
    · obtain ⟨ab, off, rfl, hab, hcell⟩ := (HC.out.below hb.out).at_ hlt
      have hv := plusN_le z HZ.out j
      have hx1 := HZ.out j
      have hstep : plusN z (j + 1) = plusN z j + z j := rfl
      obtain ⟨v, hvv⟩ : ∃ v, plusN z j = v := ⟨_, rfl⟩
      obtain ⟨x, hx⟩ : ∃ x, z j = x := ⟨_, rfl⟩
      have hadd := fun o ho => add_if hcn.out ((z j : Nat) : Int) (o := o) ho
      rw [hvv] at hv hstep hadd ⊢
      simp only [hx] at hstep hcell hx1 hadd
      rw [sumN_plain (by omega)] at hadd
      obtain ⟨s, hs⟩ : ∃ s, v + x = s := ⟨_, rfl⟩
      simp only [hs] at hstep hadd
      have HST := Lib.hid hstep
      have hvx : (v : Int) + (x : Int) = (s : Int) := by omega
      have hsl : s ≤ 6553500 + 65535 := by omega
      clear hvv hx hstep hs hv
      by_cases h1 : m ≤ s
      · have HA := Lib.hid (hadd false (by simp; omega))
        clear hadd
        go_wp2_with fail
        refine HA.out.mono ?_
        rintro e w4 ⟨rfl, hcn2, hb2⟩
        have HCN2 := Lib.hid hcn2
        have HB3 := Lib.hid (hb.out.trans (hb2.mono hg0))
        clear hcn2 hb2
        go_wp2_with fail
        have hle := left_any HCN2.out
        rw [show m - s = 0 by omega] at hle
        refine hle.mono ?_
        rintro e w7 ⟨rfl, hd⟩
        have HCN4 := Lib.hid (HCN2.out.drew hd)
        have HB5 := Lib.hid (below_drewE10 HB3.out hd)
        clear hd hle
        go_wp2_with fail
        refine (value_any HCN4.out).mono ?_
        rintro e w5 ⟨rfl, rfl⟩
        go_wp2_with fail
        go_roundg (len - j)
        case measure => omega
        case rel => exact ⟨j + 1, HST.out ▸ HCN4, HB5, by omega, by omega, by rw [HST.out], by go_num⟩
      · obtain ⟨l, hls⟩ : ∃ l, m - s = l := ⟨_, rfl⟩
        have HA := Lib.hid (hadd true (by simp; omega))
        have hd1 : ((l : Int) + (s : Int) != (m : Int)) = false := by simp; omega
        clear hadd
        go_wp2_with fail
        refine HA.out.mono ?_
        rintro e w4 ⟨rfl, hcn2, hb2⟩
        have HCN2 := Lib.hid hcn2
        have HB3 := Lib.hid (hb.out.trans (hb2.mono hg0))
        clear hcn2 hb2
        go_wp2_with fail
        have hle := left_any HCN2.out
        rw [hls] at hle
        refine hle.mono ?_
        rintro e w7 ⟨rfl, hd⟩
        have HCN4 := Lib.hid (HCN2.out.drew hd)
        have HB5 := Lib.hid (below_drewE10 HB3.out hd)
        clear hd hle
        go_wp2_with fail
        refine (value_any HCN4.out).mono ?_
        rintro e w5 ⟨rfl, rfl⟩
        go_wp2_with fail
        refine (value_any HCN4.out).mono ?_
        rintro e w5 ⟨rfl, rfl⟩
        go_wp2_with fail
        go_roundg (len - j)
        case measure => omega
        case rel => exact ⟨j + 1, HST.out ▸ HCN4, HB5, by omega, by omega, by rw [HST.out], by go_num⟩
    · obtain rfl : j = len := by omega
      have HR := Lib.hid (reset_plain hcn.out)
      go_wp2_with fail
      refine HR.out.mono ?_
      rintro e w3 ⟨rfl, hcn2, hb2⟩
      have HCN2 := Lib.hid hcn2
      have HB3 := Lib.hid (hb.out.trans (hb2.mono hg0))
      clear hcn2 hb2
      go_wp2_with fail
      refine (left_zero HCN2.out).mono ?_
      rintro e w6 ⟨rfl, hd⟩
      have HCN3 := Lib.hid (HCN2.out.drew hd)
      have HB4 := Lib.hid (below_drewE10 HB3.out hd)
      clear hd
      go_wp2_with fail
      refine (value_any HCN3.out).mono ?_
      rintro e w5 ⟨rfl, rfl⟩
      go_wp2_with fail
      go_ret
      exact ⟨by simp, HB4.out⟩

theorem lefts_any (m : Int) (a : Option Addr) (len cap : Nat) (z : Nat → Int) (w : World) (hm : (Lit.int .u32 m).wf = true) (h : IsInts .u16 w a len cap z) :
    Calls Try.prog 7 #[.int .u32 m, .slice a len cap] w fun e w' => e = .returned (.bool true) ∧ Below w.heap.size w w' := by
  by_cases hl : 100 < len
  · exact lefts_out m a len cap w hl
  · simp [Lit.wf, IntKind.min, IntKind.max, IntKind.signed, IntKind.bits] at hm
    obtain ⟨t, rfl⟩ : ∃ t : Nat, m = (t : Int) := ⟨m.toNat, by omega⟩
    have hw : ∀ j, j < cap → 0 ≤ z j ∧ z j < 65536 := fun j hj => by
      have := h.2.2.1 j hj
      simp [Lit.wf, IntKind.min, IntKind.max, IntKind.signed, IntKind.bits] at this
      omega
    have hc := (ints_of10 _ h).1
    have hle := (ints_of10 _ h).2
    refine lefts_in t (by omega) a len cap (fun j => if j < cap then (z j).toNat else 0) (fun j => ?_) w (by omega) hle (hc.congr fun j hj => ?_)
    · show (if j < cap then (z j).toNat else 0) ≤ 65535
      split
      · have := hw j (by omega); omega
      · omega
    · show Value.int .u16 (z j) = Value.int .u16 (((if j < cap then (z j).toNat else 0) : Nat) : Int)
      have := hw j (by omega)
      rw [if_pos (by omega), Int.toNat_of_nonneg (by omega)]
end Go.Proofs.Ytipanbiackidgaa
