/- What package table answers: totals, places. -/
import Derived.Test.YtjjpgiahifkinaaTab2
namespace Go.Proofs.Ytjjpgiahifkinaa
open Go.RowKit
set_option linter.unusedVariables false
set_option linter.unusedSimpArgs false

theorem clip_sum {e : Bool} {b : Nat} (ho : OkB e b) {xs : List Int} (hl : xs.length ≤ 4096) (k : Nat) : sumW e b (xs.take k) ≤ 4503599627370496 := by
  have h1 := sumW_take_le e b xs k
  have h2 := sumW_le ho xs
  omega
set_option maxHeartbeats 1000000 in
theorem total_any {w : World} {g : Nat} {e : Bool} {b : Nat} (h : Tab w g e b) (ho : OkB e b) {A : Option Addr} {xs : List Int} {c : Nat} (hx : Ints w w.heap.size A xs) (hl : xs.length ≤ 4096) :
    Calls Try.prog 14 #[.pointer (some ⟨g, 0, none⟩), .slice A xs.length c] w fun x w' => x = .returned (.int .i64 (sumW e b xs : Int)) ∧ w = w' := by
  have HW := Lib.hid (fun k => weight_any h k)
  have HX := Lib.hid hx
  have HS := Lib.hid (fun k => clip_sum ho hl k)
  obtain ⟨n, hn⟩ : ∃ n, xs.length = n := ⟨_, rfl⟩
  have HN := Lib.hid hn
  have HL := Lib.hid (fun k => wt_le ho k)
  rw [hn] at hl ⊢
  clear hn h hx
  go_enter Try.func14, Try.ntmps14
  go_wp2
  go_loopg [5, 10] (n + 1) (fun G s i wr => ∃ k : Nat, k ≤ n ∧ G = n + 1 - k ∧ s = .int .i64 (sumW e b (xs.take k) : Int) ∧ i = .int .i64 (k : Int) ∧ wr = w)
  case atStart => exact ⟨0, by omega, rfl, by simp [sumW], rfl, rfl⟩
  case round =>
    obtain ⟨k, hk, rfl, rfl, rfl, rfl⟩ := hrel
    by_cases hlt : k < n
    · obtain ⟨ab, off, rfl, hab, hcell⟩ := HX.out.at_ (k := k) (by have := HN.out; omega)
      have hstep := sumW_take e b (xs := xs) (k := k) (by have := HN.out; omega)
      have hs1 := HS.out (k + 1)
      have hs0 := HS.out k
      obtain ⟨y, hy⟩ : ∃ y, xs.getD k 0 = y := ⟨_, rfl⟩
      rw [hy] at hstep hcell
      have HWY := Lib.hid (HW.out y)
      obtain ⟨v, hv⟩ : ∃ v, wt e b y = v := ⟨_, rfl⟩
      rw [hv] at hstep HWY
      obtain ⟨s, hs⟩ : ∃ s, sumW e b (xs.take k) = s := ⟨_, rfl⟩
      obtain ⟨s', hs'⟩ : ∃ s', sumW e b (xs.take (k + 1)) = s' := ⟨_, rfl⟩
      rw [hs, hs'] at hstep
      rw [hs'] at hs1
      rw [hs] at hs0
      rw [hs]
      have HS2 := Lib.hid hs'
      obtain rfl : s' = s + v := hstep
      clear hy hv hs hs'
      go_wp2_with fail
      refine HWY.out.mono ?_
      rintro x w1 ⟨rfl, rfl⟩
      go_wp2
      go_roundg (n - k)
      case measure => omega
      case rel => exact ⟨k + 1, by omega, by omega, by rw [HS2.out]; go_num, by go_num, rfl⟩
    · obtain rfl : k = n := by omega
      have HF : sumW e b (xs.take k) = sumW e b xs := by rw [List.take_of_length_le (by have := HN.out; omega)]
      have HF2 := Lib.hid HF
      clear HF
      go_wp2
      go_ret
      exact ⟨by rw [← HF2.out]; rfl, rfl⟩
set_option maxHeartbeats 1000000 in
theorem pick_none {w : World} {g : Nat} {e : Bool} {b : Nat} (h : Tab w g e b) (ho : OkB e b) (A : Option Addr) (c : Nat) (x : Int) :
    Calls Try.prog 15 #[.pointer (some ⟨g, 0, none⟩), .slice A 0 c, .int .u64 x] w fun v w' => v = .returned (.int .i64 (-1)) ∧ w = w' := by
  have HT := Lib.hid (total_any h ho (A := A) (xs := []) (c := c) Cells.nil_ (by simp))
  clear h ho
  go_enter Try.func15, Try.ntmps15
  go_wp2_with fail
  refine HT.out.mono ?_
  rintro v w1 ⟨rfl, rfl⟩
  rw [sumW_nil]
  go_wp2
  go_ret
  exact ⟨rfl, rfl⟩
set_option maxHeartbeats 1000000 in
theorem pick_any {w : World} {g : Nat} {e : Bool} {b : Nat} (h : Tab w g e b) (ho : OkB e b) {A : Option Addr} {xs : List Int} {c : Nat} (hx : Ints w w.heap.size A xs) (hl : xs.length ≤ 4096) (h0 : 0 < xs.length) (x : Nat) (hx64 : x < 2 ^ 64) {j : Nat} (hj : Falls e b xs (x % sumW e b xs) j) :
    Calls Try.prog 15 #[.pointer (some ⟨g, 0, none⟩), .slice A xs.length c, .int .u64 x] w fun v w' => v = .returned (.int .i64 (j : Int)) ∧ w = w' := by
  have HT := Lib.hid (total_any h ho (c := c) hx hl)
  have HW := Lib.hid (fun k => weight_any h k)
  have HX := Lib.hid hx
  have HS := Lib.hid (fun k => clip_sum ho hl k)
  have HL := Lib.hid (fun k => wt_le ho k)
  obtain ⟨r, hr⟩ : ∃ r, x % sumW e b xs = r := ⟨_, rfl⟩
  rw [hr] at hj
  have hs1 := len_le_sumW e b xs
  have hs2 : sumW e b xs ≤ 4503599627370496 := by have := clip_sum ho hl xs.length; rwa [List.take_of_length_le (Nat.le_refl _)] at this
  obtain ⟨T, hT⟩ : ∃ T, sumW e b xs = T := ⟨_, rfl⟩
  rw [hT] at HT hr hs1 hs2
  have hrl : r < T := by rw [← hr]; exact Nat.mod_lt _ (by omega)
  obtain ⟨n, hn⟩ : ∃ n, xs.length = n := ⟨_, rfl⟩
  have HN := Lib.hid hn
  have HJ := Lib.hid hj
  have hjn : j < n := by rw [← hn]; exact hj.1
  rw [hn] at hl h0 hs1 HT ⊢
  have ec : IntKind.u64.wrap (T : Int) = (T : Int) := by simp [IntKind.wrap, IntKind.signed, IntKind.bits]; omega
  have er : Int.tmod (x : Int) (T : Int) = (r : Int) := by rw [← hr]; rfl
  have er2 : (x : Int) % (T : Int) = (r : Int) := by rw [← hr]; simp
  have hT0 : ((T : Int) == 0) = false := by simp; omega
  clear hn hT h hx hj hr
  go_enter Try.func15, Try.ntmps15
  go_wp2_with fail
  refine HT.out.mono ?_
  rintro v w1 ⟨rfl, rfl⟩
  go_wp2
  have hS0 : sumW e b (xs.take 0) = 0 := by simp [sumW]
  have HS0 := Lib.hid hS0
  clear hS0
  go_loopg [8, 24] (n + 1) (fun G d i wr => ∃ k D : Nat, k ≤ j ∧ G = n + 1 - k ∧ d = .int .i64 (D : Int) ∧ i = .int .i64 (k : Int) ∧ wr = w ∧ D ≤ r ∧ Hid (r = sumW e b (xs.take k) + D))
  case atStart => exact ⟨0, r, by omega, rfl, rfl, rfl, rfl, Nat.le_refl _, Lib.hid (by rw [HS0.out]; omega)⟩
  case round =>
    obtain ⟨k, D, hk, rfl, rfl, rfl, rfl, hD, HD⟩ := hrel
    have hkn : k < n := by omega
    obtain ⟨ab, off, rfl, hab, hcell⟩ := HX.out.at_ (k := k) (by have := HN.out; omega)
    have hstep := sumW_take e b (xs := xs) (k := k) (by have := HN.out; omega)
    obtain ⟨y, hy⟩ : ∃ y, xs.getD k 0 = y := ⟨_, rfl⟩
    rw [hy] at hstep hcell
    have HWY := Lib.hid (HW.out y)
    have hvl := HL.out y
    obtain ⟨v, hv⟩ : ∃ v, wt e b y = v := ⟨_, rfl⟩
    rw [hv] at hstep HWY hvl
    have HST := Lib.hid hstep
    have hcmp : D < v ↔ k = j := by
      have hd := HD.out
      constructor
      · intro h
        exact Falls.one ⟨by have := HN.out; omega, by omega, by omega⟩ HJ.out
      · rintro rfl
        have := HJ.out.2.2
        omega
    clear hy hv hstep
    by_cases hkj : k = j
    · have hlt : D < v := hcmp.2 hkj
      subst hkj
      clear hcmp
      go_wp2_with fail
      refine HWY.out.mono ?_
      rintro x w1 ⟨rfl, rfl⟩
      go_wp2
      go_ret
      exact ⟨rfl, rfl⟩
    · have hge : v ≤ D := by
        rcases Nat.lt_or_ge D v with h | h
        · exact absurd (hcmp.1 h) hkj
        · exact h
      have hk1 : k + 1 ≤ j := by omega
      clear hcmp hkj
      go_wp2_with fail
      refine HWY.out.mono ?_
      rintro x w1 ⟨rfl, rfl⟩
      go_wp2
      go_roundg (n - k)
      case measure => omega
      case rel => exact ⟨k + 1, D - v, by omega, by omega, by go_num, by go_num, rfl, by omega, Lib.hid (by rw [HST.out]; have := HD.out; omega)⟩
end Go.Proofs.Ytjjpgiahifkinaa
