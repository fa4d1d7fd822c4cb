/- The statement on what is drawn below a number. -/
import Derived.Test.YtkolhhahnkfnoaaFit09
namespace Go.Proofs.Ytkolhhahnkfnoaa
open Go.RowKit
set_option linter.unusedVariables false
set_option linter.unusedSimpArgs false

theorem words_of {W : World} {a : Option Addr} {len cap : Nat} {z : Nat → Int} (h : IsInts .u64 W a len cap z) (hl : len ≤ 1000000) : ∃ ws : List Nat, ws.length = len ∧ Words W W.heap.size a cap ws := by
  obtain ⟨h1, h2, h3, h4⟩ := h
  have hw : ∀ j, j < cap → 0 ≤ z j ∧ z j < 18446744073709551616 := fun j hj => by
    have := h3 j hj
    simp [Lit.wf, IntKind.min, IntKind.max, IntKind.signed, IntKind.bits] at this
    omega
  refine ⟨(List.range len).map fun j => (z j).toNat, by simp, ⟨fun h0 => ?_, by simpa using h1, fun x hx => ?_, by simpa using hl⟩⟩
  · have h0 : 0 < len := by simpa using h0
    obtain ⟨b, off, rfl, hb, hc⟩ := h4 (by omega)
    refine ⟨b, off, rfl, hb, fun j hj => ?_⟩
    have hj : j < len := by simpa using hj
    rw [hc j (by omega)]
    have := hw j (by omega)
    simp [List.getD, hj]
    omega
  · simp at hx
    obtain ⟨j, hj, rfl⟩ := hx
    have := hw j (by omega)
    omega

theorem law_below_out (a : Option Addr) (len cap : Nat) (s n : Int) (w : World) (h : 60 < len) :
    Calls Try.prog 6 #[.slice a len cap, .int .u64 s, .int .i64 n] w fun e w' => e = .returned (.bool true) ∧ Below w.heap.size w w' := by
  go_enter Try.func6, Try.ntmps6
  go_wp2_with fail
  refine (fit_any _).mono ?_
  rintro e w1 ⟨rfl, hb⟩
  go_wp2
  go_ret
  exact ⟨rfl, hb⟩

set_option maxHeartbeats 2000000 in
theorem law_below_in (a : Option Addr) (cap : Nat) (ws : List Nat) (s : Nat) (n : Int) (w : World) (hs : s < 2 ^ 64) (hl : ws.length ≤ 60) (h : Words w w.heap.size a cap ws) :
    Calls Try.prog 6 #[.slice a ws.length cap, .int .u64 s, .int .i64 n] w fun e w' => e = .returned (.bool true) ∧ Below w.heap.size w w' := by
  obtain ⟨k, hk⟩ : ∃ k : Nat, bits .and .i64 n 1048575 = (k : Int) := ⟨(n % 1048576).toNat, by rw [i64_and_1048575]; omega⟩
  have hkb : k < 1048576 := by have := i64_and_1048575 n; omega
  have HW := Lib.hid h
  have HS := Lib.hid hs
  obtain ⟨L, hL⟩ : ∃ L, L = ws.length := ⟨_, rfl⟩
  have HN := Lib.hid (fun (w1 : World) (hb : Below w.heap.size w w1) => hL ▸ new_any (HW.out.below hb (Nat.le_refl _)) hb.size s hs)
  rw [← hL] at hl ⊢
  clear h hs hL
  go_enter Try.func6, Try.ntmps6
  go_wp2_with fail
  refine (fit_any _).mono ?_
  rintro e w1 ⟨rfl, hb⟩
  have HB := Lib.hid hb
  clear hb
  go_wp2_with fail
  refine (HN.out _ HB.out).mono ?_
  rintro e w2 ⟨b, rfl, hst, hb⟩
  have HST := Lib.hid hst
  have HB2 := Lib.hid (HB.out.trans (hb.mono HB.out.size))
  have hbl : w.heap.size ≤ b := Nat.le_trans HB.out.size hst.low
  obtain ⟨B, hBB⟩ : ∃ B, B = w1.heap.size := ⟨_, rfl⟩
  rw [← hBB] at HST
  clear hst hb hBB
  obtain ⟨m, hm⟩ : ∃ m : Nat, (m : Int) = 1 + (k : Int) := ⟨k + 1, by omega⟩
  have e1 : IntKind.i64.wrap (1 + (k : Int)) = (m : Int) := by rw [IntWalk.i64_in _ ⟨by omega, by omega⟩]; exact hm.symm
  have hm0 : 0 < m := by omega
  have hm1 : m ≤ 1048576 := by omega
  clear hm
  go_wp2
  go_loopg [21] 21 (fun g i wr => ∃ (j last : Nat) (us : List Nat), Hid (Strm wr B b us last j) ∧ Hid (Below w.heap.size w wr) ∧ j ≤ 20 ∧ g = 21 - j ∧ i = .int .i64 j)
  case atStart => exact ⟨0, _, _, HST, HB2, by omega, by omega, rfl⟩
  case round =>
    obtain ⟨j, last, us, hst, hb, hj, rfl, rfl⟩ := hrel
    by_cases hlt : j < 20
    · go_wp2_with fail
      with_reducible refine (below_any hst.out (by omega) m hm0 (by omega)).mono ?_
      rintro e w4 ⟨rfl, hs4, ho4⟩
      obtain ⟨r, hr⟩ : ∃ r : Nat, nextOf us last % m = r := ⟨_, rfl⟩
      have hrm : r < m := by rw [← hr]; exact Nat.mod_lt _ hm0
      rw [hr]
      have HS4 := Lib.hid hs4
      have HB4 := Lib.hid (hb.out.trans (ho4.below hbl))
      clear hr hs4 ho4
      go_wp2
      go_roundg (20 - j)
      case measure => omega
      case rel => exact ⟨j + 1, _, _, HS4, HB4, by omega, by omega, by go_num⟩
    · obtain rfl : j = 20 := by omega
      go_wp2_with fail
      with_reducible refine (chance_any hst.out (by omega) _ m hm0 (by omega)).mono ?_
      rintro e w4 ⟨rfl, hs4, ho4⟩
      obtain ⟨r, hr⟩ : ∃ r : Nat, nextOf us last % m = r := ⟨_, rfl⟩
      have hrm : r < m := by rw [← hr]; exact Nat.mod_lt _ hm0
      rw [hr]
      have HS4 := Lib.hid hs4
      have HB4 := Lib.hid (hb.out.trans (ho4.below hbl))
      have d1 : decide ((r : Int) < 0) = false := decide_eq_false (by omega)
      rw [d1]
      clear hr hs4 ho4 d1
      go_wp2_with fail
      with_reducible refine (chance_any HS4.out (by omega) _ m hm0 (by omega)).mono ?_
      rintro e w5 ⟨rfl, hs5, ho5⟩
      obtain ⟨r, hr⟩ : ∃ r : Nat, nextOf us.tail (lastOf us last) % m = r := ⟨_, rfl⟩
      have hrm : r < m := by rw [← hr]; exact Nat.mod_lt _ hm0
      rw [hr]
      have HS5 := Lib.hid hs5
      have HB5 := Lib.hid (HB4.out.trans (ho5.below hbl))
      have d1 : decide ((r : Int) < (m : Int)) = true := decide_eq_true (by omega)
      rw [d1]
      clear hr hs5 ho5 d1
      go_wp2_with fail
      with_reducible refine (drawn_any HS5.out).mono ?_
      rintro e w6 ⟨rfl, rfl⟩
      go_wp2_with fail
      refine (below_none _ (by omega)).mono ?_
      rintro e w6 ⟨rfl, rfl⟩
      go_wp2_with fail
      with_reducible refine (drawn_any HS5.out).mono ?_
      rintro e w6 ⟨rfl, rfl⟩
      go_wp2
      go_ret
      exact ⟨rfl, HB5.out⟩

theorem law_below_any (a : Option Addr) (len cap : Nat) (z : Nat → Int) (s n : Int) (w : World) (hs : (Lit.int .u64 s).wf = true) (h : IsInts .u64 w a len cap z) :
    Calls Try.prog 6 #[.slice a len cap, .int .u64 s, .int .i64 n] w fun e w' => e = .returned (.bool true) ∧ Below w.heap.size w w' := by
  by_cases hl : 60 < len
  · exact law_below_out a len cap s n w hl
  · obtain ⟨ws, rfl, hw⟩ := words_of h (by omega)
    simp [Lit.wf, IntKind.min, IntKind.max, IntKind.signed, IntKind.bits] at hs
    obtain ⟨t, rfl⟩ : ∃ t : Nat, s = (t : Int) := ⟨s.toNat, by omega⟩
    exact law_below_in a cap ws t n w (by omega) (by omega) hw
end Go.Proofs.Ytkolhhahnkfnoaa
