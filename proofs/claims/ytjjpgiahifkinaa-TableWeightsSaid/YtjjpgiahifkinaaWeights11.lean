/- The statements on weights, and on kinds and bases. -/
import Derived.Test.YtjjpgiahifkinaaLaw11
namespace Go.Proofs.Ytjjpgiahifkinaa
open Go.RowKit
set_option linter.unusedVariables false
set_option linter.unusedSimpArgs false

set_option maxHeartbeats 1000000 in
theorem rights_any (k b : Int) (w : World) : Calls Try.prog 5 #[.int .i64 k, .int .i64 b] w fun e w' => e = .returned (.bool true) ∧ Below w.heap.size w w' := by
  have HR := Lib.hid (fun w => right_any k b w)
  have HE := Lib.hid (show rightB k b = decide (k = 0 ∧ 1 ≤ b ∧ b ≤ 64 ∨ k = 1 ∧ 17 ≤ b ∧ b ≤ 256) from rfl)
  obtain ⟨r, hr⟩ : ∃ r, rightB k b = r := ⟨_, rfl⟩
  rw [hr] at HR HE
  clear hr
  by_cases h0 : k = 0
  · subst h0
    go_enter Try.func5, Try.ntmps5
    go_wp2_with fail
    refine (fit_any _).mono ?_
    rintro v w1 ⟨rfl, hb⟩
    have HB := Lib.hid hb
    clear hb
    go_wp2_with fail
    refine (HR.out _).mono ?_
    rintro v w2 ⟨rfl, rfl⟩
    go_wp2
    all_goals go_ret
    all_goals exact ⟨by rw [HE.out]; simp; try omega, HB.out⟩
  · by_cases h1 : k = 1
    · subst h1
      clear h0
      go_enter Try.func5, Try.ntmps5
      go_wp2_with fail
      refine (fit_any _).mono ?_
      rintro v w1 ⟨rfl, hb⟩
      have HB := Lib.hid hb
      clear hb
      go_wp2_with fail
      refine (HR.out _).mono ?_
      rintro v w2 ⟨rfl, rfl⟩
      go_wp2
      all_goals go_ret
      all_goals exact ⟨by rw [HE.out]; simp; try omega, HB.out⟩
    · have h2 : r = false := by rw [HE.out]; simp [h0, h1]
      subst h2
      clear HE
      go_enter Try.func5, Try.ntmps5
      go_wp2_with fail
      refine (fit_any _).mono ?_
      rintro v w1 ⟨rfl, hb⟩
      have HB := Lib.hid hb
      clear hb
      go_wp2_with fail
      refine (HR.out _).mono ?_
      rintro v w2 ⟨rfl, rfl⟩
      go_wp2
      all_goals go_ret
      all_goals exact ⟨by simp, HB.out⟩

set_option maxHeartbeats 2000000 in
theorem weights_any (e : Bool) (x : Nat) (hx : x < 256) (k : Int) (w : World) : Calls Try.prog 3 #[.bool e, .int .u8 x, .int .i64 k] w fun v w' => v = .returned (.bool true) ∧ Below w.heap.size w w' := by
  have HO := Lib.hid (baseN_ok e x)
  have HM := Lib.hid (fun w => made_any e x hx w)
  obtain ⟨b, hb⟩ : ∃ b, baseN e x = b := ⟨_, rfl⟩
  rw [hb] at HO HM
  clear hb
  have HNEW := Lib.hid (fun w => new_any HO.out w)
  have HL := Lib.hid (fun k w => law_weight HO.out k w)
  have HR := Lib.hid (fun w => (by have hr : rightB (kindI e) b = true := by
                                     have := HO.out
                                     cases e <;> simp [OkB, kindI, rightB] at this ⊢ <;> omega
                                   exact hr ▸ right_any (kindI e) b w : Calls Try.prog 13 #[.int .i64 (kindI e), .int .i64 b] w fun e w' => e = .returned (.bool true) ∧ w = w'))
  have HD := Lib.hid (fun k => wt_down HO.out k)
  have HP := Lib.hid (fun k => wt_pos e b k)
  have HLE := Lib.hid (fun k => wt_le HO.out k)
  obtain ⟨kd, hkd⟩ : ∃ kd, kindI e = kd := ⟨_, rfl⟩
  rw [hkd] at HM HNEW HL HR
  clear hkd
  go_enter Try.func3, Try.ntmps3
  go_wp2_with fail
  refine (fit_any _).mono ?_
  rintro v w1 ⟨rfl, hb⟩
  have HB := Lib.hid hb
  clear hb
  go_wp2_with fail
  with_reducible refine (HM.out _).mono ?_
  rintro v w2 ⟨rfl, rfl⟩
  go_wp2_with fail
  with_reducible refine (HNEW.out _).mono ?_
  rintro v w2 ⟨g, rfl, hg, ht, hb⟩
  have HT := Lib.hid ht
  have HB2 := Lib.hid (HB.out.trans (hb.mono HB.out.size))
  clear ht hb hg HB
  have HW := Lib.hid (fun k => weight_any HT.out k)
  have hx1 := HLE.out k
  have HWk := Lib.hid (HW.out k)
  have HLk := Lib.hid (HL.out k)
  obtain ⟨y, hy⟩ : ∃ y, wt e b k = y := ⟨_, rfl⟩
  rw [hy] at hx1 HWk HLk
  clear hy
  go_wp2_with fail
  with_reducible refine HWk.out.mono ?_
  rintro v w3 ⟨rfl, rfl⟩
  go_wp2_with fail
  with_reducible refine (HLk.out _).mono ?_
  rintro v w3 ⟨rfl, rfl⟩
  go_wp2_with fail
  with_reducible refine (HR.out _).mono ?_
  rintro v w3 ⟨rfl, rfl⟩
  clear hx1 HWk HLk
  go_wp2
  go_loopg [36] 71 (fun G p wr => ∃ i : Nat, i ≤ 70 ∧ G = 71 - i ∧ p = .int .i64 (i : Int) ∧ wr = w2)
  case atStart => exact ⟨0, by omega, rfl, rfl, rfl⟩
  case round =>
    obtain ⟨i, hi, rfl, rfl, rfl⟩ := hrel
    by_cases hlt : i < 70
    · have HW0 := Lib.hid (HW.out (i : Int))
      have HW1 := Lib.hid (HW.out ((i : Int) + 1))
      have HLi := Lib.hid (HL.out (i : Int))
      have hd := HD.out i
      have hp := HP.out (i : Int)
      have hl := HLE.out (i : Int)
      obtain ⟨y, hy⟩ : ∃ y, wt e b (i : Int) = y := ⟨_, rfl⟩
      obtain ⟨z, hz⟩ : ∃ z, wt e b ((i : Int) + 1) = z := ⟨_, rfl⟩
      rw [hy] at HW0 HLi hp hl hd
      rw [hz] at HW1 hd
      clear hy hz
      go_wp2_with fail
      with_reducible refine HW0.out.mono ?_
      rintro v w3 ⟨rfl, rfl⟩
      go_wp2_with fail
      with_reducible refine (HLi.out _).mono ?_
      rintro v w3 ⟨rfl, rfl⟩
      go_wp2_with fail
      with_reducible refine HW1.out.mono ?_
      rintro v w3 ⟨rfl, rfl⟩
      go_wp2_with fail
      with_reducible refine HW0.out.mono ?_
      rintro v w3 ⟨rfl, rfl⟩
      go_wp2_with fail
      with_reducible refine HW0.out.mono ?_
      rintro v w3 ⟨rfl, rfl⟩
      go_wp2
      go_roundg (70 - i)
      case measure => omega
      case rel => exact ⟨i + 1, by omega, by omega, by go_num, rfl⟩
    · obtain rfl : i = 70 := by omega
      go_wp2
      go_ret
      exact ⟨rfl, HB2.out⟩

theorem weights_all (e : Bool) (x k : Int) (w : World) (h : (Lit.int .u8 x).wf = true) : Calls Try.prog 3 #[.bool e, .int .u8 x, .int .i64 k] w fun v w' => v = .returned (.bool true) ∧ Below w.heap.size w w' := by
  simp [Lit.wf, IntKind.min, IntKind.max, IntKind.signed, IntKind.bits] at h
  obtain ⟨t, rfl⟩ : ∃ t : Nat, x = (t : Int) := ⟨x.toNat, by omega⟩
  exact weights_any e t (by omega) k w
end Go.Proofs.Ytjjpgiahifkinaa
