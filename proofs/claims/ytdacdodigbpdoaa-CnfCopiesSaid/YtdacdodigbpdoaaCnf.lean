/- What the functions of the package of formulas answer. -/
import Derived.Test.YtdacdodigbpdoaaLit
import Derived.Test.YtdacdodigbpdoaaMem
import Derived.Test.YtdacdodigbpdoaaCnfMath
import Derived.Test.YtdacdodigbpdoaaOwn
import Derived.Deep.LoopGhost
namespace Go.Proofs.Ytdacdodigbpdoaa
open Go.RowKit

theorem holds_gen (l : Int) (B : Nat) (A : Option Addr) (z : List Bool) (c : Nat) (w : World) (h1 : -9223372036854775807 ≤ l) (h2 : l ≤ 9223372036854775807) (hn : z.length ≤ 9223372036854775807) (hc : Bools w B A z) :
    Calls Try.prog 21 #[.int .i64 l, .slice A z.length c] w fun e w' => e = .returned (.bool (litHolds l z.length (fun j => z.getD j false))) ∧ w = w' := by
  rcases Nat.eq_zero_or_pos z.length with h0 | h0
  · rw [h0]
    rw [litHolds_out (by omega)]
    have hv := litVar_nonneg l
    have hv' := litVar_le (l := l) (b := 9223372036854775807) h1 h2
    have HV := fun w => var_any l w h1 h2
    clear h1 h2 hc h0
    obtain ⟨v, hv3⟩ : ∃ v, v = litVar l := ⟨_, rfl⟩
    rw [← hv3] at hv hv'
    simp only [← hv3] at HV
    clear hv3
    by_cases hp : v < 1
    all_goals
      go_enter Try.func21, Try.ntmps21
      go_wp2_with (go_at_call 27; refine (HV _).mono ?_; rintro e w' ⟨rfl, rfl⟩)
      go_ret
      exact ⟨rfl, rfl⟩
  · obtain ⟨b, off, rfl, _, hcell⟩ := hc h0
    exact holds_any l b off z.length c _ w h1 h2 hn hcell

theorem clause_any (xs : List Int) (B B' : Nat) (A A' : Option Addr) (z : List Bool) (c c' : Nat) (w : World) (hxw : Wide xs) (hn : z.length ≤ 9223372036854775807) (h : Ints w B A xs) (hz : Bools w B' A' z) :
    Calls Try.prog 13 #[.slice A xs.length c, .slice A' z.length c'] w fun e w' => e = .returned (.bool (clauseSat z xs)) ∧ w = w' := by
  have H := Lib.hid h
  have HZ := Lib.hid hz
  have hx := hxw.1
  have HB := Lib.hid hxw.2
  clear h hz hxw
  go_enter Try.func13, Try.ntmps13
  go_wp2
  go_loopg [9] (xs.length + 1) (fun g i w' => ∃ k : Nat, w = w' ∧ k ≤ xs.length ∧ g = xs.length - k + 1 ∧ i = .int .i64 k ∧ clauseSat z xs = clauseSat z (xs.drop k))
  case atStart => exact ⟨0, rfl, by omega, by omega, rfl, rfl⟩
  case round =>
    obtain ⟨k, rfl, hk, rfl, rfl, hs⟩ := hrel
    have HS := Lib.hid hs
    clear hs
    by_cases hlt : k < xs.length
    · obtain ⟨b, off, rfl, _, hcell⟩ := H.out.at_ hlt
      obtain ⟨hb1, hb2⟩ := HB.out k
      have hd := clauseSat_drop (z := z) hlt
      obtain ⟨l, hl⟩ : ∃ l, l = xs.getD k 0 := ⟨_, rfl⟩
      rw [← hl] at hcell hb1 hb2 hd
      clear hl
      have HC := fun w h => holds_gen l B' A' z c' w hb1 hb2 hn h
      rcases hh : litHolds l z.length (fun j => z.getD j false) with _ | _
      · rw [hh, Bool.false_or] at hd
        have HD := Lib.hid hd
        clear hd
        have HH := Lib.hid hh
        clear hh
        go_wp2_with (go_at_call 21; refine (HC _ HZ.out).mono ?_; rintro e w' ⟨rfl, rfl⟩; rw [HH.out])
        go_roundg (xs.length - k)
        case measure => omega
        case rel => exact ⟨k + 1, rfl, by omega, by omega, by go_num, by rw [HS.out, HD.out]⟩
      · rw [hh, Bool.true_or] at hd
        have HD := Lib.hid hd
        clear hd
        have HH := Lib.hid hh
        clear hh
        go_wp2_with (go_at_call 21; refine (HC _ HZ.out).mono ?_; rintro e w' ⟨rfl, rfl⟩; rw [HH.out])
        go_ret
        exact ⟨ret_bool (by rw [HS.out, HD.out]), rfl⟩
    · go_wp2
      go_ret
      exact ⟨ret_bool (by rw [HS.out, List.drop_eq_nil_of_le (by omega), clauseSat_nil]), rfl⟩

theorem next_any (xss : List (List Int)) (B B' : Nat) (A A' : Option Addr) (z : List Bool) (c c' k0 : Nat) (w : World) (hxw : Wides xss) (hn : z.length ≤ 9223372036854775807) (hk0 : k0 ≤ xss.length)
    (h : Rows w B A xss) (hz : Bools w B' A' z) :
    Calls Try.prog 20 #[.slice A xss.length c, .slice A' z.length c', .int .i64 k0] w fun e w' => e = .returned (.int .i64 (nextUns z xss k0)) ∧ w = w' := by
  have H := Lib.hid h
  have HZ := Lib.hid hz
  have hxx := hxw.1
  have HX := Lib.hid hxw.2
  clear h hz hxw
  go_enter Try.func20, Try.ntmps20
  go_wp2
  go_step3
  go_wp2
  go_step3
  go_wp2
  go_loopg [7] (xss.length - k0 + 1) (fun g i w' => ∃ k : Nat, w = w' ∧ k ≤ xss.length ∧ g = xss.length - k + 1 ∧ i = .int .i64 k ∧ nextUns z xss k0 = nextUns z xss k)
  case atStart => exact ⟨k0, rfl, by omega, by omega, rfl, rfl⟩
  case round =>
    obtain ⟨k, rfl, hk, rfl, rfl, hs⟩ := hrel
    have HS := Lib.hid hs
    clear hs
    by_cases hlt : k < xss.length
    · obtain ⟨b, off, Ak, ck, rfl, _, hcell, hint⟩ := H.out.at_ hlt
      obtain ⟨hxk, hbk⟩ := HX.out k
      have hu1 := nextUns_hit (z := z) hlt
      have hu2 := nextUns_skip (z := z) hlt
      obtain ⟨xs, hxs⟩ : ∃ xs, xs = xss.getD k [] := ⟨_, rfl⟩
      rw [← hxs] at hcell hint hxk hbk hu1 hu2
      clear hxs
      have HI := Lib.hid hint
      have HBK := Lib.hid hbk
      have HU1 := Lib.hid hu1
      have HU2 := Lib.hid hu2
      clear hint hbk hu1 hu2
      go_wp2
      go_loopg [22] (xs.length + 1) (fun g i w' => ∃ k : Nat, w = w' ∧ k ≤ xs.length ∧ g = xs.length - k + 1 ∧ i = .int .i64 k ∧ clauseSat z xs = clauseSat z (xs.drop k))
      case atStart => exact ⟨0, rfl, by omega, by omega, rfl, rfl⟩
      case round =>
        obtain ⟨j, rfl, hj, rfl, rfl, hs⟩ := hrel
        have HSj := Lib.hid hs
        clear hs
        by_cases hlt : j < xs.length
        · obtain ⟨b, off, rfl, _, hcell⟩ := HI.out.at_ hlt
          obtain ⟨hb1, hb2⟩ := HBK.out j
          have hd := clauseSat_drop (z := z) hlt
          obtain ⟨l, hl⟩ : ∃ l, l = xs.getD j 0 := ⟨_, rfl⟩
          rw [← hl] at hcell hb1 hb2 hd
          clear hl
          have HC := fun w h => holds_gen l B' A' z c' w hb1 hb2 hn h
          rcases hh : litHolds l z.length (fun j => z.getD j false) with _ | _
          · rw [hh, Bool.false_or] at hd
            have HD := Lib.hid hd
            have HH := Lib.hid hh
            clear hd hh
            go_wp2_with (go_at_call 21; refine (HC _ HZ.out).mono ?_; rintro e w' ⟨rfl, rfl⟩; rw [HH.out])
            go_roundg (xs.length - j)
            case measure => omega
            case rel => exact ⟨j + 1, rfl, by omega, by omega, by go_num, by rw [HSj.out, HD.out]⟩
          · rw [hh, Bool.true_or] at hd
            have HD := Lib.hid hd
            have HH := Lib.hid hh
            clear hd hh
            go_wp2_with (go_at_call 21; refine (HC _ HZ.out).mono ?_; rintro e w' ⟨rfl, rfl⟩; rw [HH.out])
            go_roundg (xss.length - k)
            case measure => omega
            case rel => exact ⟨k + 1, rfl, by omega, by omega, by go_num, by rw [HS.out, HU2.out (by rw [HSj.out, HD.out])]⟩
        · go_wp2
          rw [Exit.noGoto_ret]
          go_ret
          exact ⟨ret_int (by rw [HS.out, HU1.out (by rw [HSj.out, List.drop_eq_nil_of_le (by omega), clauseSat_nil])]), rfl⟩
    · go_wp2
      try rw [Exit.noGoto_ret]
      go_ret
      exact ⟨ret_int (by rw [HS.out, nextUns_end (by omega)]; omega), rfl⟩

theorem satisfies_any (V : Int) (xss : List (List Int)) (B B' : Nat) (A A' : Option Addr) (z : List Bool) (c c' : Nat) (w : World) (hxw : Wides xss) (hn : z.length ≤ 9223372036854775807)
    (h : Rows w B A xss) (hz : Bools w B' A' z) (hB : B ≤ w.heap.size) (hB' : B' ≤ w.heap.size) :
    Calls Try.prog 14 #[.agg #[.int .i64 V, .slice A xss.length c], .slice A' z.length c'] w fun e w' =>
      e = .returned (.bool (((z.length : Int) == V) && (nextUns z xss 0 == xss.length))) ∧ Below w.heap.size w w' := by
  have H := Lib.hid h
  have HZ := Lib.hid hz
  have HX := Lib.hid hxw
  clear h hz hxw
  rcases hg : ((z.length : Int) == V) with _ | _
  · go_enter Try.func14, Try.ntmps14
    go_wp2
    go_quiet (fail)
    go_wp2
    go_ret
    exact ⟨ret_bool (by rfl), below_drewN ((Below.refl _ _).alloc (Nat.le_refl _) _) _⟩
  · go_enter Try.func14, Try.ntmps14
    go_wp2
    go_quiet ((go_at_call 20; exact quiet_left (next_any xss B B' A A' z _ _ 0 _ HX.out hn (Nat.zero_le _) ((H.out.alloc hB _).drewN _) ((HZ.out.alloc hB' _).drewN _))))
    go_wp2
    go_ret
    exact ⟨ret_bool (by rw [Bool.eq_iff_iff]; simp; omega), below_drewN ((Below.refl _ _).alloc (Nat.le_refl _) _) _⟩

end Go.Proofs.Ytdacdodigbpdoaa
