/- The small helpers of the seventh layer's statements. -/
import Derived.Test.YtbejjddkndcldaaLit
import Derived.Test.YtbejjddkndcldaaCnf3
import Derived.Test.YtbejjddkndcldaaNormMath
import Derived.Test.YtbejjddkndcldaaRawForm
namespace Go.Proofs.Ytbejjddkndcldaa
open Go.RowKit
set_option linter.unusedVariables false

theorem take_snoc7 {xs : List Int} {k : Nat} (h : k < xs.length) : xs.take (k + 1) = xs.take k ++ [xs.getD k 0] ∧ xs.getD k 0 ∈ xs := by
  refine ⟨by rw [List.take_succ_eq_append_getElem h]; simp [List.getD, h], ?_⟩
  rw [show xs.getD k 0 = xs[k] by simp [List.getD, h]]
  exact List.getElem_mem h
/-- literals that a program can negate -/
def Mid (xs : List Int) : Prop := xs.length ≤ 1099511627776 ∧ ∀ x, x ∈ xs → -1000000 ≤ x ∧ x ≤ 1000000
theorem Mid.getD {xs : List Int} (h : Mid xs) (k : Nat) : -1000000 ≤ xs.getD k 0 ∧ xs.getD k 0 ≤ 1000000 := by
  by_cases hk : k < xs.length
  · exact h.2 _ (take_snoc7 hk).2
  · rw [List.getD, List.getElem?_eq_none (by omega)]; decide

theorem in_any07 (xs : List Int) (B : Nat) (A : Option Addr) (c : Nat) (x : Int) (w : World) (hx : xs.length ≤ 1099511627776) (h : Ints w B A xs) :
    Calls Try.prog 48 #[.slice A xs.length c, .int .i64 x] w fun e w' => e = .returned (.bool (decide (x ∈ xs))) ∧ w = w' := by
  have H := Lib.hid h
  clear h
  go_enter Try.func48, Try.ntmps48
  go_wp2
  go_loopg [5] (xs.length + 1) (fun gk i wr => ∃ k : Nat, k ≤ xs.length ∧ gk = xs.length - k + 1 ∧ i = .int .i64 k ∧ w = wr ∧ Hid (∀ y, y ∈ xs.take k → y ≠ x))
  case atStart => exact ⟨0, by omega, by omega, rfl, rfl, Lib.hid (by simp)⟩
  case round =>
    obtain ⟨k, hk, rfl, rfl, rfl, hn⟩ := hrel
    by_cases hlt : k < xs.length
    · obtain ⟨b, off, rfl, _, hc⟩ := Cells.at_ H.out hlt
      obtain ⟨htk, hm⟩ := take_snoc7 hlt
      obtain ⟨y, hy⟩ : ∃ y, y = xs.getD k 0 := ⟨_, rfl⟩
      rw [← hy] at hc htk hm
      have HTK := Lib.hid htk
      have HM := Lib.hid hm
      clear hy htk hm
      by_cases he : y = x
      · have HD : Hid (decide (x ∈ xs) = true) := Lib.hid (by rw [decide_eq_true_eq, ← he]; exact HM.out)
        go_wp2
        go_ret
        exact ⟨by rw [HD.out]; rfl, rfl⟩
      · have HE := Lib.hid he
        go_wp2
        go_roundg (xs.length - k)
        case measure => omega
        case rel =>
          refine ⟨k + 1, by omega, by omega, by go_num, rfl, Lib.hid ?_⟩
          rw [HTK.out]
          intro z hz
          rcases List.mem_append.1 hz with hz | hz
          · exact hn.out z hz
          · rw [List.mem_singleton.1 hz]; exact HE.out
    · obtain rfl : k = xs.length := by omega
      have HD : Hid (decide (x ∈ xs) = false) := Lib.hid (by rw [decide_eq_false_iff_not]; intro h; exact hn.out x (by rw [List.take_length]; exact h) rfl)
      go_wp2
      go_ret
      exact ⟨by rw [HD.out]; rfl, rfl⟩

/-- just the same literals -/
def SameL (xs ys : List Int) : Prop := ∀ z, z ∈ xs ↔ z ∈ ys
theorem same_any07 (xs ys : List Int) (B B' : Nat) (A A' : Option Addr) (c c' : Nat) (w : World) (hx : xs.length ≤ 1099511627776) (hy : ys.length ≤ 1099511627776) (h : Ints w B A xs) (h' : Ints w B' A' ys) :
    Calls Try.prog 15 #[.slice A xs.length c, .slice A' ys.length c'] w fun e w' => ∃ s : Bool, e = .returned (.bool s) ∧ (s = true ↔ SameL xs ys) ∧ w = w' := by
  have H := Lib.hid h
  have H' := Lib.hid h'
  have HI := Lib.hid (fun x => in_any07 xs B A c x w hx h)
  have HI' := Lib.hid (fun x => in_any07 ys B' A' c' x w hy h')
  clear h h'
  go_enter Try.func15, Try.ntmps15
  go_wp2
  go_loopg [5] (xs.length + 1) (fun gk i wr => ∃ k : Nat, k ≤ xs.length ∧ gk = xs.length - k + 1 ∧ i = .int .i64 k ∧ w = wr ∧ Hid (∀ y, y ∈ xs.take k → y ∈ ys))
  case atStart => exact ⟨0, by omega, by omega, rfl, rfl, Lib.hid (by simp)⟩
  case round =>
    obtain ⟨k, hk, rfl, rfl, rfl, hn⟩ := hrel
    by_cases hlt : k < xs.length
    · obtain ⟨b, off, rfl, _, hc⟩ := Cells.at_ H.out hlt
      obtain ⟨htk, hm⟩ := take_snoc7 hlt
      obtain ⟨y, hy⟩ : ∃ y, y = xs.getD k 0 := ⟨_, rfl⟩
      rw [← hy] at hc htk hm
      have HTK := Lib.hid htk
      have HM := Lib.hid hm
      clear hy htk hm
      go_wp2_with fail
      refine (HI'.out y).mono ?_
      rintro e w1 ⟨rfl, rfl⟩
      by_cases he : y ∈ ys
      · have HE := Lib.hid he
        rw [decide_eq_true he]
        clear he
        go_wp2
        go_roundg (xs.length - k)
        case measure => omega
        case rel =>
          refine ⟨k + 1, by omega, by omega, by go_num, rfl, Lib.hid ?_⟩
          rw [HTK.out]
          intro z hz
          rcases List.mem_append.1 hz with hz | hz
          · exact hn.out z hz
          · rw [List.mem_singleton.1 hz]; exact HE.out
      · have HE := Lib.hid he
        rw [decide_eq_false he]
        clear he
        go_wp2
        go_ret
        exact ⟨false, rfl, ⟨fun h => (by cases h), fun h => absurd ((h y).1 HM.out) HE.out⟩, rfl⟩
    · obtain rfl : k = xs.length := by omega
      rw [List.take_length] at hn
      go_wp2
      go_loopg [6] (ys.length + 1) (fun gk i wr => ∃ k : Nat, k ≤ ys.length ∧ gk = ys.length - k + 1 ∧ i = .int .i64 k ∧ w = wr ∧ Hid (∀ y, y ∈ ys.take k → y ∈ xs))
      case atStart => exact ⟨0, by omega, by omega, rfl, rfl, Lib.hid (by simp)⟩
      case round =>
        obtain ⟨k, hk, rfl, rfl, rfl, hn2⟩ := hrel
        by_cases hlt2 : k < ys.length
        · obtain ⟨b, off, rfl, _, hc⟩ := Cells.at_ H'.out hlt2
          obtain ⟨htk, hm⟩ := take_snoc7 hlt2
          obtain ⟨y, hy⟩ : ∃ y, y = ys.getD k 0 := ⟨_, rfl⟩
          rw [← hy] at hc htk hm
          have HTK := Lib.hid htk
          have HM := Lib.hid hm
          clear hy htk hm
          go_wp2_with fail
          refine (HI.out y).mono ?_
          rintro e w1 ⟨rfl, rfl⟩
          by_cases he : y ∈ xs
          · have HE := Lib.hid he
            rw [decide_eq_true he]
            clear he
            go_wp2
            go_roundg (ys.length - k)
            case measure => omega
            case rel =>
              refine ⟨k + 1, by omega, by omega, by go_num, rfl, Lib.hid ?_⟩
              rw [HTK.out]
              intro z hz
              rcases List.mem_append.1 hz with hz | hz
              · exact hn2.out z hz
              · rw [List.mem_singleton.1 hz]; exact HE.out
          · have HE := Lib.hid he
            rw [decide_eq_false he]
            clear he
            go_wp2
            go_ret
            exact ⟨false, rfl, ⟨fun h => (by cases h), fun h => absurd ((h y).2 HM.out) HE.out⟩, rfl⟩
        · obtain rfl : k = ys.length := by omega
          rw [List.take_length] at hn2
          go_wp2
          go_ret
          exact ⟨true, rfl, ⟨fun _ z => ⟨hn.out z, hn2.out z⟩, fun _ => rfl⟩, rfl⟩
end Go.Proofs.Ytbejjddkndcldaa
