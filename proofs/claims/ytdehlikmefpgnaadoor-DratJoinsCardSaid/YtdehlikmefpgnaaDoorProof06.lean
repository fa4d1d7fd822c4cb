/- A proof out of steps of raw numbers, where there aren't too many. -/
import Derived.Test.YtdehlikmefpgnaaDoorTexts06
import Derived.Test.YtdehlikmefpgnaaDoorBits
import Derived.StillTailTactics
namespace Go.Proofs.YtdehlikmefpgnaaDoor
open Go.RowKit
set_option linter.unusedSimpArgs false
set_option linter.unusedVariables false
set_option linter.unnecessarySimpa false

/-- how much there is of it -/
def weight : List Stp → Nat
  | [] => 0
  | s :: r => 1 + s.2.length + weight r
theorem weight_append : ∀ (xs ys : List Stp), weight (xs ++ ys) = weight xs + weight ys
  | [], ys => by simp [weight]
  | s :: r, ys => by rw [List.cons_append, weight, weight, weight_append r ys]; omega
theorem weight_take {xs : List Stp} {k : Nat} (hk : k < xs.length) : weight (xs.take (k + 1)) = weight (xs.take k) + (1 + (xs.getD k stp0).2.length) := by
  rw [List.take_succ_eq_append_getElem hk, weight_append]; simp [weight, List.getD, hk]
theorem weight_take_le (xs : List Stp) (k : Nat) : weight (xs.take k) ≤ weight xs := by
  conv => rhs; rw [← List.take_append_drop k xs, weight_append]
  omega
theorem weight_len (xs : List Stp) : xs.length ≤ weight xs := by
  induction xs with
  | nil => simp
  | cons s r ih => rw [List.length_cons, weight]; omega
theorem weight_each {xs : List Stp} (j : Nat) : (xs.getD j stp0).2.length ≤ weight xs := by
  by_cases hj : j < xs.length
  · have h1 := weight_take hj
    have h2 := weight_take_le xs (j + 1)
    omega
  · rw [show xs.getD j stp0 = stp0 by rw [List.getD, List.getElem?_eq_none (by omega)]; rfl]; exact Nat.zero_le _
theorem txt_weight : ∀ {ps : List Stp}, stpsRight ps = true → (txtOf ps).length ≤ 8 * weight ps
  | [], _ => by simp [txtOf]
  | (d, ls) :: r, h => by
    rw [stpsRight_cons, Bool.and_eq_true] at h
    have ih := txt_weight (ps := r) h.2
    have hw : (wrds ls).length ≤ 8 * ls.length := by
      have hm := stpRight_mem h.1
      simp only at hm
      clear h ih
      induction ls with
      | nil => simp [wrds]
      | cons l ls ihl =>
        have h1 := isLit_iff.1 (hm l (by simp))
        have h2 := itoa_len6 h1.2.1 h1.2.2
        have h3 := ihl (fun x hx => hm x (by simp [hx]))
        rw [wrds_cons]
        simp
        omega
    have hd : (delTxt d).length ≤ 2 := by cases d <;> decide
    rw [txtOf_cons, weight]
    unfold stpLine
    simp
    omega
theorem bin_weight : ∀ {ps : List Stp}, stpsRight ps = true → (binOf ps).length ≤ 3 * weight ps
  | [], _ => by simp [binOf]
  | (d, ls) :: r, h => by
    rw [stpsRight_cons, Bool.and_eq_true] at h
    have ih := bin_weight (ps := r) h.2
    have hw : (lbs ls).length ≤ 3 * ls.length := by
      have hm := stpRight_mem h.1
      simp only at hm
      clear h ih
      induction ls with
      | nil => simp [lbs]
      | cons l ls ihl =>
        have h1 := litNum_pos (hm l (by simp))
        have h2 := nb_len (n := (litNum l).toNat) (by omega)
        have h3 := ihl (fun x hx => hm x (by simp [hx]))
        rw [lbs_cons]
        unfold lb
        simp
        omega
    rw [binOf_cons, weight]
    unfold stpBin
    simp
    omega

/-- a literal out of any number -/
def litOf (n : Int) : Int := if n % 2 = 1 then -(1 + n / 2 % 1048576 % 100000) else 1 + n / 2 % 1048576 % 100000
theorem litOf_lit (n : Int) : isLit (litOf n) = true := by
  rw [isLit_iff]; unfold litOf; split <;> omega
theorem litOf_any (n : Int) (w : World) (h1 : -9223372036854775808 ≤ n) (h2 : n ≤ 9223372036854775807) :
    Calls Tryd.prog 23 #[.int .i64 n] w fun e w' => e = .returned (.int .i64 (litOf n)) ∧ w' = w := by
  have b1 := i64_and_1 n
  have b2 := i64_and_1048575 (n / 2)
  by_cases h : n % 2 = 1
  · have h' : (n % 2 == 1) = true := by simpa using h
    have hv : litOf n = -(1 + n / 2 % 1048576 % 100000) := by unfold litOf; rw [if_pos h]
    rw [hv]
    clear h hv
    go_enter Tryd.func23, Tryd.ntmps23
    go_wp2
    go_ret
    exact ⟨by go_unwrap; rfl, rfl⟩
  · have h' : (n % 2 == 1) = false := by simpa using h
    have hv : litOf n = 1 + n / 2 % 1048576 % 100000 := by unfold litOf; rw [if_neg h]
    rw [hv]
    clear h hv
    go_enter Tryd.func23, Tryd.ntmps23
    go_wp2
    go_ret
    exact ⟨by go_unwrap; rfl, rfl⟩

set_option maxRecDepth 100000 in
set_option maxHeartbeats 4000000 in
theorem small6_any (xs : List Stp) (B c : Nat) (A : Option Addr) (w : World) (h : KSteps .i32 w B A xs) (hB : B ≤ w.heap.size) (hl : xs.length ≤ 140737488355328) (hx : ∀ j, (xs.getD j stp0).2.length ≤ 140737488355328) :
    Calls Tryd.prog 11 #[.slice A xs.length c] w fun e w' => ∃ q : Bool, e = .returned (.bool q) ∧ (q = true → weight xs ≤ 400) ∧ Below w.heap.size w w' := by
  have H := Lib.hid h
  have HX := Lib.hid hx
  clear h hx
  go_enter Tryd.func11, Tryd.ntmps11
  go_wp2
  go_loopg [3, 8] (xs.length + 1) (fun gk n i wr => ∃ k N : Nat, k ≤ xs.length ∧ gk = xs.length - k + 1 ∧ i = .int .i64 k ∧ n = .int .i64 N ∧ N ≤ 400 ∧ weight (xs.take k) = N ∧ Below w.heap.size w wr)
  case atStart => exact ⟨0, 0, by omega, by omega, rfl, rfl, by omega, rfl, Below.refl _ _⟩
  case round =>
    obtain ⟨k, N, hk, rfl, rfl, rfl, hN, hw, hb⟩ := hrel
    obtain ⟨wo, rfl⟩ : ∃ wo : World, wo = wr := ⟨_, rfl⟩
    have HBk := Lib.hid hb
    have HW := Lib.hid hw
    have hso := hb.size
    clear hb hw
    by_cases hlt : k < xs.length
    · obtain ⟨b, off, Ak, ck, rfl, hbB, hd, hcell, hint⟩ := (H.out.below (HBk.out.mono hB)).at_ hlt
      have hxk := HX.out k
      have hwt := weight_take hlt
      obtain ⟨⟨d, ls⟩, hs⟩ : ∃ s, s = xs.getD k stp0 := ⟨_, rfl⟩
      rw [← hs] at hd hcell hxk hwt
      clear hs hint
      simp only at hd hcell hxk hwt
      rw [HW.out] at hwt
      have HWT := Lib.hid hwt
      have HB2 := Lib.hid (HBk.out.alloc (by omega) (.cells #[.bool d, .slice Ak ls.length ck] 48))
      clear hwt
      by_cases hbig : 400 < N + (1 + ls.length)
      · go_wp2
        go_ret
        exact ⟨false, rfl, fun h => (by cases h), HB2.out⟩
      · go_wp2
        go_roundg (xs.length - k)
        case measure => omega
        case rel => exact ⟨k + 1, N + (1 + ls.length), by omega, by omega, by go_num, by go_num, by omega, HWT.out, HB2.out⟩
    · have htk : xs.take k = xs := List.take_of_length_le (by omega)
      have HTK := Lib.hid htk
      clear htk
      go_wp2
      go_ret
      exact ⟨true, rfl, fun _ => (by have := HW.out; rw [HTK.out] at this; omega), HBk.out⟩
end Go.Proofs.YtdehlikmefpgnaaDoor
