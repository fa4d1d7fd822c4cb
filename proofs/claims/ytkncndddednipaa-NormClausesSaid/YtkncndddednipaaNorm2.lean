/- What the search by halves answers in a clause in normal form; a literal and its negation. -/
import Derived.Test.YtkncndddednipaaNorm
namespace Go.Proofs.Ytkncndddednipaa
open Go.RowKit

theorem bs_spec {ys : List Int} {t : Int} {i : Nat} (hr : Rising ys) (hi : i ≤ ys.length) (h1 : ∀ k, k < i → litIndex (ys.getD k 0) < litIndex t) (h2 : ∀ k, i ≤ k → k < ys.length → litIndex t ≤ litIndex (ys.getD k 0)) :
    ys.contains t = decide (i < ys.length ∧ ys.getD i 0 = t) := by
  rw [Bool.eq_iff_iff, decide_eq_true_iff, List.contains_iff_mem]
  have get : ∀ k (hk : k < ys.length), ys.getD k 0 = ys[k] := fun k hk => by simp [List.getD, hk]
  constructor
  · intro hm
    obtain ⟨p, hp, e⟩ := List.getElem_of_mem hm
    have hpi : i ≤ p := by
      rcases Nat.lt_or_ge p i with h | h
      · have := h1 p h; rw [get p hp, e] at this; omega
      · exact h
    have : p = i := by
      rcases Nat.lt_or_ge i p with h | h
      · have a := List.pairwise_iff_getElem.1 hr i p (by omega) hp h
        have b := h2 i (Nat.le_refl _) (by omega)
        rw [get i (by omega)] at b
        rw [e] at a
        omega
      · omega
    subst this
    exact ⟨hp, by rw [get p hp, e]⟩
  · rintro ⟨hlt, e⟩
    rw [get i hlt] at e
    rw [← e]
    exact List.getElem_mem hlt

set_option maxRecDepth 100000 in
theorem bsearch_any (ys : List Int) (t : Int) (B : Nat) (A : Option Addr) (c : Nat) (w : World) (hy : Lits ys) (ht1 : -1000000 ≤ t) (ht2 : t ≤ 1000000) (hr : Rising ys) (h : Ints w B A ys) :
    Calls Try.prog 37 #[.slice A ys.length c, .int .i64 t, .func (.func 23) #[] #[]] w fun e w' => (∃ i, e = .returned (.tuple #[.int .i64 i, .bool (ys.contains t)])) ∧ w' = w := by
  have H := Lib.hid h
  have HY := Lib.hid hy
  have HR := Lib.hid hr
  have hlen := hy.1
  clear h hy hr
  go_enter Try.func37, Try.ntmps37
  go_wp2
  go_loopw [9, 10] (fun a b wr => ∃ i j : Nat, w = wr ∧ a = .int .i64 i ∧ b = .int .i64 j ∧ i ≤ j ∧ j ≤ ys.length ∧ Hid (∀ k, k < i → litIndex (ys.getD k 0) < litIndex t) ∧ Hid (∀ k, j ≤ k → k < ys.length → litIndex t ≤ litIndex (ys.getD k 0))) (fun a b _ => (intOf b - intOf a).toNat)
  case atStart => exact ⟨0, ys.length, rfl, rfl, rfl, Nat.zero_le _, Nat.le_refl _, Lib.hid (fun k hk => by omega), Lib.hid (fun k h1 h2 => by omega)⟩
  case round =>
    obtain ⟨i, j, rfl, rfl, rfl, hij, hj, H1, H2⟩ := hrel
    by_cases hlt : i < j
    · obtain ⟨m, hm⟩ : ∃ m : Nat, m = (i + j) / 2 := ⟨_, rfl⟩
      have hmi : ((i : Int) + (j : Int)) / 2 = (m : Int) := by omega
      have hm1 : i ≤ m := by omega
      have hm2 : m < j := by omega
      clear hm
      obtain ⟨b, off, rfl, _, hcell⟩ := H.out.at_ (show m < ys.length by omega)
      obtain ⟨y1, y2⟩ := HY.out.getD m
      have HM : Hid (∀ k k', k ≤ k' → k' < ys.length → litIndex (ys.getD k 0) ≤ litIndex (ys.getD k' 0)) := Lib.hid fun k k' hk hk' => by
        rcases Nat.lt_or_ge k k' with h | h
        · have := List.pairwise_iff_getElem.1 HR.out k k' (by omega) hk' h
          simp only [List.getD, List.getElem?_eq_getElem (show k < ys.length by omega), List.getElem?_eq_getElem hk', Option.getD_some]
          omega
        · rw [show k = k' by omega]; exact Int.le_refl _
      obtain ⟨y, hy⟩ : ∃ y, y = ys.getD m 0 := ⟨_, rfl⟩
      have HYM := Lib.hid hy
      rw [← hy] at hcell y1 y2
      clear hy
      by_cases hc : litIndex y < litIndex t
      · have hcc : cmpInt (litIndex y) (litIndex t) = -1 := by unfold cmpInt; rw [if_pos hc]
        have HC := Lib.hid hc
        clear hc
        go_wp2_with (go_at_call 23; refine (compare_any _ _ _ (by omega) (by omega) (by omega) (by omega)).mono ?_; rintro e w' ⟨rfl, rfl⟩; rw [hcc])
        go_roundw
        case rel =>
          refine ⟨m + 1, j, (by trivial), by go_num, rfl, by omega, hj, Lib.hid fun k hk => ?_, H2⟩
          have := HM.out k m (by omega) (by omega)
          rw [← HYM.out] at this
          have := HC.out
          omega
        case measure => simp [intOf]; omega
      · have hcc : cmpInt (litIndex y) (litIndex t) = 0 ∨ cmpInt (litIndex y) (litIndex t) = 1 := by unfold cmpInt; rw [if_neg hc]; split <;> simp
        have HC := Lib.hid hc
        clear hc
        rcases hcc with hcc | hcc
        all_goals
          go_wp2_with (go_at_call 23; refine (compare_any _ _ _ (by omega) (by omega) (by omega) (by omega)).mono ?_; rintro e w' ⟨rfl, rfl⟩; rw [hcc])
          go_roundw
          case rel =>
            refine ⟨i, m, (by trivial), rfl, rfl, by omega, by omega, H1, Lib.hid fun k hk hk2 => ?_⟩
            have := HM.out m k hk hk2
            rw [← HYM.out] at this
            have := HC.out
            omega
          case measure => simp [intOf]; omega
    · obtain rfl : i = j := by omega
      have hsp := bs_spec HR.out hj H1.out H2.out
      clear H1 H2
      have HS := Lib.hid hsp
      clear hsp
      by_cases hin : i < ys.length
      · obtain ⟨b, off, rfl, _, hcell⟩ := H.out.at_ hin
        obtain ⟨y1, y2⟩ := HY.out.getD i
        have hs2 : ys.contains t = decide (ys.getD i 0 = t) := by rw [HS.out]; simp [hin]
        obtain ⟨y, hy⟩ : ∃ y, y = ys.getD i 0 := ⟨_, rfl⟩
        rw [← hy] at hcell y1 y2 hs2
        clear hy
        have hcc : (cmpInt (litIndex y) (litIndex t) == 0) = decide (y = t) := by
          rw [Bool.eq_iff_iff]
          simp only [beq_iff_eq, decide_eq_true_iff]
          unfold cmpInt
          constructor
          · intro h
            apply litIndex_inj
            split at h
            · omega
            · split at h
              · omega
              · omega
          · rintro rfl; simp
        rw [← hcc] at hs2
        obtain ⟨r, hrr⟩ : ∃ r, r = cmpInt (litIndex y) (litIndex t) := ⟨_, rfl⟩
        rw [← hrr] at hs2
        have HRR := Lib.hid hrr
        have HS2 := Lib.hid hs2
        clear hrr hs2 hcc
        go_wp2_with (go_at_call 23; refine (compare_any _ _ _ (by omega) (by omega) (by omega) (by omega)).mono ?_; rintro e w' ⟨rfl, rfl⟩; rw [← HRR.out])
        go_ret2
        exact ⟨⟨i, by rw [HS2.out]; rfl⟩, rfl⟩
      · have hs2 : ys.contains t = false := by rw [HS.out]; simp; omega
        have HS2 := Lib.hid hs2
        clear hs2
        go_wp2
        go_ret2
        exact ⟨⟨i, by rw [HS2.out]; rfl⟩, rfl⟩
end Go.Proofs.Ytkncndddednipaa
