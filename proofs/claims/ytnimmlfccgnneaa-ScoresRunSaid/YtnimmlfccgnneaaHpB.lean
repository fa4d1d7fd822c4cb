/- A heap's inner deeds: who comes first of two, set, swap. -/
import Derived.Test.YtnimmlfccgnneaaHpA
namespace Go.Proofs.Ytnimmlfccgnneaa
open Go.RowKit
set_option linter.unusedVariables false
set_option linter.unusedSimpArgs false

section
variable {w w' : World} {b : HB} {n r : Nat} {sc tr : List Nat} {pl : List Int}
set_option maxHeartbeats 1000000 in
theorem ahead_hp (h : HM w b n sc pl tr r) (u v : Nat) (hu : 1 ≤ u ∧ u ≤ n) (hv : 1 ≤ v ∧ v ≤ n) : Calls Try.prog 28 #[.pointer (some ⟨b.g, 0, none⟩), .int .i64 (u : Nat), .int .i64 (v : Nat)] w fun e w' => e = .returned (.bool (ahB sc u v)) ∧ ∃ m, w' = w.drewN m := by
  obtain ⟨k, rfl⟩ : ∃ k, u = k + 1 := ⟨u - 1, by omega⟩
  obtain ⟨l, rfl⟩ : ∃ l, v = l + 1 := ⟨v - 1, by omega⟩
  have c0 := h.g0
  have cu := h.cS (i := k) (by omega)
  have cv := h.cS (i := l) (by omega)
  have hf := h.few
  have hk : (k : Int) < (n : Int) := by omega
  have hl : (l : Int) < (n : Int) := by omega
  have wk : IntKind.i64.wrap (k : Int) = (k : Int) := i64_mid (by omega)
  have wl : IntKind.i64.wrap (l : Int) = (l : Int) := i64_mid (by omega)
  have e1 : scV sc (k + 1) = sc.getD k 0 := by unfold scV; rw [Nat.add_sub_cancel]
  have e2 : scV sc (l + 1) = sc.getD l 0 := by unfold scV; rw [Nat.add_sub_cancel]
  unfold ahB
  rw [e1, e2]
  obtain ⟨x, hx⟩ : ∃ x : Nat, x = sc.getD k 0 := ⟨_, rfl⟩
  obtain ⟨y, hy⟩ : ∃ y : Nat, y = sc.getD l 0 := ⟨_, rfl⟩
  rw [← hx] at cu ⊢
  rw [← hy] at cv ⊢
  have s1 : ((k : Int) + 1 - 1) = (k : Int) := by omega
  have s2 : ((l : Int) + 1 - 1) = (l : Int) := by omega
  simp only [Int.natCast_add, Int.cast_ofNat_Int]
  clear h e1 e2 hx hy hu hv
  by_cases h1 : y < x
  · rw [show decide (y < x) = true by simp [h1]]
    have h1i : (y : Int) < (x : Int) := by omega
    clear h1
    go_enter Try.func28, Try.ntmps28
    go_wp2
    go_region
    go_wp2
    go_ret
    exact ⟨rfl, _, rfl⟩
  · rw [show decide (y < x) = false by simp [h1]]
    have h1i : ¬ (y : Int) < (x : Int) := by omega
    by_cases h2 : x = y
    · subst h2
      rw [show decide (x = x) = true by simp]
      have hd : decide (k + 1 < l + 1) = decide ((k : Int) + 1 < (l : Int) + 1) := by
        by_cases e : k < l
        · rw [decide_eq_true (by omega), decide_eq_true (by omega)]
        · rw [decide_eq_false (by omega), decide_eq_false (by omega)]
      rw [hd]
      clear h1 hd
      go_enter Try.func28, Try.ntmps28
      go_wp2
      go_region
      go_wp2
      go_ret
      exact ⟨by simp, _, rfl⟩
    · rw [show decide (x = y) = false by simp [h2]]
      have h2i : ((x : Int) == (y : Int)) = false := by simp; omega
      have H1 := Lib.hid h1
      clear h1 h2
      go_enter Try.func28, Try.ntmps28
      go_wp2
      go_region
      go_wp2
      go_ret
      exact ⟨by rw [show decide (y < x) = false by simp [H1.out]]; rfl, _, rfl⟩

set_option maxHeartbeats 1000000 in
theorem set_hp (h : HM w b n sc pl tr r) (i v : Nat) (hi : i < tr.length) (hv : 1 ≤ v ∧ v ≤ n) : Calls Try.prog 29 #[.pointer (some ⟨b.g, 0, none⟩), .int .i64 (i : Nat), .int .i64 (v : Nat)] w fun e w' => e = .returned (.tuple #[]) ∧ HM w' b n sc (pl.set (v - 1) (i : Nat)) (tr.set i v) r ∧ Ft b.foot w w' := by
  obtain ⟨k, rfl⟩ : ∃ k, v = k + 1 := ⟨v - 1, by omega⟩
  have hf := h.few
  have hlt := h.lt
  have h1 := h.setT i (k + 1)
  have F1 : Ft b.foot w (w.setCell ⟨b.T, i, none⟩ (.int .i64 (k + 1 : Nat))) := (Ft.refl w).set (fun _ => .inr (.inr (.inr rfl))) i _
  obtain ⟨w1, hw1⟩ : ∃ w1, w1 = w.setCell ⟨b.T, i, none⟩ (.int .i64 (k + 1 : Nat)) := ⟨_, rfl⟩
  have h2 := h1.setP k (i : Nat)
  have F2 := F1.set (q := b.P) (fun _ => .inr (.inr (.inl rfl))) k (.int .i64 (i : Nat))
  rw [Nat.add_sub_cancel]
  have H2 := Lib.hid h2
  have HF := Lib.hid F2
  have c2 := h.g2
  have ct := h.cT hi
  have ft := h.fT i
  have d1 := h1.g1
  have dp := h1.cP (i := k) (by omega)
  have fp := h1.fP k
  have hii : (i : Int) < (tr.length : Int) := by omega
  have hkk : (k : Int) < (n : Int) := by omega
  have wk : IntKind.i64.wrap (k : Int) = (k : Int) := i64_mid (by omega)
  have s1 : ((k : Int) + 1 - 1) = (k : Int) := by omega
  simp only [Int.natCast_add, Int.cast_ofNat_Int] at d1 dp fp H2 HF ⊢
  obtain ⟨l, hl⟩ : ∃ l, l = tr.length := ⟨_, rfl⟩
  rw [← hl] at c2 hii
  clear h h1 F1 h2 F2 hw1 w1 hi hv hlt hl
  go_enter Try.func29, Try.ntmps29
  go_wp2
  all_goals go_end0
  all_goals exact ⟨rfl, H2.out, HF.out⟩

set_option maxHeartbeats 1000000 in
theorem swap_hp (h : HM w b n sc pl tr r) (hr : ∀ i, i < tr.length → 1 ≤ tr.getD i 0 ∧ tr.getD i 0 ≤ n) (i j : Nat) (hi : i < tr.length) (hj : j < tr.length) : Calls Try.prog 26 #[.pointer (some ⟨b.g, 0, none⟩), .int .i64 (i : Nat), .int .i64 (j : Nat)] w fun e w' => e = .returned (.tuple #[]) ∧ HM w' b n sc ((pl.set (tr.getD j 0 - 1) (i : Nat)).set (tr.getD i 0 - 1) (j : Nat)) (swp tr i j) r ∧ Ft b.foot w w' := by
  have c2 := h.g2
  have ci := h.cT hi
  have cj := h.cT hj
  have ri := hr i hi
  have rj := hr j hj
  have hii : (i : Int) < (tr.length : Int) := by omega
  have hjj : (j : Int) < (tr.length : Int) := by omega
  unfold swp
  obtain ⟨x, hx⟩ : ∃ x, x = tr.getD i 0 := ⟨_, rfl⟩
  obtain ⟨y, hy⟩ : ∃ y, y = tr.getD j 0 := ⟨_, rfl⟩
  rw [← hx] at ci ri ⊢
  rw [← hy] at cj rj ⊢
  have H := Lib.hid h
  have HI := Lib.hid hi
  have HJ := Lib.hid hj
  obtain ⟨l, hl⟩ : ∃ l, l = tr.length := ⟨_, rfl⟩
  rw [← hl] at c2 hii hjj
  clear h hx hy hr hi hj hl
  go_enter Try.func26, Try.ntmps26
  go_wp2
  go_region
  go_wp2_with fail
  with_reducible refine (set_hp H.out.drew i y HI.out rj).mono ?_
  rintro e w1 ⟨rfl, h1, f1⟩
  have H1 := Lib.hid h1
  have F1 := Lib.hid f1
  clear h1 f1
  go_wp2_with fail
  with_reducible refine (set_hp H1.out j x (by rw [List.length_set]; exact HJ.out) ri).mono ?_
  rintro e w2 ⟨rfl, h2, f2⟩
  have H2 := Lib.hid h2
  have F2 := Lib.hid f2
  clear h2 f2
  go_wp2
  go_end0
  exact ⟨rfl, H2.out, ((Ft.refl _).drew.trans F1.out NewF.refl).trans F2.out NewF.refl⟩
end
end Go.Proofs.Ytnimmlfccgnneaa
