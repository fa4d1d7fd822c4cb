/- What a trail answers: whether a literal may be put there, places, levels, reasons, phases. -/
import Derived.Test.YtihljekdipengaaTrl1
namespace Go.Proofs.Ytihljekdipengaa
open Go.RowKit
set_option linter.unusedVariables false
set_option linter.unusedSimpArgs false

theorem quiet_add_of {P : Program} {f : FuncId} {args : Array Value} {w : World} {a n : Nat} {v : Value} (h : Calls P f args (w.drewN (a + n)) fun e w' => e = .returned v ∧ ∃ j, w' = (w.drewN (a + n)).drewN j) :
    Calls P f args (w.drewN (a + n)) fun e w'' => e = .returned v ∧ ∃ m, w'' = w.drewN (a + m) :=
  h.mono fun _ _ ⟨he, j, hj⟩ => ⟨he, n + j, by rw [hj, World.drewN_drewN, Nat.add_assoc]⟩
section
variable {w : World} {base g P : Nat} {t : TS}
theorem takes_any (h : Tr w base g P t) (l : Int) (h0 : -9223372036854775808 ≤ l ∧ l ≤ 9223372036854775807) : Calls Try.prog 27 #[.pointer (some ⟨g, 0, none⟩), .int .i64 l] w fun e w' => e = .returned (.bool (t.takes l)) ∧ ∃ m, w' = w.drewN m := by
  obtain ⟨V, S, A, D, c, d, h1, _⟩ := h.ex
  have c2 := h1.cell 2
  simp at c2
  have hf := h.good.few
  have hu : t.takes l = (litRight l t.ph.length && decide (valT t.recs l = 0)) := rfl
  rw [hu]
  have HR := Lib.hid (fun w => right_any l t.ph.length w h0.1 h0.2 (by omega) (by omega))
  have HV := Lib.hid (value_any h l h0)
  obtain ⟨r, hr⟩ : ∃ r, litRight l t.ph.length = r := ⟨_, rfl⟩
  obtain ⟨z, hz⟩ : ∃ z, valT t.recs l = z := ⟨_, rfl⟩
  obtain ⟨n, hn⟩ : ∃ n, t.ph.length = n := ⟨_, rfl⟩
  rw [hr] at HR ⊢
  rw [hz] at HV ⊢
  rw [hn] at HR c2
  clear h h1 hr hz hn hf hu
  cases r
  · go_enter Try.func27, Try.ntmps27
    go_wp2_with fail
    refine (HR.out _).mono ?_
    rintro e w1 ⟨rfl, rfl⟩
    go_wp2
    go_ret
    exact ⟨rfl, 0, rfl⟩
  · by_cases hz : z = 0
    · subst hz
      go_enter Try.func27, Try.ntmps27
      go_wp2_with fail
      refine (HR.out _).mono ?_
      rintro e w1 ⟨rfl, rfl⟩
      go_wp2_with fail
      refine HV.out.mono ?_
      rintro e w1 ⟨rfl, m, rfl⟩
      go_wp2
      go_ret
      exact ⟨rfl, m, rfl⟩
    · have hd : (z == 0) = false := by simpa using hz
      rw [show decide (z = 0) = false by simpa using hz]
      clear hz
      go_enter Try.func27, Try.ntmps27
      go_wp2_with fail
      refine (HR.out _).mono ?_
      rintro e w1 ⟨rfl, rfl⟩
      go_wp2_with fail
      refine HV.out.mono ?_
      rintro e w1 ⟨rfl, m, rfl⟩
      go_wp2
      go_ret
      exact ⟨rfl, m, rfl⟩

set_option maxHeartbeats 1000000 in
theorem place_any (h : Tr w base g P t) (l : Int) (h0 : -9223372036854775808 ≤ l ∧ l ≤ 9223372036854775807) : Calls Try.prog 24 #[.pointer (some ⟨g, 0, none⟩), .int .i64 l] w fun e w' => e = .returned (.int .i64 (placeT t.recs l)) ∧ ∃ m, w' = w.drewN m := by
  obtain ⟨V, S, A, D, c, d, h1, _, _, _, _, ⟨cp, h5, h6, h7⟩, _⟩ := h.ex
  have c3 := h1.cell 3
  simp at c3
  have hf := h.good.few
  have HV := Lib.hid (value_any h l h0)
  rcases hfd : find t.recs l with _ | ⟨i, r⟩
  · have hv : valT t.recs l = 0 := valT_none.2 hfd
    have ha : placeT t.recs l = -1 := by unfold placeT; rw [hfd]
    rw [ha]
    rw [hv] at HV
    clear h h1 hfd hv ha h7
    go_enter Try.func24, Try.ntmps24
    go_wp2_with fail
    refine HV.out.mono ?_
    rintro e w1 ⟨rfl, m, rfl⟩
    go_wp2
    go_ret
    exact ⟨rfl, m, rfl⟩
  · have hv : valT t.recs l ≠ 0 := fun e => by rw [valT_none.1 e] at hfd; cases hfd
    have ha : placeT t.recs l = (i : Nat) := by unfold placeT; rw [hfd]
    rw [ha]
    obtain ⟨hr, ho⟩ := find_some hfd
    rw [Rec.of_abs] at ho
    have hb := h.good.lit r (List.mem_of_getElem? hr)
    obtain ⟨k, hk⟩ : ∃ k : Nat, litVar l = (k : Int) + 1 := ⟨l.natAbs - 1, by unfold litVar; split <;> omega⟩
    have hk2 : r.l.natAbs - 1 = k := by unfold litVar at hk; split at hk <;> omega
    have hkn : k < t.ph.length := by omega
    obtain ⟨q0, q1, q2⟩ := h7 i r hr
    rw [hk2] at q0 q1 q2
    have s0 := (h5.cell _).trans q0
    have HL := Lib.hid (fun w => hk ▸ var_any l w (by omega) (by omega))
    have hd : (valT t.recs l == 0) = false := by simpa using hv
    obtain ⟨z, hz⟩ : ∃ z, valT t.recs l = z := ⟨_, rfl⟩
    obtain ⟨n, hn⟩ : ∃ n, t.ph.length = n := ⟨_, rfl⟩
    obtain ⟨x, hx⟩ : ∃ x : Int, (i : Nat) = x := ⟨_, rfl⟩
    rw [hz] at HV hd
    rw [hn] at c3 hkn
    rw [hx] at s0 ⊢
    have hkk : (k : Int) < (n : Int) := by omega
    have hwk : IntKind.i64.wrap (k : Int) = (k : Int) := i64_ok (by omega)
    clear h h1 hfd hv ha h7 q0 q1 q2 hr ho hb hk hk2 hz hn hx h6 h5 hkn
    go_enter Try.func24, Try.ntmps24
    go_wp2_with fail
    refine HV.out.mono ?_
    rintro e w1 ⟨rfl, m, rfl⟩
    go_wp2_with fail
    go_quiet ((go_at_call 33; first | with_reducible exact quiet_left (HL.out _) | with_reducible exact quiet_add_left (HL.out _) | exact quiet_left (HL.out _)))
    go_wp2
    go_ret
    exact ⟨rfl, drewN2 _ _ _⟩

set_option maxHeartbeats 1000000 in
theorem levelOf_any (h : Tr w base g P t) (l : Int) (h0 : -9223372036854775808 ≤ l ∧ l ≤ 9223372036854775807) : Calls Try.prog 21 #[.pointer (some ⟨g, 0, none⟩), .int .i64 l] w fun e w' => e = .returned (.int .i64 (levT t.recs l)) ∧ ∃ m, w' = w.drewN m := by
  obtain ⟨V, S, A, D, c, d, h1, _, _, _, _, ⟨cp, h5, h6, h7⟩, _⟩ := h.ex
  have c3 := h1.cell 3
  simp at c3
  have hf := h.good.few
  have HV := Lib.hid (value_any h l h0)
  rcases hfd : find t.recs l with _ | ⟨i, r⟩
  · have hv : valT t.recs l = 0 := valT_none.2 hfd
    have ha : levT t.recs l = -1 := by unfold levT; rw [hfd]
    rw [ha]
    rw [hv] at HV
    clear h h1 hfd hv ha h7
    go_enter Try.func21, Try.ntmps21
    go_wp2_with fail
    refine HV.out.mono ?_
    rintro e w1 ⟨rfl, m, rfl⟩
    go_wp2
    go_ret
    exact ⟨rfl, m, rfl⟩
  · have hv : valT t.recs l ≠ 0 := fun e => by rw [valT_none.1 e] at hfd; cases hfd
    have ha : levT t.recs l = (r.lev : Nat) := by unfold levT; rw [hfd]
    rw [ha]
    obtain ⟨hr, ho⟩ := find_some hfd
    rw [Rec.of_abs] at ho
    have hb := h.good.lit r (List.mem_of_getElem? hr)
    obtain ⟨k, hk⟩ : ∃ k : Nat, litVar l = (k : Int) + 1 := ⟨l.natAbs - 1, by unfold litVar; split <;> omega⟩
    have hk2 : r.l.natAbs - 1 = k := by unfold litVar at hk; split at hk <;> omega
    have hkn : k < t.ph.length := by omega
    obtain ⟨q0, q1, q2⟩ := h7 i r hr
    rw [hk2] at q0 q1 q2
    have s0 := (h5.cell _).trans q1
    have HL := Lib.hid (fun w => hk ▸ var_any l w (by omega) (by omega))
    have hd : (valT t.recs l == 0) = false := by simpa using hv
    obtain ⟨z, hz⟩ : ∃ z, valT t.recs l = z := ⟨_, rfl⟩
    obtain ⟨n, hn⟩ : ∃ n, t.ph.length = n := ⟨_, rfl⟩
    obtain ⟨x, hx⟩ : ∃ x : Int, (r.lev : Nat) = x := ⟨_, rfl⟩
    rw [hz] at HV hd
    rw [hn] at c3 hkn
    rw [hx] at s0 ⊢
    have hkk : (k : Int) < (n : Int) := by omega
    have hwk : IntKind.i64.wrap (k : Int) = (k : Int) := i64_ok (by omega)
    clear h h1 hfd hv ha h7 q0 q1 q2 hr ho hb hk hk2 hz hn hx h6 h5 hkn
    go_enter Try.func21, Try.ntmps21
    go_wp2_with fail
    refine HV.out.mono ?_
    rintro e w1 ⟨rfl, m, rfl⟩
    go_wp2_with fail
    go_quiet ((go_at_call 33; first | with_reducible exact quiet_left (HL.out _) | with_reducible exact quiet_add_left (HL.out _) | exact quiet_left (HL.out _)))
    go_wp2
    go_ret
    exact ⟨rfl, drewN2 _ _ _⟩

set_option maxHeartbeats 1000000 in
theorem reason_any (h : Tr w base g P t) (l : Int) (h0 : -9223372036854775808 ≤ l ∧ l ≤ 9223372036854775807) : Calls Try.prog 26 #[.pointer (some ⟨g, 0, none⟩), .int .i64 l] w fun e w' => e = .returned (.int .i64 (whyT t.recs l)) ∧ ∃ m, w' = w.drewN m := by
  obtain ⟨V, S, A, D, c, d, h1, _, _, _, _, ⟨cp, h5, h6, h7⟩, _⟩ := h.ex
  have c3 := h1.cell 3
  simp at c3
  have hf := h.good.few
  have HV := Lib.hid (value_any h l h0)
  rcases hfd : find t.recs l with _ | ⟨i, r⟩
  · have hv : valT t.recs l = 0 := valT_none.2 hfd
    have ha : whyT t.recs l = -1 := by unfold whyT; rw [hfd]
    rw [ha]
    rw [hv] at HV
    clear h h1 hfd hv ha h7
    go_enter Try.func26, Try.ntmps26
    go_wp2_with fail
    refine HV.out.mono ?_
    rintro e w1 ⟨rfl, m, rfl⟩
    go_wp2
    go_ret
    exact ⟨rfl, m, rfl⟩
  · have hv : valT t.recs l ≠ 0 := fun e => by rw [valT_none.1 e] at hfd; cases hfd
    have ha : whyT t.recs l = r.rs := by unfold whyT; rw [hfd]
    rw [ha]
    obtain ⟨hr, ho⟩ := find_some hfd
    rw [Rec.of_abs] at ho
    have hb := h.good.lit r (List.mem_of_getElem? hr)
    obtain ⟨k, hk⟩ : ∃ k : Nat, litVar l = (k : Int) + 1 := ⟨l.natAbs - 1, by unfold litVar; split <;> omega⟩
    have hk2 : r.l.natAbs - 1 = k := by unfold litVar at hk; split at hk <;> omega
    have hkn : k < t.ph.length := by omega
    obtain ⟨q0, q1, q2⟩ := h7 i r hr
    rw [hk2] at q0 q1 q2
    have s0 := (h5.cell _).trans q2
    have HL := Lib.hid (fun w => hk ▸ var_any l w (by omega) (by omega))
    have hd : (valT t.recs l == 0) = false := by simpa using hv
    obtain ⟨z, hz⟩ : ∃ z, valT t.recs l = z := ⟨_, rfl⟩
    obtain ⟨n, hn⟩ : ∃ n, t.ph.length = n := ⟨_, rfl⟩
    obtain ⟨x, hx⟩ : ∃ x : Int, r.rs = x := ⟨_, rfl⟩
    rw [hz] at HV hd
    rw [hn] at c3 hkn
    rw [hx] at s0 ⊢
    have hkk : (k : Int) < (n : Int) := by omega
    have hwk : IntKind.i64.wrap (k : Int) = (k : Int) := i64_ok (by omega)
    clear h h1 hfd hv ha h7 q0 q1 q2 hr ho hb hk hk2 hz hn hx h6 h5 hkn
    go_enter Try.func26, Try.ntmps26
    go_wp2_with fail
    refine HV.out.mono ?_
    rintro e w1 ⟨rfl, m, rfl⟩
    go_wp2_with fail
    go_quiet ((go_at_call 33; first | with_reducible exact quiet_left (HL.out _) | with_reducible exact quiet_add_left (HL.out _) | exact quiet_left (HL.out _)))
    go_wp2
    go_ret
    exact ⟨rfl, drewN2 _ _ _⟩

theorem isvar_any (h : Tr w base g P t) (v : Int) : Calls Try.prog 34 #[.pointer (some ⟨g, 0, none⟩), .int .i64 v] w fun e w' => e = .returned (.bool (t.isVar v)) ∧ w = w' := by
  obtain ⟨V, S, A, D, c, d, h1, _⟩ := h.ex
  have c4 := h1.cell 4
  simp at c4
  have hu : t.isVar v = decide (1 ≤ v ∧ v ≤ t.ph.length) := rfl
  rw [hu]
  obtain ⟨n, hn⟩ : ∃ n, t.ph.length = n := ⟨_, rfl⟩
  rw [hn] at c4 ⊢
  clear h h1 hu hn
  by_cases h1 : 0 < v
  · by_cases h2 : v ≤ n
    · rw [show decide (1 ≤ v ∧ v ≤ (n : Int)) = true by simp; omega]
      go_enter Try.func34, Try.ntmps34
      go_wp2
      go_ret
      exact ⟨by simp <;> omega, rfl⟩
    · rw [show decide (1 ≤ v ∧ v ≤ (n : Int)) = false by simp; omega]
      go_enter Try.func34, Try.ntmps34
      go_wp2
      go_ret
      exact ⟨by simp <;> omega, rfl⟩
  · rw [show decide (1 ≤ v ∧ v ≤ (n : Int)) = false by simp; omega]
    go_enter Try.func34, Try.ntmps34
    go_wp2
    go_ret
    exact ⟨by simp <;> omega, rfl⟩

theorem phase_any (h : Tr w base g P t) (v : Int) : Calls Try.prog 23 #[.pointer (some ⟨g, 0, none⟩), .int .i64 v] w fun e w' => e = .returned (.bool (phT t.ph v)) ∧ ∃ m, w' = w.drewN m := by
  obtain ⟨V, S, A, D, c, d, h1, _⟩ := h.ex
  have c4 := h1.cell 4
  simp at c4
  have HI := Lib.hid (isvar_any h v)
  have hf := h.good.few
  by_cases hv : 1 ≤ v ∧ v ≤ t.ph.length
  · obtain ⟨k, rfl⟩ : ∃ k : Nat, v = (k : Int) + 1 := ⟨v.toNat - 1, by omega⟩
    have hk : k < t.ph.length := by omega
    have cp := h.phs.cell hk
    have ha : phT t.ph ((k : Int) + 1) = t.ph.getD k false := by
      unfold phT
      rw [show ((k : Int) + 1).toNat - 1 = k by omega]
      simp; omega
    rw [show t.isVar ((k : Int) + 1) = true from TS.isVar_iff.2 hv] at HI
    rw [ha]
    obtain ⟨z, hz⟩ : ∃ z, t.ph.getD k false = z := ⟨_, rfl⟩
    rw [hz] at cp ⊢
    obtain ⟨n, hn⟩ : ∃ n, t.ph.length = n := ⟨_, rfl⟩
    rw [hn] at c4 hk
    have hkk : (k : Int) < (n : Int) := by omega
    have hwk : IntKind.i64.wrap (k : Int) = (k : Int) := i64_ok (by omega)
    clear h h1 hv ha hz hn hk
    go_enter Try.func23, Try.ntmps23
    go_wp2_with fail
    refine HI.out.mono ?_
    rintro e w1 ⟨rfl, rfl⟩
    go_wp2
    go_ret
    exact ⟨rfl, 0, rfl⟩
  · have hi : t.isVar v = false := by rw [Bool.eq_false_iff]; exact fun e => hv (TS.isVar_iff.1 e)
    rw [hi] at HI
    have ha : phT t.ph v = false := by
      unfold phT
      by_cases h1 : 1 ≤ v
      · rw [List.getD_eq_getElem?_getD, List.getElem?_eq_none (by omega)]; simp
      · simp [h1]
    rw [ha]
    clear h h1 hv ha hi
    go_enter Try.func23, Try.ntmps23
    go_wp2_with fail
    refine HI.out.mono ?_
    rintro e w1 ⟨rfl, rfl⟩
    go_wp2
    go_ret
    exact ⟨rfl, 0, rfl⟩
end
end Go.Proofs.Ytihljekdipengaa
