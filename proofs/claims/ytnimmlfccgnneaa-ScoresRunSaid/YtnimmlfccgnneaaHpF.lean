/- A heap's deeds: Take, Put, New. -/
import Derived.Test.YtnimmlfccgnneaaHpE
namespace Go.Proofs.Ytnimmlfccgnneaa
open Go.RowKit
set_option linter.unusedVariables false
set_option linter.unusedSimpArgs false

section
variable {w w' : World} {b : HB} {n : Nat} {s : SP}
set_option maxHeartbeats 2000000 in
theorem take_st (h : St16 w b n s) : Calls Try.prog 19 #[.pointer (some ⟨b.g, 0, none⟩)] w fun e w' => e = .returned (.tuple #[.int .i64 (s.first : Nat), .bool (decide (s.first ≠ 0))]) ∧ St16 w' b n s.take ∧ Ft b.foot w w' := by
  have HS := Lib.hid h
  have HG := Lib.hid h.good.take
  have HF := Lib.hid (first_st h)
  obtain ⟨pl, tr, h1, h2, h3, h4⟩ := h.ex
  by_cases h0 : tr.length = 0
  · have e : s.first = 0 := by unfold SP.first; rw [h1.ls]; exact first_none h0 h4
    have e2 : s.take = s := by unfold SP.take; rw [if_pos e]
    rw [e] at HF ⊢
    rw [e2]
    rw [show decide ((0 : Nat) ≠ 0) = false by decide] at HF ⊢
    clear h h1 h2 h3 h4 h0 e e2 HG
    go_enter Try.func19, Try.ntmps19
    go_wp2_with fail
    refine HF.out.mono ?_
    rintro e w1 ⟨rfl, rfl⟩
    go_wp2
    go_ret2
    exact ⟨rfl, HS.out, Ft.refl _⟩
  · have e : s.first = tr.getD 0 0 := by unfold SP.first; rw [h1.ls]; exact first_root h3 (by omega) h2.rng h4
    obtain ⟨l, hl⟩ : ∃ l, tr.length = l + 1 := ⟨tr.length - 1, by omega⟩
    have r0 := h2.rng 0 (by omega)
    obtain ⟨k, hk⟩ : ∃ k, tr.getD 0 0 = k + 1 := ⟨tr.getD 0 0 - 1, by omega⟩
    have hkn : k < n := by omega
    have hfew := h1.few
    have hltn := h1.lt
    rw [e, hk] at HF ⊢
    rw [show decide (k + 1 ≠ 0) = true by simp] at HF ⊢
    have HT : Hid (s.take = ⟨s.sc, s.inn.set k false, s.rise⟩) := Lib.hid (by unfold SP.take; rw [e, hk, if_neg (by omega), Nat.add_sub_cancel])
    have g2 := h1.g2
    rw [hl] at g2
    have H1 := Lib.hid h1
    have H2 := Lib.hid h2
    have H3 := Lib.hid h3
    have H4 := Lib.hid h4
    have HL := Lib.hid hl
    have HK := Lib.hid hk
    have HTL : Hid ((swp tr 0 l).length = l + 1) := Lib.hid (by rw [swp_len]; exact hl)
    have HTG : Hid ((swp tr 0 l).getD l 0 = k + 1) := Lib.hid (by rw [swp_get (by omega) (by omega), if_pos rfl]; exact hk)
    have HSI : Hid (SinkI s.sc ((swp tr 0 l).take l) 0 0) := Lib.hid (by
      refine ⟨Nat.le_refl _, fun j a0 a1 a2 a3 => ?_, fun c a0 a1 a2 a3 => by omega⟩
      rw [List.length_take, swp_len, hl] at a1
      have hj := h3 j a0 (by omega) (by omega)
      rw [getD_take_nat _ (by omega), getD_take_nat _ (by omega), swp_get (by omega) (by omega), swp_get (by omega) (by omega), if_neg (by omega), if_neg (by omega), if_neg (by omega), if_neg (by omega)]
      exact hj)
    have HKN := Lib.hid hkn
    have HLN : Hid (l + 1 ≤ n) := Lib.hid (by omega)
    have HLI : Hid (s.inn.length = n) := Lib.hid h.good.li
    have sl := fun (w : World) => run_front16 (P := Try.prog) Try.underlying32 w (sz16 w) b.T 0 (l + 1) n l (by omega)
    have hll : ((l + 1 : Nat) : Int) - 1 = (l : Int) := by omega
    have hkk : (k : Int) < (n : Int) := by omega
    have hwk : IntKind.i64.wrap (k : Int) = (k : Int) := i64_mid (by omega)
    have hwl : IntKind.i64.wrap (l : Int) = (l : Int) := i64_mid (by omega)
    clear h h1 h2 h3 h4 h0 e hl r0 hk hltn
    go_enter Try.func19, Try.ntmps19
    go_wp2_with fail
    refine HF.out.mono ?_
    rintro e w1 ⟨rfl, rfl⟩
    go_wp2_with fail
    refine (swap_hp H1.out H2.out.rng 0 l (by rw [HL.out]; omega) (by rw [HL.out]; omega)).mono ?_
    rintro e w1 ⟨rfl, k1, k2⟩
    have C1 := H2.out.swp (i := 0) (j := l) (by rw [HL.out]; omega) (by rw [HL.out]; omega)
    obtain ⟨pl1, hpl1⟩ : ∃ pl1, pl1 = (pl.set (tr.getD l 0 - 1) ((0 : Nat) : Int)).set (tr.getD 0 0 - 1) (l : Nat) := ⟨_, rfl⟩
    rw [← hpl1] at k1 C1
    have P1 := C1.pop HTL.out
    rw [HTG.out, Nat.add_sub_cancel] at P1
    have PM := fun v => pop_mem C1 HTL.out v
    rw [HTG.out] at PM
    have k3 := k1.popT (k := l) (by rw [HTL.out]; omega)
    have k4 := k3.setP k (-1)
    have F4 := (k2.set (q := b.g) (fun _ => .inl rfl) 2 (.slice (some ⟨b.T, 0, none⟩) l n)).set (q := b.P) (fun _ => .inr (.inr (.inl rfl))) k (.int .i64 (-1))
    have c1 := k1.g2
    rw [HTL.out] at c1
    have f1 := k1.hg.frozen 2
    have c3 := k3.g1
    have c4 := k3.cP HKN.out
    have f4 := k3.fP k
    have K4 := Lib.hid k4
    have KF := Lib.hid F4
    have KP := Lib.hid P1
    have KM := Lib.hid PM
    clear hpl1 k1 k2 k3 k4 F4 C1 P1 PM
    go_wp2_with fail
    refine (sink_hp K4.out KP.out 0 0 HSI.out (by omega)).mono ?_
    rintro e w5 ⟨rfl, pl5, tr5, j1, j2, j3, j4, j5⟩
    have J : Hid (St16 w5 b n s.take) := Lib.hid ⟨⟨pl5, tr5, by rw [HT.out]; exact j1, j2, by rw [HT.out]; exact j3, fun v a1 a2 => by
      rw [HT.out]
      show v ∈ tr5 ↔ (s.inn.set k false).getD (v - 1) false = true
      rw [j4.2 v, KM.out v, swp_mem (by rw [HL.out]; omega) (by rw [HL.out]; omega), H4.out v a1 a2, getD_set_bool, HLI.out]
      by_cases e : v - 1 = k
      · rw [if_pos ⟨e, HKN.out⟩]
        simp
        intro _
        omega
      · rw [if_neg (fun h => e h.1)]
        constructor
        · exact fun h => h.1
        · exact fun h => ⟨h, by omega⟩⟩, HG.out⟩
    have JF := Lib.hid (KF.out.trans j5 NewF.refl)
    clear j1 j2 j3 j4 j5
    go_wp2
    go_ret2
    exact ⟨rfl, J.out, JF.out⟩

set_option maxHeartbeats 2000000 in
theorem put_st (h : St16 w b n s) (v : Int) (h0 : -9223372036854775808 ≤ v ∧ v ≤ 9223372036854775807) : Calls Try.prog 20 #[.pointer (some ⟨b.g, 0, none⟩), .int .i64 v] w fun e w' => e = .returned (.bool (s.isV v && !s.isIn v)) ∧ St16 w' b n (s.put v) ∧ Ft b.foot w w' := by
  have HS := Lib.hid h
  have HG := Lib.hid (h.good.put v)
  have HIN := Lib.hid (in_st h v h0)
  obtain ⟨pl, tr, h1, h2, h3, h4⟩ := h.ex
  have HI := Lib.hid (isvar_hp h1 v h0)
  rw [isV_eq h1.ls] at HI
  rcases hv : s.isV v with _ | _
  · have e : s.put v = s := by unfold SP.put; rw [if_neg (by simp [hv])]
    rw [e]
    rw [hv] at HI
    rw [Bool.false_and]
    clear h h1 h2 h3 h4 hv e HG HIN
    go_enter Try.func20, Try.ntmps20
    go_wp2_with fail
    refine HI.out.mono ?_
    rintro e w1 ⟨rfl, rfl⟩
    go_wp2
    go_ret
    exact ⟨rfl, HS.out, Ft.refl _⟩
  · rw [hv] at HI
    rw [Bool.true_and]
    rcases hi : s.isIn v with _ | _
    · rw [hi] at HIN
      have hvi := SP.isV_iff.1 hv
      rw [h1.ls] at hvi
      obtain ⟨k, rfl⟩ : ∃ k : Nat, v = (k : Int) + 1 := ⟨v.toNat - 1, by omega⟩
      have hk : k < n := by omega
      have ek : ((k : Int) + 1).toNat - 1 = k := by omega
      have hin : s.inn.getD k false = false := by
        unfold SP.isIn at hi
        rw [hv, Bool.true_and, ek] at hi
        exact hi
      have hm : k + 1 ∉ tr := fun hm => by
        have := (h4 (k + 1) (by omega) (by omega)).1 hm
        rw [Nat.add_sub_cancel, hin] at this
        cases this
      have hlt : tr.length < n := by
        have hp := (h2.push (v := k + 1) (by omega) (by omega) hm).le
        rw [List.length_append, List.length_singleton] at hp
        omega
      have HPU : Hid (s.put ((k : Int) + 1) = ⟨s.sc, s.inn.set k true, s.rise⟩) := Lib.hid (by unfold SP.put; rw [if_pos hv, ek])
      have hf := h1.few
      have g2 := h1.g2
      have HP := h2.push (v := k + 1) (by omega) (by omega) hm
      rw [Nat.add_sub_cancel] at HP
      have HLI : LiftI s.sc (tr ++ [k + 1]) tr.length := by
        refine ⟨by simp, fun j a0 a1 a2 => ?_, fun c a0 a1 a2 a3 => ?_⟩
        · rw [List.length_append, List.length_singleton] at a1
          rw [getD_snoc, getD_snoc, if_neg (by omega), if_neg a2]
          exact h3 j a0 (by omega) (by omega)
        · rw [List.length_append, List.length_singleton] at a1
          omega
      have HPM : ∀ u, u ∈ tr ++ [k + 1] ↔ u ∈ tr ∨ u = k + 1 := fun u => by rw [List.mem_append, List.mem_singleton]
      have hpt := h1.pushT (k + 1) hlt
      obtain ⟨l, hl⟩ : ∃ l, l = tr.length := ⟨_, rfl⟩
      have hlb : l < n := by omega
      have HQ : Hid (∀ (o : Obj), HM (((w.alloc o).setCell ⟨b.T, l, none⟩ (.int .i64 (k + 1 : Nat))).setCell ⟨b.g, 2, none⟩ (.slice (some ⟨b.T, 0, none⟩) (l + 1) n)) b n s.sc pl (tr ++ [k + 1]) s.rise) := Lib.hid fun o => by
        rw [hl]
        exact (h1.alloc o).pushT (k + 1) hlt
      have HB : Hid (∀ o, HM (w.alloc o) b n s.sc pl tr s.rise) := Lib.hid fun o => h1.alloc o
      have HTC : Hid (∀ o, ((w.alloc o).cell? ⟨b.T, l, none⟩).isSome = true) := Lib.hid fun o => by
        obtain ⟨xs, x1, x2, _⟩ := (h1.alloc o).hT
        rw [x1.cell, natCells_get (by omega)]
        rfl
      have HT2 : Hid (∀ (w2 : World) pl2 tr2, HM w2 b n s.sc pl2 tr2 s.rise → Con n tr2 pl2 → Ord s.sc tr2 0 → Sm (tr ++ [k + 1]) tr2 → St16 w2 b n (s.put ((k : Int) + 1))) := Lib.hid fun w2 pl2 tr2 k1 k2 k3 k4 => ⟨⟨pl2, tr2, by rw [HPU.out]; exact k1, k2, by rw [HPU.out]; exact k3, fun u a1 a2 => by
        rw [HPU.out]
        show u ∈ tr2 ↔ (s.inn.set k true).getD (u - 1) false = true
        rw [k4.2 u, HPM u, h4 u a1 a2, getD_set_bool, h.good.li]
        by_cases e : u - 1 = k
        · rw [if_pos ⟨e, hk⟩]
          simp
          exact .inr (by omega)
        · rw [if_neg (fun h => e h.1)]
          constructor
          · rintro (h | h)
            · exact h
            · omega
          · exact fun h => .inl h⟩, HG.out⟩
      rw [← hl] at g2 HP HLI
      have hkk : (k : Int) < (n : Int) := by omega
      have hwk : IntKind.i64.wrap (k : Int) = (k : Int) := i64_mid (by omega)
      have HCP := Lib.hid HP
      have HCL := Lib.hid HLI
      have HK := Lib.hid hk
      obtain ⟨i0, hi0, hz0, hz1, hz2⟩ := info_parts infoI16
      have hA := h1.alloc (.cells #[.int .i64 ((k : Int) + 1)] 3)
      have q0 := hA.g2
      rw [← hl] at q0
      have q1 := (hA.hg.far (p := ⟨b.T, l, none⟩) hA.gT (.int .i64 ((k : Int) + 1))).cell 2
      simp at q1
      have q2 := (hA.hg.far (p := ⟨b.T, l, none⟩) hA.gT (.int .i64 ((k : Int) + 1))).frozen 2
      have hQ := HQ.out (.cells #[.int .i64 ((k : Int) + 1)] 3)
      simp only [Int.natCast_add, Int.cast_ofNat_Int] at hQ
      have q3 := hQ.g1
      have q4 := hQ.cP hk
      have q5 := hQ.fP k
      have hQ2 := Lib.hid (hQ.setP k (l : Nat))
      have HFT : Hid (Ft b.foot w (((w.alloc (.cells #[.int .i64 ((k : Int) + 1)] 3)).setCell ⟨b.T, l, none⟩ (.int .i64 ((k : Int) + 1))).setCell ⟨b.g, 2, none⟩ (.slice (some ⟨b.T, 0, none⟩) (l + 1) n) |>.setCell ⟨b.P, k, none⟩ (.int .i64 (l : Nat)))) := Lib.hid (((((Ft.refl w).trans (Ft.of_below (F := b.foot) ((Below.refl _ _).alloc (Nat.le_refl _) _)) NewF.refl).set (fun _ => .inr (.inr (.inr rfl))) l _).set (fun _ => .inl rfl) 2 _).set (fun _ => .inr (.inr (.inl rfl))) k _)
      have hl0 : (l : Int) + 1 = ((l + 1 : Nat) : Int) := by omega
      clear h h1 h2 h3 h4 hv hi hvi ek hin hm hlt HPU HPM hpt hl HP HLI HS HG hA hQ hl0
      go_enter Try.func20, Try.ntmps20
      go_wp2_with fail
      refine HI.out.mono ?_
      rintro e w1 ⟨rfl, rfl⟩
      go_wp2_with fail
      refine HIN.out.mono ?_
      rintro e w1 ⟨rfl, rfl⟩
      go_wp2_with (at_builtin; refine wpList_append_in _ rfl _ _ 32 rfl 3 i0 Try.underlying32 hi0 hz1 b.T l n rfl (.int .i64 ((k : Int) + 1)) w.heap.size rfl (by go_cell) rfl (by omega) (HTC.out _) ((HB.out _).fT _) ?_)
      refine (lift_hp hQ2.out HCP.out l HCL.out).mono ?_
      rintro e w5 ⟨rfl, pl5, tr5, j1, j2, j3, j4, j5⟩
      have J := Lib.hid (HT2.out w5 pl5 tr5 j1 j2 j3 j4)
      have JF := Lib.hid (HFT.out.trans j5 NewF.refl)
      clear j1 j2 j3 j4 j5
      go_wp2
      go_ret
      exact ⟨rfl, J.out, JF.out⟩
    · rw [hi] at HIN
      have e : s.put v = s := by
        have hg := h.good
        unfold SP.isIn at hi
        rw [hv, Bool.true_and] at hi
        unfold SP.put
        rw [if_pos hv]
        have : s.inn.set (v.toNat - 1) true = s.inn := by
          apply List.ext_getElem
          · simp
          · intro i a1 a2
            rw [List.getElem_set]
            split
            · rename_i hh
              subst hh
              simpa [List.getD, a2] using hi.symm
            · rfl
        rw [this]
      rw [e]
      clear h h1 h2 h3 h4 hv e HG hi
      go_enter Try.func20, Try.ntmps20
      go_wp2_with fail
      refine HI.out.mono ?_
      rintro e w1 ⟨rfl, rfl⟩
      go_wp2_with fail
      refine HIN.out.mono ?_
      rintro e w1 ⟨rfl, rfl⟩
      go_wp2
      go_ret
      exact ⟨rfl, HS.out, Ft.refl _⟩
end
end Go.Proofs.Ytnimmlfccgnneaa
