/- A heap's deeds: Bump, Take, Put, New. -/
import Derived.Test.YtnimmlfccgnneaaHpD
import Derived.ArgAppend
import Derived.Deep.RegionHeld3
namespace Go.Proofs.Ytnimmlfccgnneaa
open Go.RowKit
set_option linter.unusedVariables false
set_option linter.unusedSimpArgs false

/-- append of one value where there is room -/
theorem wpList_append_in {P : Program} (w : World) {ops : Array Oper} {rest : List Oper} {o : Oper} {a : Act} {Q : Exit → Act → World → Prop} (hgd : o.guard = none) (s x : Operand) (t : TypeId)
    (ho : o.op = .call { callee := .builtin .append, args := #[s, x], argTypes := #[t, t] })
    (e : TypeId) (i : TypeInfo) (ht : P.underlying t = some (.slice e)) (hi : P.info? e = some i) (hsize : i.size = 1)
    (T n cap : Nat) (hs : a.eval s = .slice (some ⟨T, 0, none⟩) n cap)
    (u : Value) (g : Nat) (hx : a.eval x = .slice (some ⟨g, 0, none⟩) 1 1) (hc : w.cell? ⟨g, 0, none⟩ = some u) (h1 : u.oneCell' = true)
    (hroom : n + 1 ≤ cap) (hcell : (w.cell? ⟨T, n, none⟩).isSome = true) (hfz : w.frozen? ⟨T, n, none⟩ = false)
    (h : ∀ w', w' = w.setCell ⟨T, n, none⟩ u → wpList P ops Q rest (a.put o.dst (.slice (some ⟨T, 0, none⟩) (n + 1) cap)) w') : wpList P ops Q (o :: rest) a w := by
  have hrun := run_append_room_cells (P := P) w t o.type e i ht hi T 0 n cap ⟨g, 0, none⟩ 1 1 [u] (by simp [hsize])
    (by intro j u' hu; match j, hu with | 0, hu => simp at hu; subst hu; simpa [Addr.add] using hc) (by intro u' hu; simp at hu; subst hu; exact h1) hroom
    (by intro j hj; simp at hj; subst hj; simpa [hsize] using hcell) (by intro j hj; simp at hj; subst hj; simpa [hsize] using hfz)
  refine wpList_plain hgd fun _ hK => ?_
  unfold Oper.wp execOp
  simp only [ho, resolve, invoke, builtin, Sem.run_bind, Sem.run_pure, Result.andThen_ok, List.map_toArray, List.map_cons, List.map_nil, hs, hx, hrun]
  refine hK _ _ (h _ ?_)
  simp [hsize, World.setCells]

theorem infoI16 : (Try.prog.info? 3).map (fun i => (i.zero, i.size, i.bytes)) = some (some (.int .i64 0), 1, 8) := by kernel_rfl
theorem sz16 (w : World) : (sizeOf 3).run Try.prog w = .ok 1 w := by
  have h := infoI16
  rcases hi : Try.prog.info? 3 with _ | i
  · rw [hi] at h; simp at h
  · rw [hi] at h
    simp at h
    simp [sizeOf, typeInfo, hi, h.2.1]
theorem run_front16 {P : Program} {t e : TypeId} (ht : P.underlying t = some (.slice e)) (w : World) (hz : (sizeOf e).run P w = .ok 1 w) (b off n c k : Nat) (hk : k ≤ c) : (Instr.slice t (.slice (some ⟨b, off, none⟩) n c) none (some (.int .i64 k)) none).run P w = .ok (.slice (some ⟨b, off, none⟩) k c) w := by
  have h1 : (0 : Int) ≤ (k : Int) := Int.natCast_nonneg _
  have h2 : (k : Int) ≤ (c : Int) := by omega
  simp [Instr.slice, run_underlying ht, Instr.sliceBounds, go_sem, h1, h2, hz, Result.andThen]

section
variable {w w' : World} {b : HB} {n : Nat} {s : SP}
set_option maxHeartbeats 2000000 in
theorem bump_st (h : St16 w b n s) (v : Int) (h0 : -9223372036854775808 ≤ v ∧ v ≤ 9223372036854775807) : Calls Try.prog 17 #[.pointer (some ⟨b.g, 0, none⟩), .int .i64 v] w fun e w' => e = .returned (.bool (s.isV v)) ∧ St16 w' b n (s.bump v) ∧ Ft b.foot w w' := by
  have HS := Lib.hid h
  have HG := Lib.hid (h.good.bump v)
  have HG0 := Lib.hid h.good
  obtain ⟨pl, tr, h1, h2, h3, h4⟩ := h.ex
  have HI := Lib.hid (isvar_hp h1 v h0)
  rw [isV_eq h1.ls] at HI
  rcases hv : s.isV v with _ | _
  · have e : s.bump v = s := by unfold SP.bump; rw [if_neg (by simp [hv])]
    rw [e]
    rw [hv] at HI
    clear h h1 h2 h3 h4 hv e HG
    go_enter Try.func17, Try.ntmps17
    go_wp2_with fail
    refine HI.out.mono ?_
    rintro e w1 ⟨rfl, rfl⟩
    go_wp2
    go_ret
    exact ⟨rfl, HS.out, Ft.refl _⟩
  · have hvi := SP.isV_iff.1 hv
    rw [h1.ls] at hvi
    obtain ⟨k, rfl⟩ : ∃ k : Nat, v = (k : Int) + 1 := ⟨v.toNat - 1, by omega⟩
    have hk : k < n := by omega
    have ek : ((k : Int) + 1).toNat - 1 = k := by omega
    have HB : Hid (s.bump ((k : Int) + 1) = if 1125899906842624 < (s.up k).sc.getD k 0 then (s.up k).low else s.up k) := Lib.hid (by unfold SP.bump; rw [if_pos hv, ek])
    rw [hv] at HI
    have hx1 := h.good.cap k
    have hrc := h.good.rc
    have g0 := h1.g0
    have g3 := h1.g3
    have ck := h1.cS hk
    have fk := h1.fS k
    have hkk : (k : Int) < (n : Int) := by omega
    have hf := h1.few
    have hwk : IntKind.i64.wrap (k : Int) = (k : Int) := i64_mid (by omega)
    obtain ⟨y, hy⟩ : ∃ y : Nat, y = s.sc.getD k 0 + s.rise := ⟨_, rfl⟩
    have hyb : y ≤ 2251799813685248 := by omega
    have HUP : Hid ((s.up k).sc.getD k 0 = y) := Lib.hid (by rw [hy]; exact SP.up_get (by rw [h1.ls]; exact hk))
    have HSC : Hid ((s.up k).sc = s.sc.set k y) := Lib.hid (by rw [hy]; rfl)
    have H1 := Lib.hid (h1.setS k y (by omega))
    have F1 := Lib.hid ((Ft.refl w).set (q := b.S) (F := b.foot) (fun _ => .inr (.inl rfl)) k (.int .i64 (y : Nat)))
    have hsum : ((s.sc.getD k 0 : Nat) : Int) + (s.rise : Int) = (y : Int) := by omega
    have hge : s.sc.getD k 0 ≤ y := by omega
    have HLS := Lib.hid h1.ls
    have HLIFT : Hid (∀ i, i < tr.length → tr.getD i 0 = k + 1 → LiftI (s.sc.set k y) tr i) := Lib.hid fun i hi he => lift_start h3 h2 hi he (by rw [h1.ls]; exact hk) hge
    have HOFF : Hid (k + 1 ∉ tr → Ord (s.sc.set k y) tr 0) := Lib.hid fun hn => h3.congr fun i hi => by
      rw [scV_set (by rw [h1.ls]; exact hk), if_neg]
      intro e
      have := h2.rng i hi
      exact hn (mem_getD.2 ⟨i, hi, by omega⟩)
    have wy : IntKind.i64.wrap (y : Int) = (y : Int) := i64_mid (by omega)
    obtain ⟨x, hx⟩ : ∃ x : Nat, x = s.sc.getD k 0 := ⟨_, rfl⟩
    rw [← hx] at ck hsum
    have H2 := Lib.hid h2
    have H4 := Lib.hid h4
    have HK := Lib.hid hk
    -- what follows once the tree is in order again
    have HEND : Hid (∀ (w2 : World) pl2 tr2, HM w2 b n (s.sc.set k y) pl2 tr2 s.rise → Con n tr2 pl2 → Ord (s.sc.set k y) tr2 0 → Sm tr tr2 → ¬ 1125899906842624 < y → St16 w2 b n (s.bump ((k : Int) + 1))) := Lib.hid fun w2 pl2 tr2 k1 k2 k3 k4 k5 => by
      have hb := HB.out
      rw [HUP.out, if_neg k5] at hb
      exact ⟨⟨pl2, tr2, by rw [hb, HSC.out]; exact k1, k2, by rw [hb, HSC.out]; exact k3, fun v a1 a2 => by rw [hb]; exact (k4.2 v).trans (H4.out v a1 a2)⟩, HG.out⟩
    have HEND2 : Hid (∀ (w2 : World) pl2 tr2, HM w2 b n ((s.sc.set k y).map (· / 1073741824)) pl2 tr2 (max (s.rise / 1073741824) 1) → Con n tr2 pl2 → Ord ((s.sc.set k y).map (· / 1073741824)) tr2 0 → Sm tr tr2 → 1125899906842624 < y → St16 w2 b n (s.bump ((k : Int) + 1))) := Lib.hid fun w2 pl2 tr2 k1 k2 k3 k4 k5 => by
      have hb := HB.out
      rw [HUP.out, if_pos k5] at hb
      exact ⟨⟨pl2, tr2, by rw [hb]; show HM w2 b n ((s.up k).sc.map (· / 1073741824)) pl2 tr2 (max (s.rise / 1073741824) 1); rw [HSC.out]; exact k1, k2, by rw [hb]; show Ord ((s.up k).sc.map (· / 1073741824)) tr2 0; rw [HSC.out]; exact k3, fun v a1 a2 => by rw [hb]; exact (k4.2 v).trans (H4.out v a1 a2)⟩, HG.out⟩
    clear h h1 h2 h3 h4 hv ek hy hx hge hx1 hk hvi HS
    go_enter Try.func17, Try.ntmps17
    go_wp2_with fail
    refine HI.out.mono ?_
    rintro e w1 ⟨rfl, rfl⟩
    go_wp2_with fail
    go_region
    obtain ⟨w3, hw3⟩ : ∃ w3, w3 = (w.setCell ⟨b.S, k, none⟩ (.int .i64 (y : Nat))).drew := ⟨_, rfl⟩
    rw [← hw3]
    have H3 : Hid (HM w3 b n (s.sc.set k y) pl tr s.rise) := Lib.hid (by rw [hw3]; exact H1.out.drew)
    have F3 : Hid (Ft b.foot w w3) := Lib.hid (by rw [hw3]; exact F1.out.drew)
    clear hw3 g0 g3 ck fk
    go_wp2_with fail
    refine (in_hp H3.out ((k : Int) + 1) (by omega)).mono ?_
    rintro e w4 ⟨rfl, rfl⟩
    have ek : ((k : Int) + 1).toNat - 1 = k := by omega
    have hdv : decide (0 < (k : Int) + 1 ∧ (k : Int) + 1 ≤ (n : Int)) = true := by simp only [decide_eq_true_eq]; omega
    rw [hdv, ek, Bool.true_and]
    have HBG : (1125899906842624 : Int) < (y : Int) ∨ ¬ (1125899906842624 : Int) < (y : Int) := Decidable.em _
    by_cases hm : k + 1 ∈ tr
    · obtain ⟨i, hi, hie⟩ := mem_getD.1 hm
      have hpl := H2.out.here i hi
      rw [hie, Nat.add_sub_cancel] at hpl
      have g1 := H3.out.g1
      have cp := H3.out.cP HK.out
      rw [hpl] at cp ⊢
      rw [show decide ((i : Int) ≠ -1) = true by simp]
      have HLI := Lib.hid (HLIFT.out i hi hie)
      clear hm hi hie hpl hdv ek
      go_wp2_with fail
      refine (lift_hp H3.out H2.out i HLI.out).mono ?_
      rintro e w5 ⟨rfl, pl5, tr5, k1, k2, k3, k4, k5⟩
      have c0 := k1.g0
      have cc := k1.cS HK.out
      have egy : (s.sc.set k y).getD k 0 = y := by rw [getD_set_nat, if_pos ⟨rfl, by rw [HLS.out]; exact HK.out⟩]
      rw [egy] at cc
      have K1 := Lib.hid k1
      have K2 := Lib.hid k2
      have K3 := Lib.hid k3
      have K4 := Lib.hid k4
      have K5 := Lib.hid (F3.out.trans k5 NewF.refl)
      clear k1 k2 k3 k4 k5 egy
      rcases HBG with hbg | hbg
      · go_wp2_with fail
        refine (divide_hp K1.out K2.out).mono ?_
        rintro e w6 ⟨rfl, pl6, tr6, k1, k2, k3, k4, k5⟩
        have J1 := Lib.hid (HEND2.out w6 pl6 tr6 k1 k2 k3 (K4.out.trans k4) (by omega))
        have J5 := Lib.hid (K5.out.trans k5 NewF.refl)
        clear k1 k2 k3 k4 k5
        go_wp2
        go_ret
        exact ⟨rfl, J1.out, J5.out⟩
      · go_wp2
        all_goals go_ret
        all_goals exact ⟨rfl, HEND.out _ pl5 tr5 K1.out K2.out K3.out K4.out (by omega), K5.out⟩
    · have hpl := H2.out.gone (k + 1) (by omega) (by have := HK.out; omega) hm
      rw [Nat.add_sub_cancel] at hpl
      rw [hpl]
      rw [show decide ((-1 : Int) ≠ -1) = false by decide]
      have HO := Lib.hid (HOFF.out hm)
      have c0 := H3.out.g0
      have cc := H3.out.cS HK.out
      have egy : (s.sc.set k y).getD k 0 = y := by rw [getD_set_nat, if_pos ⟨rfl, by rw [HLS.out]; exact HK.out⟩]
      rw [egy] at cc
      clear hm hpl hdv ek egy
      rcases HBG with hbg | hbg
      · go_wp2_with fail
        refine (divide_hp H3.out H2.out).mono ?_
        rintro e w6 ⟨rfl, pl6, tr6, k1, k2, k3, k4, k5⟩
        have J1 := Lib.hid (HEND2.out w6 pl6 tr6 k1 k2 k3 k4 (by omega))
        have J5 := Lib.hid (F3.out.trans k5 NewF.refl)
        clear k1 k2 k3 k4 k5
        go_wp2
        go_ret
        exact ⟨rfl, J1.out, J5.out⟩
      · go_wp2
        all_goals go_ret
        all_goals exact ⟨rfl, HEND.out _ pl tr H3.out H2.out HO.out (Sm.refl _) (by omega), F3.out⟩
end
end Go.Proofs.Ytnimmlfccgnneaa
