/- What the propagator's own calls do: replace. -/
import Derived.Test.YtbejjddkndcldaaWat2
namespace Go.Proofs.Ytbejjddkndcldaa
open Go.RowKit
set_option linter.unusedVariables false
set_option linter.unusedSimpArgs false

theorem idx_lt {l : Int} {N : Nat} (hl : l ≠ 0 ∧ l.natAbs ≤ N) : (litIndex l).toNat < 2 * N := by
  have hb := litIndex_bd (l := l) (b := N) (by omega) (by omega) hl.1
  omega
section
variable {w : World} {base : Nat} {px : Px} {N : Nat} {G : Nat → Prop} {cs : List Cl} {t : TS} {s : WS} {hd : Nat → Value}
/-- what replace does -/
def Repl (w : World) (base : Nat) (px : Px) (N : Nat) (G : Nat → Prop) (cs : List Cl) (t : TS) (s : WS) (hd : Nat → Value) (m : Mk) (cl : Cl) (e : Ending) (w' : World) : Prop :=
  (e = .returned (.bool false) ∧ (∀ j, 2 ≤ j → j < cl.lits.length → valT t.recs (cl.lits.getD j 0) < 0) ∧ Gr w w') ∨
  (e = .returned (.bool true) ∧ ∃ j, 2 ≤ j ∧ j < cl.lits.length ∧ 0 ≤ valT t.recs (cl.lits.getD j 0) ∧
    ∃ G' hd', Ob w' base px N G' (putL cs m.ref (swapOf cl.lits 1 j)) t (s.watch (cl.lits.getD j 0) ⟨m.ref, m.oth, j + 1⟩) hd' ∧ St G G' w w' ∧ ∀ k, k ≠ (litIndex (cl.lits.getD j 0)).toNat → hd' k = hd k)

set_option maxHeartbeats 4000000 in
theorem replace_any (h : Ob w base px N G cs t s hd) (hB : base ≤ w.heap.size) (hg : t.Good) {m : Mk} {cl : Cl} (hc : at? cs m.ref = some cl) (ht : total cs ≤ 1099511627776) (hN : N ≤ 100000) (hl : ∀ x ∈ cl.lits, x ≠ 0 ∧ x.natAbs ≤ N) (hms : ∀ i, i < 2 * N → (s.ms i).length ≤ 1000000) (hn2 : 2 ≤ m.nxt) (hnl : m.nxt = 2 ∨ m.nxt ≤ cl.lits.length) :
    Calls Try.prog 88 #[.pointer (some ⟨px.gW, 0, none⟩), .agg #[.int .i64 m.ref, .int .i64 m.oth, .int .i64 (m.nxt : Nat)]] w (Repl w base px N G cs t s hd m cl) := by
  have hlen : cl.lits.length ≤ 1099511627776 := by
    obtain ⟨h0, h1⟩ := at?_range hc
    have : cl.size = cl.lits.length + 3 := rfl
    omega
  obtain ⟨n, hn⟩ : ∃ n, cl.lits.length = n := ⟨_, rfl⟩
  obtain ⟨p, hp⟩ : ∃ p, m.nxt = p := ⟨_, rfl⟩
  have hp2 : p ≤ 1099511627776 := by omega
  -- behind the box
  obtain ⟨wb, hwb⟩ : ∃ wb, wb = w.alloc (Obj.cells #[.int .i64 m.ref, .int .i64 m.oth, .int .i64 (p : Nat)] 106) := ⟨_, rfl⟩
  have hgb : Gr w wb := by rw [hwb]; exact (Gr.refl w).alloc _
  have HXB := Lib.hid (show Blk wb w.heap.size 106 #[.int .i64 m.ref, .int .i64 m.oth, .int .i64 (p : Nat)] by rw [hwb]; exact Blk.new w _ _)
  have hob := h.gr hgb
  have HNG := Lib.hid (show ¬ G w.heap.size from fun e => by have := (h.bd _ e).2; omega)
  have f0 := fun n os => (hob.cell n os).1
  have hkeep : ∀ (n : Nat) (os : Array Obj) (i : Nat), (Go.Sort.grow (wb.drewN n) os).cell? ⟨w.heap.size, i, none⟩ = wb.cell? ⟨w.heap.size, i, none⟩ := fun n os i => Go.Sort.cell?_grow (wb.drewN n) os _ (by show w.heap.size < _; exact HXB.out.lt)
  have g0 : ∀ n os, (Go.Sort.grow (wb.drewN n) os).cell? ⟨w.heap.size, 0, none⟩ = some (.int .i64 m.ref) := fun n os => by rw [hkeep, HXB.out.cell]; rfl
  have g2 : ∀ n os, (Go.Sort.grow (wb.drewN n) os).cell? ⟨w.heap.size, 2, none⟩ = some (.int .i64 (p : Nat)) := fun n os => by rw [hkeep, HXB.out.cell]; rfl
  have CN := Lib.hid (fun n os => len_at (hob.gr (grow_gr wb n os)).ar hc ht)
  have CS := Lib.hid (fun n os => search_any (hob.gr (grow_gr wb n os)) hg hc ht hN hl p cl.lits.length hp2 (by omega))
  have CS2 := Lib.hid (fun n os => search_any (hob.gr (grow_gr wb n os)) hg hc ht hN hl 2 p (by omega) hp2)
  have S1 := Lib.hid (srch_spec t cl.lits cl.lits.length _ p rfl)
  have S2 := Lib.hid (srch_spec t cl.lits p _ 2 rfl)
  obtain ⟨z1, hz1⟩ : ∃ z1, srch t cl.lits p cl.lits.length = z1 := ⟨_, rfl⟩
  obtain ⟨z2, hz2⟩ : ∃ z2, srch t cl.lits 2 p = z2 := ⟨_, rfl⟩
  rw [hz1] at CS S1
  rw [hz2] at CS2 S2
  rw [hn] at CN CS
  have HOB := Lib.hid hob
  have HGB := Lib.hid hgb
  have HC := Lib.hid hc
  have HL := Lib.hid hl
  have HG := Lib.hid hg
  have HMS := Lib.hid hms
  have HNN := Lib.hid hn
  have HPP := Lib.hid hp
  have HNL := Lib.hid hnl
  have HWB := Lib.hid hwb
  rw [hp]
  rw [hp] at hn2
  clear h hc hl hg hms hob hgb hwb hn hp hz1 hz2 hkeep hnl
  go_enter Try.func88, Try.ntmps88
  go_wp2_with fail
  rw [← HWB.out]
  refine wp_region_quiet_grown (by kernel_rfl) (by kernel_rfl) ?_
  repeat (go_big_quiet_step (first
    | (go_at_call 95; with_reducible exact Calls.grown_of (CN.out _ _))
    | (go_at_call 94; with_reducible exact Calls.grown_of (CS.out _ _))))
  refine wpQuiet_nil ?_
  rintro _ ⟨⟨nq, osq⟩, rfl⟩
  have c2 := g0 nq osq
  have c3 := g2 nq osq
  have CS2' := Lib.hid (CS2.out nq osq)
  have HG1 := Lib.hid (HGB.out.trans (grow_gr wb nq osq))
  have HO1 := Lib.hid (HOB.out.gr (grow_gr wb nq osq))
  have HX1 := Lib.hid (HXB.out.below (grow_gr wb nq osq).below HXB.out.lt)
  obtain ⟨w1, hw1⟩ : ∃ w1, Go.Sort.grow (wb.drewN nq) osq = w1 := ⟨_, rfl⟩
  rw [hw1] at c2 c3 CS2' HG1 HO1 HX1 ⊢
  clear f0 g0 g2 CN CS CS2 hw1
  by_cases hz0 : 0 ≤ z1
  · obtain ⟨j, rfl, hj1, hjl, hv⟩ := S1.out.resolve_left (fun e => by omega)
    have hj2 : 2 ≤ j := by omega
    have HV := Lib.hid hv
    clear S1 S2 CS2' c3 hv
    have hj1 : 1 < cl.lits.length := by omega
    have CSW := Lib.hid (ob_swap (HO1.out.drewE ⟨1, rfl⟩) HC.out ht 1 j hj1 hjl)
    obtain ⟨FW1, hwm1⟩ := HO1.out.wm
    have c00 := hwm1.cells.1.1
    have b0 := HX1.out.cell 0
    have b1 := HX1.out.cell 1
    have b2 := HX1.out.cell 2
    simp at b0 b1 b2
    clear hwm1
    go_wp2_with fail
    go_region_law (first | (go_simp; go_at_call 85; refine CSW.out.mono ?_; rintro e3 w3 ⟨rfl, ho3, hs3⟩; have HO3 := Lib.hid ho3; have HS3 := Lib.hid hs3; clear ho3 hs3))
    all_goals
      have HX3 := Lib.hid (HS3.out.ft.blk (HX1.out.drew_) HNG.out)
      clear c00 b0 b1 b2
      have b2 := HX3.out.cell 2
      have bf := HX3.out.frozen 2
      simp at b2
      have hjs : (j : Int) + 1 ≤ 1099511627777 := by omega
      obtain ⟨w4, hw4⟩ : ∃ w4, w4 = w3.setCell ⟨w.heap.size, 2, none⟩ (.int .i64 ((j : Int) + 1)) := ⟨_, rfl⟩
      have HX4 := Lib.hid (show Blk w4 w.heap.size 106 #[.int .i64 m.ref, .int .i64 m.oth, .int .i64 ((j : Int) + 1)] by
        rw [hw4]
        have := HX3.out.set_ 2 (.int .i64 ((j : Int) + 1))
        simpa using this)
      have HO4 := Lib.hid (show Ob w4 base px N G (putL cs m.ref (swapOf cl.lits 1 j)) t s hd by rw [hw4]; exact HO3.out.far HNG.out _ _)
      have HS4 := Lib.hid (show St G G w w4 by rw [hw4]; exact (((((St.refl w).gr HG1.out).drewE ⟨1, rfl⟩).trans HS3.out).own (Nat.le_refl _) 2 _))
      have HW4 := Lib.hid hw4
      have hp2 : (swapOf cl.lits 1 j).Perm cl.lits := swapOf_perm hj1 hjl
      have hl2 : (swapOf cl.lits 1 j).length = cl.lits.length := hp2.length_eq
      have hc4 : at? (putL cs m.ref (swapOf cl.lits 1 j)) m.ref = some { cl with lits := swapOf cl.lits 1 j } := by rw [at?_putL HC.out hl2, if_pos rfl]
      have ht4 : total (putL cs m.ref (swapOf cl.lits 1 j)) ≤ 1099511627776 := by rw [total_putL HC.out hl2]; exact ht
      have CL := Lib.hid (fun w' hg => lit_at ((HO4.out.gr hg).ar (w := w')) hc4 ht4 1)
      have hv : (if (1 : Int) < 0 then (0 : Int) else ({ cl with lits := swapOf cl.lits 1 j } : Cl).lits.getD (1 : Int).toNat 0) = cl.lits.getD j 0 := by
        rw [if_neg (by omega)]
        show (swapOf cl.lits 1 j).getD 1 0 = _
        rw [List.getD, swapOf_get hj1 hjl]
        by_cases e : 1 = j
        · subst e; simp [List.getD]
        · rw [if_neg e, if_pos rfl]; rfl
      rw [hv] at CL
      have hxl : cl.lits.getD j 0 ≠ 0 ∧ (cl.lits.getD j 0).natAbs ≤ N := HL.out _ (get_mem hjl)
      obtain ⟨x, hx⟩ : ∃ x, cl.lits.getD j 0 = x := ⟨_, rfl⟩
      rw [hx] at CL hxl
      have CW := Lib.hid (fun w' hg hB' => watch_any (w := w') (HO4.out.gr hg) hB' hN hxl (HMS.out _ (idx_lt hxl)) ⟨m.ref, m.oth, j + 1⟩)
      have e4 : (((⟨m.ref, m.oth, j + 1⟩ : Mk).nxt : Nat) : Int) = (j : Int) + 1 := by show ((j + 1 : Nat) : Int) = _; omega
      simp only [e4] at CW
      have hs4 := HS4.out.size
      have hsz4 := HX4.out.lt
      have d0 := HX4.out.cell 0
      have d1 := HX4.out.cell 1
      have d2 := HX4.out.cell 2
      simp at d0 d1 d2
      obtain ⟨FW4, hwm4⟩ := HO4.out.wm
      have cA := hwm4.cells.1.1
      have cL := hwm4.cells.2.2.2
      have HXX := Lib.hid hx
      clear hw4 hp2 hl2 hc4 ht4 hv hx hwm4 e4 hxl
      go_wp2_with fail
      rw [← HW4.out]
      clear b2 bf
      have CL5 := Lib.hid (CL.out w4.drew ((Gr.refl w4).drewE ⟨1, rfl⟩))
      go_region_law (first
        | (go_simp; go_at_call 71; refine CL5.out.mono ?_; rintro e5 w5 ⟨rfl, hg5⟩; have HG5 := Lib.hid (((Gr.refl w4).drewE ⟨1, rfl⟩).trans hg5); have hx5 := HX4.out.below HG5.out.below HX4.out.lt; have k0 := hx5.cell 0; have k1 := hx5.cell 1; have k2 := hx5.cell 2; simp at k0 k1 k2; clear hg5 hx5)
        | (go_simp; go_at_call 72; refine (CW.out w5 HG5.out (by have := HG5.out.below.size; omega)).mono ?_; rintro e6 w6 ⟨rfl, G6, hd6, ho6, hs6, hh6⟩; have HE6 := Lib.hid (And.intro ho6 (And.intro hs6 hh6)); clear ho6 hs6 hh6))
      all_goals
        go_wp2
        go_ret
        refine .inr ⟨rfl, j, hj2, hjl, HV.out, G6, hd6, ?_, (HS4.out.gr HG5.out).trans HE6.out.2.1, ?_⟩
        · rw [HXX.out]; exact HE6.out.1
        · rw [HXX.out]; exact HE6.out.2.2
  · have hall := (S1.out.resolve_right (fun ⟨j, e, _⟩ => by omega)).2
    have HALL := Lib.hid hall
    have hz1 : z1 < 0 := by omega
    clear S1 hall
    go_wp2_with fail
    refine CS2'.out.mono ?_
    rintro e w2 ⟨rfl, hg2⟩
    have HG2 := Lib.hid (HG1.out.trans hg2)
    have HO2 := Lib.hid (HO1.out.gr hg2)
    have HX2 := Lib.hid (HX1.out.below hg2.below HX1.out.lt)
    clear hg2 HG1 HO1 HX1 CS2' c2 c3
    obtain ⟨w1, rfl⟩ : ∃ w1, w1 = w2 := ⟨_, rfl⟩
    have HG1 := HG2
    have HO1 := HO2
    have HX1 := HX2
    clear HG2 HO2 HX2
    by_cases hz3 : 0 ≤ z2
    · obtain ⟨j, rfl, hj2, hjl', hv⟩ := S2.out.resolve_left (fun e => by omega)
      have hjl : j < cl.lits.length := by have := HNL.out; have := HPP.out; omega
      have HV := Lib.hid hv
      clear S2 hv HALL
      have hj1 : 1 < cl.lits.length := by omega
      have CSW := Lib.hid (ob_swap (HO1.out.drewE ⟨1, rfl⟩) HC.out ht 1 j hj1 hjl)
      obtain ⟨FW1, hwm1⟩ := HO1.out.wm
      have c00 := hwm1.cells.1.1
      have b0 := HX1.out.cell 0
      have b1 := HX1.out.cell 1
      have b2 := HX1.out.cell 2
      simp at b0 b1 b2
      clear hwm1
      go_wp2_with fail
      go_region_law (first | (go_simp; go_at_call 85; refine CSW.out.mono ?_; rintro e3 w3 ⟨rfl, ho3, hs3⟩; have HO3 := Lib.hid ho3; have HS3 := Lib.hid hs3; clear ho3 hs3))
      all_goals
        have HX3 := Lib.hid (HS3.out.ft.blk (HX1.out.drew_) HNG.out)
        clear c00 b0 b1 b2
        have b2 := HX3.out.cell 2
        have bf := HX3.out.frozen 2
        simp at b2
        have hjs : (j : Int) + 1 ≤ 1099511627777 := by omega
        obtain ⟨w4, hw4⟩ : ∃ w4, w4 = w3.setCell ⟨w.heap.size, 2, none⟩ (.int .i64 ((j : Int) + 1)) := ⟨_, rfl⟩
        have HX4 := Lib.hid (show Blk w4 w.heap.size 106 #[.int .i64 m.ref, .int .i64 m.oth, .int .i64 ((j : Int) + 1)] by
          rw [hw4]
          have := HX3.out.set_ 2 (.int .i64 ((j : Int) + 1))
          simpa using this)
        have HO4 := Lib.hid (show Ob w4 base px N G (putL cs m.ref (swapOf cl.lits 1 j)) t s hd by rw [hw4]; exact HO3.out.far HNG.out _ _)
        have HS4 := Lib.hid (show St G G w w4 by rw [hw4]; exact (((((St.refl w).gr HG1.out).drewE ⟨1, rfl⟩).trans HS3.out).own (Nat.le_refl _) 2 _))
        have HW4 := Lib.hid hw4
        have hp2 : (swapOf cl.lits 1 j).Perm cl.lits := swapOf_perm hj1 hjl
        have hl2 : (swapOf cl.lits 1 j).length = cl.lits.length := hp2.length_eq
        have hc4 : at? (putL cs m.ref (swapOf cl.lits 1 j)) m.ref = some { cl with lits := swapOf cl.lits 1 j } := by rw [at?_putL HC.out hl2, if_pos rfl]
        have ht4 : total (putL cs m.ref (swapOf cl.lits 1 j)) ≤ 1099511627776 := by rw [total_putL HC.out hl2]; exact ht
        have CL := Lib.hid (fun w' hg => lit_at ((HO4.out.gr hg).ar (w := w')) hc4 ht4 1)
        have hv : (if (1 : Int) < 0 then (0 : Int) else ({ cl with lits := swapOf cl.lits 1 j } : Cl).lits.getD (1 : Int).toNat 0) = cl.lits.getD j 0 := by
          rw [if_neg (by omega)]
          show (swapOf cl.lits 1 j).getD 1 0 = _
          rw [List.getD, swapOf_get hj1 hjl]
          by_cases e : 1 = j
          · subst e; simp [List.getD]
          · rw [if_neg e, if_pos rfl]; rfl
        rw [hv] at CL
        have hxl : cl.lits.getD j 0 ≠ 0 ∧ (cl.lits.getD j 0).natAbs ≤ N := HL.out _ (get_mem hjl)
        obtain ⟨x, hx⟩ : ∃ x, cl.lits.getD j 0 = x := ⟨_, rfl⟩
        rw [hx] at CL hxl
        have CW := Lib.hid (fun w' hg hB' => watch_any (w := w') (HO4.out.gr hg) hB' hN hxl (HMS.out _ (idx_lt hxl)) ⟨m.ref, m.oth, j + 1⟩)
        have e4 : (((⟨m.ref, m.oth, j + 1⟩ : Mk).nxt : Nat) : Int) = (j : Int) + 1 := by show ((j + 1 : Nat) : Int) = _; omega
        simp only [e4] at CW
        have hs4 := HS4.out.size
        have hsz4 := HX4.out.lt
        have d0 := HX4.out.cell 0
        have d1 := HX4.out.cell 1
        have d2 := HX4.out.cell 2
        simp at d0 d1 d2
        obtain ⟨FW4, hwm4⟩ := HO4.out.wm
        have cA := hwm4.cells.1.1
        have cL := hwm4.cells.2.2.2
        have HXX := Lib.hid hx
        clear hw4 hp2 hl2 hc4 ht4 hv hx hwm4 e4 hxl
        go_wp2_with fail
        rw [← HW4.out]
        clear b2 bf
        have CL5 := Lib.hid (CL.out w4.drew ((Gr.refl w4).drewE ⟨1, rfl⟩))
        go_region_law (first
          | (go_simp; go_at_call 71; refine CL5.out.mono ?_; rintro e5 w5 ⟨rfl, hg5⟩; have HG5 := Lib.hid (((Gr.refl w4).drewE ⟨1, rfl⟩).trans hg5); have hx5 := HX4.out.below HG5.out.below HX4.out.lt; have k0 := hx5.cell 0; have k1 := hx5.cell 1; have k2 := hx5.cell 2; simp at k0 k1 k2; clear hg5 hx5)
          | (go_simp; go_at_call 72; refine (CW.out w5 HG5.out (by have := HG5.out.below.size; omega)).mono ?_; rintro e6 w6 ⟨rfl, G6, hd6, ho6, hs6, hh6⟩; have HE6 := Lib.hid (And.intro ho6 (And.intro hs6 hh6)); clear ho6 hs6 hh6))
        all_goals
          go_wp2
          go_ret
          refine .inr ⟨rfl, j, hj2, hjl, HV.out, G6, hd6, ?_, (HS4.out.gr HG5.out).trans HE6.out.2.1, ?_⟩
          · rw [HXX.out]; exact HE6.out.1
          · rw [HXX.out]; exact HE6.out.2.2
    · have hall2 := (S2.out.resolve_right (fun ⟨j, e, _⟩ => by omega)).2
      have HALL2 := Lib.hid hall2
      have hz4 : z2 < 0 := by omega
      clear S2 hall2
      go_wp2
      go_ret
      refine .inl ⟨rfl, fun j h1 h2 => ?_, HG1.out⟩
      by_cases e : j < p
      · exact HALL2.out j h1 e
      · exact HALL.out j (by omega) h2
end
end Go.Proofs.Ytbejjddkndcldaa
