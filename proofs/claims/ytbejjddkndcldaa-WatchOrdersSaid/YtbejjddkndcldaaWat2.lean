/- What the propagator's own calls do: watch. -/
import Derived.Test.YtbejjddkndcldaaWat1
import Derived.Deep.RegionLaw
import Derived.Laws.OwnMore
namespace Go.Proofs.Ytbejjddkndcldaa
open Go.RowKit
set_option linter.unusedVariables false
set_option linter.unusedSimpArgs false

theorem step_appM {P : Program} {ops : Array Oper} {o : Oper} {a : Act} {w : World} {K : Act → World → Prop} {Q : Exit → Act → World → Prop} {E : Prop}
    (hg : o.guard = none) (s x : Operand) (t : TypeId) (hop : o.op = Op.call { callee := Callee.builtin Builtin.append, args := #[s, x], argTypes := #[t, t] })
    (base : Nat) (e : TypeId) (i : TypeInfo) (z : Value) (bytes : Nat) (ht : P.underlying t = some (.slice e)) (hi : P.info? e = some i) (hz : i.zero = some z)
    (hsize : i.size = 3) (hby : i.bytes = bytes) (hzs : z.cells.size = 3)
    (v : Value) (n : Nat) (xs : List Value) (hs : a.eval s = v) (hown : w.ownsRow base e 3 v n xs)
    (u0 u1 u2 : Value) (g : Nat) (hx : a.eval x = .slice (some ⟨g, 0, none⟩) 1 1) (hc0 : w.cell? ⟨g, 0, none⟩ = some u0) (hc1 : w.cell? ⟨g, 1, none⟩ = some u1) (hc2 : w.cell? ⟨g, 2, none⟩ = some u2) (h1 : u0.oneCell' = true ∧ u1.oneCell' = true ∧ u2.oneCell' = true)
    (h63 : n + 1 ≤ maxLen) (hbytes : (n + 1) * bytes ≤ 140737488355328) (hbase : base ≤ w.heap.size)
    (hK : ∀ v' w', w'.ownsRow base e 3 v' (n + 1) (xs ++ [u0, u1, u2]) → w.grownBy w' v.ownBlock → (v'.ownBlock = v.ownBlock ∨ v'.ownBlock = some w.heap.size) → K (a.put o.dst v') w') :
    if Region.wanted o (yielded ops a.tmps) = true then Oper.wp P o a w K Q else E := by
  have hw : Region.wanted o (yielded ops a.tmps) = true := by simp [Region.wanted, hg]
  rw [if_pos hw]
  obtain ⟨v', w', hrun, h2, h3, _, hat⟩ := run_append_own_at (P := P) w base t o.type e i z 3 bytes ht hi hz hsize hby hzs (by decide) v n xs hown ⟨g, 0, none⟩ 1 1 [u0, u1, u2] rfl
    (by intro j u' hu; match j, hu with | 0, hu => simp at hu; subst hu; simpa [Addr.add] using hc0 | 1, hu => simp at hu; subst hu; simpa [Addr.add] using hc1 | 2, hu => simp at hu; subst hu; simpa [Addr.add] using hc2) (by intro u' hu; simp at hu; rcases hu with rfl | rfl | rfl <;> first | exact h1.1 | exact h1.2.1 | exact h1.2.2) h63 hbytes hbase
  unfold Oper.wp
  simp [execOp, hop, resolve, invoke, builtin, hs, hx, hrun, Result.andThen]
  exact hK v' w' h2 h3 hat
theorem infoMk : (Try.prog.info? 106).map (fun i => (i.zero, i.size, i.bytes)) = some (some (.agg #[.int .i64 0, .int .i64 0, .int .i64 0]), 3, 24) := by kernel_rfl
theorem info_partsM {P : Program} {e : TypeId} {z : Value} {n b : Nat} (h : (P.info? e).map (fun i => (i.zero, i.size, i.bytes)) = some (some z, n, b)) : ∃ i, P.info? e = some i ∧ i.zero = some z ∧ i.size = n ∧ i.bytes = b := by
  obtain ⟨i, hi, hzz⟩ := Option.map_eq_some_iff.1 h
  simp only [Prod.mk.injEq] at hzz
  exact ⟨i, hi, hzz.1, hzz.2.1, hzz.2.2⟩

section
variable {w : World} {base : Nat} {px : Px} {N : Nat} {G : Nat → Prop} {cs : List Cl} {t : TS} {s : WS} {hd : Nat → Value}
theorem watch_no (h : Ob w base px N G cs t s hd) (hN : N ≤ 100000) (m : Value) (hm : m.cells.size = 3) (a b c : Value) (hv : m = .agg #[a, b, c]) :
    Calls Try.prog 72 #[.pointer (some ⟨px.gW, 0, none⟩), .int .i64 0, m] w fun e w' => e = .returned (.tuple #[]) ∧ Gr w w' := by
  subst hv
  obtain ⟨FW, hw⟩ := h.wm
  have hlt := hw.cells.2.2.2
  have c2 := hw.cells.1.2.2.1
  have HR := Lib.hid (fun w => right_any 0 N w (by omega) (by omega) (by omega) (by omega))
  have h0 : litRight 0 (N : Int) = false := by simp [litRight]
  rw [h0] at HR
  clear h hw hm h0
  go_enter Try.func72, Try.ntmps72
  go_wp2_with fail
  refine (HR.out _).mono ?_
  rintro e w1 ⟨rfl, rfl⟩
  go_wp2
  go_end0
  exact ⟨rfl, (Gr.refl _).alloc _⟩

set_option maxHeartbeats 2000000 in
theorem watch_any (h : Ob w base px N G cs t s hd) (hB : base ≤ w.heap.size) (hN : N ≤ 100000) {l : Int} (hl : l ≠ 0 ∧ l.natAbs ≤ N) (hlen : (s.ms (litIndex l).toNat).length ≤ 1000000) (m : Mk) :
    Calls Try.prog 72 #[.pointer (some ⟨px.gW, 0, none⟩), .int .i64 l, .agg #[.int .i64 m.ref, .int .i64 m.oth, .int .i64 (m.nxt : Nat)]] w fun e w' => e = .returned (.tuple #[]) ∧ ∃ G' hd', Ob w' base px N G' cs t (s.watch l m) hd' ∧ St G G' w w' ∧ ∀ j, j ≠ (litIndex l).toNat → hd' j = hd j := by
  have hb := litIndex_bd (l := l) (b := N) (by omega) (by omega) hl.1
  obtain ⟨i, hi⟩ : ∃ i, (litIndex l).toNat = i := ⟨_, rfl⟩
  have hli : litIndex l = (i : Int) := by omega
  have hi2 : i < 2 * N := by omega
  have hr : litRight l (N : Int) = true := litRight_iff.2 (by omega)
  have HR := Lib.hid (fun w => hr ▸ right_any l N w (by omega) (by omega) (by omega) (by omega))
  have HI := Lib.hid (fun w => hli ▸ index_any l w (by omega) (by omega))
  rw [hi] at hlen ⊢
  obtain ⟨FW0, hw0⟩ := h.wm
  have y2 := hw0.cells.1.2.2.1
  have hgl := hw0.cells.2.2.2
  -- behind the box
  obtain ⟨wb, hwb⟩ : ∃ wb, wb = w.alloc (Obj.cells #[.int .i64 m.ref, .int .i64 m.oth, .int .i64 (m.nxt : Nat)] 106) := ⟨_, rfl⟩
  have hgb : Gr w wb := by rw [hwb]; exact (Gr.refl w).alloc _
  have hbx : Blk wb w.heap.size 106 #[.int .i64 m.ref, .int .i64 m.oth, .int .i64 (m.nxt : Nat)] := by rw [hwb]; exact Blk.new w _ _
  have hob := h.gr hgb
  have hBb : base ≤ wb.heap.size := Nat.le_trans hB hgb.below.size
  obtain ⟨FT, FW, h1, h2, h3, d1, d2, d3, d4⟩ := hob.ex
  obtain ⟨A, c, ea, oa⟩ := h3.rows i hi2
  obtain ⟨n, hn⟩ : ∃ n, (s.ms i).length = n := ⟨_, rfl⟩
  have x2 := h3.cells.1.2.2.1
  have x3 := h3.cells.1.2.2.2
  have xl := (h3.lists.cell i).trans (hdV_at hi2)
  rw [ea, hn] at xl
  have b0 := hbx.cell 0
  have b1 := hbx.cell 1
  have b2 := hbx.cell 2
  simp at b0 b1 b2
  -- behind the row of one
  obtain ⟨wa, hwa⟩ : ∃ wa, wa = (wb.alloc (.cells #[.int .i64 m.ref, .int .i64 m.oth, .int .i64 (m.nxt : Nat)] 106)).drew := ⟨_, rfl⟩
  have hba : Below wb.heap.size wb wa := by rw [hwa]; exact ((Below.refl _ _).alloc (Nat.le_refl _) _).drew
  have hbox : Blk wa wb.heap.size 106 #[.int .i64 m.ref, .int .i64 m.oth, .int .i64 (m.nxt : Nat)] := by rw [hwa]; exact (Blk.new wb _ _).drew_
  have HA2 := Lib.hid (owns_stay oa (w' := wa) fun q o _ hq => (hba.block q (Array.getElem?_eq_some_iff.1 hq).1).trans hq)
  have HAC := Lib.hid (And.intro (hbox.cell 0) (And.intro (hbox.cell 1) (hbox.cell 2)))
  have HAL := Lib.hid (h3.lists.below hba h3.lists.lt)
  have fin : ∀ (w9 : World) (v : Value), w9.ownsRow 0 106 3 v ((s.ms i).length + 1) (mksV (s.ms i) ++ mkV m) → wa.grownBy w9 (hd i).ownBlock → (v.ownBlock = (hd i).ownBlock ∨ v.ownBlock = some wa.heap.size) → ∃ G' hd', Ob (w9.setCell ⟨px.L, i, none⟩ v) base px N G' cs t (s.watch l m) hd' ∧ St G G' w (w9.setCell ⟨px.L, i, none⟩ v) ∧ ∀ j, j ≠ i → hd' j = hd j := fun w9 v ho hg hv => by
    obtain ⟨FW', k1, k2, k3⟩ := WM.pushed h3 hi2 hba hg ho hv
    obtain ⟨G', k4, k5⟩ := Ob.of_watch hob h1 h2 d1 d2 d3 d4 hBb k1 k2 k3
    have e : ({ s with ms := fun j => if j = i then s.ms j ++ [m] else s.ms j } : WS) = s.watch l m := by unfold WS.watch; rw [hi]
    rw [e] at k4
    exact ⟨G', _, k4, ((St.refl w).gr hgb).trans k5, fun j hj => by simp [hj]⟩
  have FIN := Lib.hid fin
  have hcw : ∀ w9 : World, wa.grownBy w9 (Value.slice A n c).ownBlock → w9.cell? ⟨px.gW, 3, none⟩ = some (.slice (some ⟨px.L, 0, none⟩) (2 * N) (2 * N)) := fun w9 hg => by
    obtain ⟨Af, Ah, cf, ch, k1, _⟩ := h3.ex
    have k2 : Blk w9 px.gW 79 (wcells px N s Af cf Ah ch) := (k1.below hba k1.lt).grown hg (fun e => owns_blk_ne oa k1 (by decide) (by rw [hn]; exact e.symm))
    rw [k2.cell]; rfl
  have HCW := Lib.hid hcw
  have HEA := Lib.hid ea
  have HGB := Lib.hid hgb
  have HWA := Lib.hid hwa
  have HWB := Lib.hid hwb
  have HN := Lib.hid hn
  have HII := Lib.hid hi
  have hbl := hbx.lt
  have hLl := h3.lists.lt
  have hgl2 := h3.cells.2.2.2
  rw [hn] at HA2 hlen
  obtain ⟨i0, hz⟩ := info_partsM infoMk
  have HZ := Lib.hid hz
  clear hz
  obtain ⟨M, hM⟩ : ∃ M, 2 * N = M := ⟨_, rfl⟩
  rw [hM] at x3 HCW
  have hiM : (i : Int) < (M : Int) := by omega
  have HI2 := Lib.hid hi2
  have HLN := Lib.hid hlen
  clear h hw0 hb hr hli hwb hgb hbx hob hBb h1 h2 h3 d1 d2 d3 d4 ea oa hn hwa hba hbox fin hcw hM hi2 hlen hl
  go_enter Try.func72, Try.ntmps72
  go_wp2_with fail
  rw [← HWB.out]
  refine (HR.out _).mono ?_
  rintro e w1 ⟨rfl, rfl⟩
  clear y2 hgl
  go_wp2_with fail
  refine (HI.out _).mono ?_
  rintro e w1 ⟨rfl, rfl⟩
  go_wp2
  go_region_law (first | (rw [← HWA.out]; refine step_appM rfl (.tmp 26) (.tmp 28) 111 rfl 0 106 i0 (.agg #[.int .i64 0, .int .i64 0, .int .i64 0]) 24 Try.underlying111 HZ.out.1 HZ.out.2.1 HZ.out.2.2.1 HZ.out.2.2.2 rfl (.slice A n c) n (mksV (s.ms i)) rfl HA2.out (.int .i64 m.ref) (.int .i64 m.oth) (.int .i64 (m.nxt : Nat)) wb.heap.size rfl HAC.out.1 HAC.out.2.1 HAC.out.2.2 ⟨rfl, rfl, rfl⟩ (by have := HLN.out; unfold maxLen; omega) (by have := HLN.out; omega) (Nat.zero_le _) ?_; intro v' w9 hown3 hg3 hat3; obtain ⟨A3, c3, hv3, -⟩ := own3_slice hown3; subst hv3; have hbk3 := HAL.out.grown hg3 (fun e => owns_blk_ne HA2.out HAL.out (by decide) e.symm); have dF := hbk3.frozen i; have dC := (hbk3.cell i).trans (hdV_at HI2.out); rw [HEA.out, HN.out] at dC; have dW := HCW.out _ hg3; have HO3 := Lib.hid hown3; have HG3 := Lib.hid hg3; have HAT3 := Lib.hid hat3; clear hbk3 hown3 hg3 hat3))
  all_goals
    go_wp2
    go_end0
    exact ⟨rfl, FIN.out _ _ (by rw [HN.out]; exact HO3.out) (by rw [HEA.out, HN.out]; exact HG3.out) (by rw [HEA.out, HN.out]; exact HAT3.out)⟩
end
end Go.Proofs.Ytbejjddkndcldaa
