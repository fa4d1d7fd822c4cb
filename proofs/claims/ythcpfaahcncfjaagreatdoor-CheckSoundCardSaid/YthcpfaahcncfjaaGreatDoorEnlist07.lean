/- other, enlist: where a clause waits. -/
import Derived.Test.YthcpfaahcncfjaaGreatDoorFind07
import Derived.Deep.RegionLaw
import Derived.Laws.OwnMore
import Derived.Deep.DeepCutAuto
namespace Go.Proofs.YthcpfaahcncfjaaGreatDoor
open Go.RowKit
set_option linter.unusedVariables false
set_option linter.unusedSimpArgs false

theorem step_append7 {P : Program} {ops : Array Oper} {o : Oper} {a : Act} {w : World} {K : Act → World → Prop} {Q : Exit → Act → World → Prop} {E : Prop}
    (hg : o.guard = none) (s x : Operand) (t : TypeId) (hop : o.op = Op.call { callee := Callee.builtin Builtin.append, args := #[s, x], argTypes := #[t, t] })
    (base : Nat) (e : TypeId) (i : TypeInfo) (z : Value) (bytes : Nat) (ht : P.underlying t = some (.slice e)) (hi : P.info? e = some i) (hz : i.zero = some z)
    (hsize : i.size = 1) (hby : i.bytes = bytes) (hzs : z.cells.size = 1)
    (v : Value) (n : Nat) (xs : List Value) (hs : a.eval s = v) (hown : w.ownsRow base e 1 v n xs)
    (u : Value) (g : Nat) (hx : a.eval x = .slice (some ⟨g, 0, none⟩) 1 1) (hc : w.cell? ⟨g, 0, none⟩ = some u) (h1 : u.oneCell' = true)
    (h63 : n + 1 ≤ maxLen) (hbytes : (n + 1) * bytes ≤ 140737488355328) (hbase : base ≤ w.heap.size)
    (hK : ∀ v' w', w'.ownsRow base e 1 v' (n + 1) (xs ++ [u]) → w.grownBy w' v.ownBlock → (v'.ownBlock = v.ownBlock ∨ v'.ownBlock = some w.heap.size) → K (a.put o.dst v') w') :
    if Region.wanted o (yielded ops a.tmps) = true then Oper.wp P o a w K Q else E := by
  have hw : Region.wanted o (yielded ops a.tmps) = true := by simp [Region.wanted, hg]
  rw [if_pos hw]
  obtain ⟨v', w', hrun, h2, h3, _, hat⟩ := run_append_own_at (P := P) w base t o.type e i z 1 bytes ht hi hz hsize hby hzs (by decide) v n xs hown ⟨g, 0, none⟩ 1 1 [u] rfl
    (by intro j u' hu; match j, hu with | 0, hu => simp at hu; subst hu; simpa [Addr.add] using hc) (by intro u' hu; simp at hu; subst hu; exact h1) h63 hbytes hbase
  unfold Oper.wp
  simp [execOp, hop, resolve, invoke, builtin, hs, hx, hrun, Result.andThen]
  exact hK v' w' h2 h3 hat

/-- one element of a row of one's own is another -/
theorem own_putv {w : World} {base e L n c : Nat} {xs : List Value} (h : w.ownsRow base e 1 (.slice (some ⟨L, 0, none⟩) n c) n xs) (j : Nat) (u : Value) : (w.setCell ⟨L, j, none⟩ u).ownsRow base e 1 (.slice (some ⟨L, 0, none⟩) n c) n (xs.set j u) := by
  refine ⟨by rw [List.length_set]; exact h.1, ?_⟩
  rcases h.2 with ⟨hv, _⟩ | ⟨g', cap', cur, hv, hb', hg', hnc, hmx, hcs, htk⟩
  · cases hv
  · injection hv with hA _ hC
    injection hA with hA
    injection hA with hA
    subst hA hC
    refine .inr ⟨L, c, cur.setIfInBounds j u, rfl, hb', ?_, hnc, hmx, by rw [Array.size_setIfInBounds]; exact hcs, ?_⟩
    · simp [World.setCell, Array.getElem?_modify, hg']
    · rw [Array.toList_setIfInBounds, List.take_set, htk]

/-- the block behind a row of one's own -/
theorem own_blk7 {w : World} {base e L n c : Nat} {xs : List Value} (h : w.ownsRow base e 1 (.slice (some ⟨L, 0, none⟩) n c) n xs) : ∃ Y, Blk w L e Y := by
  rcases h.2 with ⟨hv, _⟩ | ⟨g', cap', cur, hv, hb', hg', _⟩
  · cases hv
  · injection hv with hA
    injection hA with hA
    injection hA with hA
    subst hA
    exact ⟨cur, hg'⟩
theorem other_any (p : Nat) (x : CX) (l : Int) (W : World) (h : Blk W p 120 x.cells) :
    Calls Tryz.prog 111 #[.pointer (some ⟨p, 0, none⟩), .int .i64 l] W fun e W' => e = .returned (.int .i64 (if x.w0 = l then x.w1 else x.w0)) ∧ W = W' := by
  have c2 := h.cell 2
  have c3 := h.cell 3
  have c2' : W.cell? ⟨p, 2, none⟩ = some (.int .i64 x.w0) := c2
  have c3' : W.cell? ⟨p, 3, none⟩ = some (.int .i64 x.w1) := c3
  clear c2 c3 h
  obtain ⟨w0, h0⟩ : ∃ w0, w0 = x.w0 := ⟨_, rfl⟩
  obtain ⟨w1, h1⟩ : ∃ w1, w1 = x.w1 := ⟨_, rfl⟩
  rw [← h0] at c2' ⊢
  rw [← h1] at c3' ⊢
  clear h0 h1
  by_cases he : w0 = l
  · rw [if_pos he]
    go_enter Tryz.func111, Tryz.ntmps111
    go_wp2
    go_ret
    exact ⟨rfl, rfl⟩
  · rw [if_neg he]
    go_enter Tryz.func111, Tryz.ntmps111
    go_wp2
    go_ret
    exact ⟨rfl, rfl⟩

/-- the store with a clause more in a pile -/
def SX.pile (X : SX) (i : Nat) (v : Value) (ps : List Nat) : SX := { X with vs := X.vs.set i v, pss := X.pss.set i ps }
section
variable {W : World} {base : Nat} {X : SX} {fo : List Bool}
/-- a waiting pile is another, and its header is stored -/
theorem Sto.piled {wa w3 : World} {i go c : Nat} {A : Option Addr} {ps : List Nat} (h : Sto W base X fo) (hi : i < 2 * X.V) (hAw : X.Aw = some ⟨go, 0, none⟩) (hb : Below W.heap.size W wa) (hg : wa.grownBy w3 (X.vs.getD i undef).ownBlock)
    (ho : w3.ownsRow base 121 1 (.slice A ps.length c) ps.length (ptrs7 ps)) (hat : (Value.slice A ps.length c).ownBlock = (X.vs.getD i undef).ownBlock ∨ (Value.slice A ps.length c).ownBlock = some wa.heap.size) :
    Sto (w3.setCell ⟨go, i, none⟩ (.slice A ps.length c)) base (X.pile i (.slice A ps.length c) ps) fo ∧ Tn base X W (w3.setCell ⟨go, i, none⟩ (.slice A ps.length c)) := by
  have hnum := h.num.1
  have hil : i < X.pss.length := by omega
  obtain ⟨Ai, ci, hvi, hoi⟩ := h.pil.each i hil
  have hlt : ∀ g, (X.vs.getD i undef).ownBlock = some g → g < W.heap.size := fun g hg => by rw [hvi] at hg; exact (hoi.lt g hg).2
  have hoi' : W.ownsRow base 121 1 (X.vs.getD i undef) (X.pss.getD i []).length (ptrs7 (X.pss.getD i [])) := by rw [hvi]; exact hoi
  have k3 : ∀ q t Y, Blk W q t Y → t ≠ 121 → Blk w3 q t Y := fun q t Y hq h1 => (hq.below hb hq.lt).grown hg (own_blk_ne hoi' hq (Ne.symm h1))
  have r3 : ∀ (e : TypeId) (v : Value) (n : Nat) (xs : List Value), W.ownsRow base e 1 v n xs → e ≠ 121 → w3.ownsRow base e 1 v n xs := fun e v n xs ho h1 => by
    refine (own_below ho hb fun g hg => (ho.lt g hg).2).kept hg ?_
    rcases own_own_ne ho hoi' h1 with e1 | e1
    · exact .inl e1
    · exact .inr e1
  have hout3 := r3 _ _ _ _ h.out (by decide)
  rw [hAw] at hout3
  have hgo : Blk w3 go 113 _ := (own_blk7 hout3).choose_spec
  have far : ∀ q t Y, Blk W q t Y → t ≠ 121 → t ≠ 113 → Blk (w3.setCell ⟨go, i, none⟩ (.slice A ps.length c)) q t Y := fun q t Y hq h1 h2 => (k3 q t Y hq h1).far ((k3 q t Y hq h1).ne_ hgo h2) _
  have row : ∀ (e : TypeId) (v : Value) (n : Nat) (xs : List Value), W.ownsRow base e 1 v n xs → e ≠ 121 → e ≠ 113 → (w3.setCell ⟨go, i, none⟩ (.slice A ps.length c)).ownsRow base e 1 v n xs := fun e v n xs ho h1 h2 =>
    own_setCell (r3 e v n xs ho h1) _ (own_blk_ne (r3 e v n xs ho h1) hgo h2)
  have hbase : base ≤ go := by
    rcases hout3.2 with ⟨hv, _⟩ | ⟨g', cap', cur, hv, hb', _⟩
    · cases hv
    · injection hv with hA; injection hA with hA; injection hA with hA; subst hA; exact hb'
  have hbW : base ≤ W.heap.size := by have := h.lo.1; have := h.st.lt; omega
  have hpil3 : Piles w3 base (X.vs.set i (.slice A ps.length c)) (X.pss.set i ps) := by
    have hpa : Piles wa base X.vs X.pss := h.pil.keep fun q Y hq => hq.below hb hq.lt
    refine hpa.put hil hg ho ?_
    rcases hat with e | e
    · exact .inl e
    · exact .inr fun g hg2 => by rw [e] at hg2; injection hg2 with hg2; omega
  have hlen := h.pil.len
  refine ⟨⟨?_, far _ _ _ h.fol (by decide) (by decide), h.flen, row _ _ _ _ h.fnd (by decide) (by decide), ?_, hpil3.keep fun q Y hq => hq.far (hq.ne_ hgo (by decide)) _, ?_, fun p hp => ?_, ?_, h.lo, h.vb⟩, ⟨?_, fun q t Y hq h1 h2 h3 h4 h5 h6 => far q t Y hq h3 h4, ((Recs.of_below hb).trans (Recs.grown_row hg (own_below hoi' hb hlt))).trans (Recs.set _ _ _)⟩⟩
  · have := far _ _ _ h.st (by decide) (by decide)
    have e : (X.pile i (.slice A ps.length c) ps).head = X.head := by
      simp only [SX.head, SX.pile, SX.fv]
      rw [getD_set_other (show i ≠ 2 * X.V by omega), getD_set_other (show i ≠ 2 * X.V + 1 by omega)]
    rw [e]; exact this
  · show World.ownsRow _ base _ 1 (.slice X.Aw (2 * X.V) X.cw) (2 * X.V) ((X.vs.set i (.slice A ps.length c)).take (2 * X.V))
    rw [List.take_set, hAw]
    exact own_putv hout3 i _
  · exact ⟨by show (X.pss.set i ps).length = _; rw [List.length_set]; exact hnum, h.num.2⟩
  · obtain ⟨c1, c2, c3, c4⟩ := h.cl p hp
    exact ⟨far _ _ _ c1 (by decide) (by decide), c2, row _ _ _ _ c3 (by decide) (by decide), c4⟩
  · obtain ⟨D, n, hm, h2, h3, h4⟩ := h.map
    have hma : wa.ownsMap Tryz.prog 9 heldE X.m n D := by
      obtain ⟨es, clock, m1, m2⟩ := hm
      exact ⟨es, clock, (hb.block _ (Array.getElem?_eq_some_iff.1 m1).1).trans m1, m2⟩
    have hm3 : w3.ownsMap Tryz.prog 9 heldE X.m n D := hma.kept hg (own_map_ne7 hoi' hm)
    refine ⟨D, n, hm3.kept (grown_setCell w3 _ _) (fun e => blk_map_ne7 hgo hm3 (by simpa using e.symm)), h2, h3, fun k => ?_⟩
    rw [h4 k]
    show _ = DataW.held (match X.ks.findIdx? (· = k) with | some j => cutv ((X.vs.set i (.slice A ps.length c)).getD (2 * X.V + 2 + j) undef) (X.ko j) | none => .slice none 0 0)
    cases X.ks.findIdx? (· = k) with
    | none => rfl
    | some j =>
      dsimp only
      rw [getD_set_other (show i ≠ 2 * X.V + 2 + j by omega)]
  · refine (((hb.mono hbW).grown hg (Nat.le_trans hbW hb.size) fun g hg2 => ?_).setCell hbase _)
    rw [hvi] at hg2; exact (hoi.lt g hg2).1
end
theorem infoPtr7 : (Tryz.prog.info? 121).map (fun i => (i.zero, i.size, i.bytes)) = some (some (.pointer none), 1, 8) := by kernel_rfl
/-- what enlist leaves -/
def Enlisted (base : Nat) (X : SX) (fo : List Bool) (p i : Nat) (W : World) (e : Ending) (W' : World) : Prop :=
  e = .returned (.tuple #[]) ∧ ∃ A c, Sto W' base (X.pile i (.slice A (X.pss.getD i [] ++ [p]).length c) (X.pss.getD i [] ++ [p])) fo ∧ Tn base X W W'
set_option maxRecDepth 100000 in
set_option maxHeartbeats 1000000 in
theorem enlist_any {W : World} {base : Nat} {X : SX} {fo : List Bool} (h : Sto W base X fo) (p : Nat) (l : Int) (hl : Lt7 X.V l) (hn : (X.pss.getD (ix l) []).length ≤ 1000000000) :
    Calls Tryz.prog 62 #[.pointer (some ⟨X.s, 0, none⟩), .pointer (some ⟨p, 0, none⟩), .int .i64 l] W (Enlisted base X fo p (ix l) W) := by
  obtain ⟨i0, hi, hz0, hz1, hz2⟩ := info_parts infoPtr7
  have hvb := h.vb
  obtain ⟨e1, b1⟩ := ix_eq hl
  obtain ⟨c0, c5, c7, c8, cf⟩ := h.cells
  have hnum := h.num.1
  obtain ⟨go, hAw, hgo1, hgo2⟩ := own_addr h.out (by omega)
  obtain ⟨Ai, ci, hvi, hoi⟩ := h.pil.each (ix l) (by omega)
  have hout := h.out
  rw [hAw] at hout c5
  obtain ⟨Y, hY⟩ := own_blk7 hout
  have oc : W.cell? ⟨go, ix l, none⟩ = some (.slice Ai (X.pss.getD (ix l) []).length ci) := by
    rw [World.ownsRow.cellAt hout (ix l) (by omega), ← hvi]
    have hlen := h.pil.len
    simp [List.getD, List.getElem?_take, b1, show ix l < X.vs.length by omega]
  have ocf := hY.frozen (ix l)
  have hYi : Y[ix l]? = some (.slice Ai (X.pss.getD (ix l) []).length ci) := (hY.cell (ix l)).symm.trans oc
  obtain ⟨hl0, hl1, hl2⟩ := hl
  have HI := Lib.hid (fun w => index_any l w (by omega) (by omega))
  rw [e1] at HI
  have hs1 := h.st.lt
  have hbW : base ≤ W.heap.size := by have := h.lo.1; omega
  obtain ⟨i, hi'⟩ : ∃ i, i = ix l := ⟨_, rfl⟩
  obtain ⟨n, hn'⟩ : ∃ n, n = (X.pss.getD (ix l) []).length := ⟨_, rfl⟩
  obtain ⟨N, hN⟩ : ∃ N, N = 2 * X.V := ⟨_, rfl⟩
  have HNE := Lib.hid hn'
  rw [← hn'] at oc hn hYi
  rw [← hi'] at HI b1 oc ocf hYi
  rw [← hN] at c5 b1
  have HOI := Lib.hid hoi
  have HVI := Lib.hid hvi
  have HAW := Lib.hid hAw
  have HYY := Lib.hid hY
  have H := Lib.hid h
  have HII := Lib.hid hi'
  have HN := Lib.hid hN
  have hb1 : (i : Int) < (N : Int) := by omega
  clear h e1 hi' hn' hN hoi hvi hAw hout hY hnum c0 c7 c8 cf
  go_enter Tryz.func62, Tryz.ntmps62
  go_wp2_with fail
  refine (HI.out _).mono ?_
  rintro e w2 ⟨rfl, rfl⟩
  obtain ⟨wa, hwa⟩ : ∃ wa, wa = (W.alloc (.cells #[.pointer (some ⟨p, 0, none⟩)] 121)).drew := ⟨_, rfl⟩
  have hba : Below W.heap.size W wa := by rw [hwa]; exact ((Below.refl _ _).alloc (Nat.le_refl _) _).drew
  have ha2 : wa.ownsRow base 121 1 (.slice Ai n ci) n (ptrs7 (X.pss.getD (ix l) [])) := by rw [HNE.out]; exact own_below HOI.out hba fun g hg => (HOI.out.lt g hg).2
  have hac : wa.cell? ⟨W.heap.size, 0, none⟩ = some (.pointer (some ⟨p, 0, none⟩)) := by rw [hwa]; go_cell
  have has : wa.heap.size = W.heap.size + 1 := by rw [hwa]; simp
  have hay : Blk wa go 113 Y := HYY.out.below hba HYY.out.lt
  have HA2 := Lib.hid ha2
  have HAC := Lib.hid hac
  have HAS := Lib.hid has
  have HAY := Lib.hid hay
  have HAT := Lib.hid (H.out.st.below hba H.out.st.lt)
  have HC5 := Lib.hid c5
  have HBA := Lib.hid hba
  have HWA := Lib.hid hwa
  clear ha2 hac has hay hba hwa
  go_wp2
  go_region_law (first | (rw [← HWA.out]; refine step_append7 rfl (.tmp 20) (.tmp 22) 113 rfl base 121 i0 (.pointer none) 8 Tryz.underlying113 hi hz0 hz1 hz2 rfl (.slice Ai n ci) n _ rfl HA2.out (.pointer (some ⟨p, 0, none⟩)) W.heap.size rfl HAC.out rfl (by unfold maxLen; omega) (by omega) (by have := HAS.out; omega) ?_; intro v' w3 hown3 hg3 hat3; obtain ⟨A3, c3, hv3, -⟩ := own_slice hown3; subst hv3; have hbk3 := HAY.out.grown hg3 (own_blk_ne HA2.out HAY.out (by decide)); have dF := hbk3.frozen i; have dC := hbk3.cell i; have dS := ((HAT.out.grown hg3 (own_blk_ne HA2.out HAT.out (by decide))).cell 5).trans ((H.out.st.cell 5).symm.trans HC5.out); have HO3 := Lib.hid hown3; have HG3 := Lib.hid hg3; have HAT3 := Lib.hid hat3; clear hbk3 hown3 hg3 hat3))
  all_goals
    have HSTO := Lib.hid (H.out.piled (wa := wa) (w3 := w3) (i := ix l) (A := A3) (c := c3) (ps := X.pss.getD (ix l) [] ++ [p]) (by rw [← HII.out, ← HN.out]; exact b1) HAW.out HBA.out (by rw [HVI.out, ← HNE.out]; exact HG3.out)
      (by have := HO3.out; rw [show (X.pss.getD (ix l) [] ++ [p]).length = n + 1 by rw [HNE.out]; simp, show ptrs7 (X.pss.getD (ix l) [] ++ [p]) = ptrs7 (X.pss.getD (ix l) []) ++ [.pointer (some ⟨p, 0, none⟩)] by simp [ptrs7]]; exact this)
      (by rw [HVI.out, show (X.pss.getD (ix l) [] ++ [p]).length = n + 1 by rw [HNE.out]; simp, ← HNE.out]; exact HAT3.out))
    have hln : (X.pss.getD (ix l) [] ++ [p]).length = n + 1 := by rw [HNE.out]; simp
    rw [hln, ← HII.out] at HSTO
    go_end0
    refine ⟨rfl, A3, c3, ?_⟩
    rw [← HII.out] at hln ⊢
    rw [hln]
    exact HSTO.out
end Go.Proofs.YthcpfaahcncfjaaGreatDoor
