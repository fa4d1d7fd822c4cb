/- What is known after some lines of a text, in memory; an item taken. -/
import Derived.Test.YtnjcegjcaaplgaaGreatDoorHeader2
import Derived.Deep.RegionLawGrows
import Derived.WalkLawsBesides
namespace Go.Proofs.YtnjcegjcaaplgaaGreatDoor
open Go.RowKit
set_option linter.unusedSimpArgs false
set_option linter.unusedVariables false
set_option linter.unnecessarySimpa false

/-- append of one value in a block of its own, as one step of a region that draws -/
theorem step_append1 {P : Program} {ops : Array Oper} {o : Oper} {a : Act} {w : World} {K : Act → World → Prop} {Q : Exit → Act → World → Prop} {E : Prop}
    (hg : o.guard = none) (s x : Operand) (t : TypeId) (hop : o.op = Op.call { callee := Callee.builtin Builtin.append, args := #[s, x], argTypes := #[t, t] })
    (base : Nat) (e : TypeId) (i : TypeInfo) (z : Value) (bytes : Nat) (ht : P.underlying t = some (.slice e)) (hi : P.info? e = some i) (hz : i.zero = some z)
    (hsize : i.size = 1) (hby : i.bytes = bytes) (hzs : z.cells.size = 1)
    (v : Value) (n : Nat) (xs : List Value) (hs : a.eval s = v) (hown : w.ownsRow base e 1 v n xs)
    (u : Value) (g : Nat) (hx : a.eval x = .slice (some ⟨g, 0, none⟩) 1 1) (hc : w.cell? ⟨g, 0, none⟩ = some u) (h1 : u.oneCell' = true)
    (h63 : n + 1 ≤ maxLen) (hbytes : (n + 1) * bytes ≤ 140737488355328) (hbase : base ≤ w.heap.size)
    (hK : ∀ v' w', w'.ownsRow base e 1 v' (n + 1) (xs ++ [u]) → w.grownBy w' v.ownBlock → K (a.put o.dst v') w') :
    if Region.wanted o (yielded ops a.tmps) = true then Oper.wp P o a w K Q else E := by
  have hw : Region.wanted o (yielded ops a.tmps) = true := by simp [Region.wanted, hg]
  rw [if_pos hw]
  obtain ⟨v', w', hrun, h2, h3, _, h4⟩ := run_append_own_at (P := P) w base t o.type e i z 1 bytes ht hi hz hsize hby hzs (by decide) v n xs hown ⟨g, 0, none⟩ 1 1 [u] rfl
    (by intro j u' hu; match j, hu with | 0, hu => simp at hu; subst hu; simpa [Addr.add] using hc) (by intro u' hu; simp at hu; subst hu; exact h1) h63 hbytes hbase
  unfold Oper.wp
  simp [execOp, hop, resolve, invoke, builtin, hs, hx, hrun, Result.andThen]
  exact hK v' w' h2 h3

/-- the reader's block, and all that it holds -/
def RdAt (w : World) (base b : Nat) (r : Rd) : Prop :=
  ∃ (Af : Option Addr) (cf : Nat) (vs : List Value) (Ao : Option Addr) (co mid : Nat),
    Blk w b 48 #[.bool r.begun, .int .i64 r.stated, .int .i64 r.vars, .slice Af r.cls.length cf, .slice Ao r.opn.length co, .int .i64 r.lits] ∧
    w.ownsRow base 45 1 (.slice Af r.cls.length cf) r.cls.length vs ∧ OwnList w base 3 vs r.cls ∧ base ≤ mid ∧ mid ≤ w.heap.size ∧
    (∀ j g, j < r.cls.length → ((vs[j]?).getD undef).ownBlock = some g → g < mid) ∧ w.ownsRow mid 3 1 (.slice Ao r.opn.length co) r.opn.length (r.opn.map (Value.int .i64))

theorem RdAt.below {w w' : World} {base b B : Nat} {r : Rd} (h : RdAt w base b r) (hb : Below B w w') (hB : w.heap.size ≤ B) : RdAt w' base b r := by
  obtain ⟨Af, cf, vs, Ao, co, mid, h1, h2, h3, h4, h5, h6, h7⟩ := h
  exact ⟨Af, cf, vs, Ao, co, mid, h1.below hb (Nat.lt_of_lt_of_le h1.lt hB), own_below h2 hb (fun g hg => Nat.lt_of_lt_of_le (h2.lt g hg).2 hB), h3.below hb hB, h4, Nat.le_trans h5 hb.size, h6, own_below h7 hb (fun g hg => Nat.lt_of_lt_of_le (h7.lt g hg).2 hB)⟩
theorem RdAt.lt {w : World} {base b : Nat} {r : Rd} (h : RdAt w base b r) : b < w.heap.size := by
  obtain ⟨Af, cf, vs, Ao, co, mid, h1, _⟩ := h
  exact h1.lt
theorem RdAt.drewN {w : World} {base b : Nat} {r : Rd} (h : RdAt w base b r) (n : Nat) : RdAt (w.drewN n) base b r := by
  obtain ⟨Af, cf, vs, Ao, co, mid, h1, h2, h3, h4, h5, h6, h7⟩ := h
  exact ⟨Af, cf, vs, Ao, co, mid, h1, h2, ⟨h3.each, h3.ne⟩, h4, h5, h6, h7⟩

/-- what an item makes of the reader -/
def ItemPost (base b : Nat) (p : Rd × Int) (w : World) (e : Ending) (w' : World) : Prop := e = .returned (.int .i64 p.2) ∧ RdAt w' base b p.1 ∧ Below b w w'

theorem Tryz.infoInt3r : (Tryz.prog.info? 3).map (fun i => (i.zero, i.size, i.bytes)) = some (some (.int .i64 0), 1, 8) := by kernel_rfl
theorem Tryz.infoIntsr : (Tryz.prog.info? 45).map (fun i => (i.zero, i.size, i.bytes)) = some (some (.slice none 0 0), 1, 24) := by kernel_rfl

set_option maxRecDepth 100000 in
set_option maxHeartbeats 2000000 in
theorem takeItem_many (r : Rd) (n : Int) (base b : Nat) (w : World) (hr : RdAt w base b r) (hs : r.size ≤ 1099511627776) (he : (r.cls.length : Int) = r.stated) :
    Calls Tryz.prog 44 #[.pointer (some ⟨b, 0, none⟩), .int .i64 n] w (ItemPost base b (r, 5) w) := by
  have HR := Lib.hid hr
  obtain ⟨Af, cf, vs, Ao, co, mid, h1, _⟩ := hr
  have c1 := h1.cell 1
  have c3 := h1.cell 3
  simp at c1 c3
  rw [← he] at c1
  clear h1 he
  go_enter Tryz.func44, Tryz.ntmps44
  go_wp2
  go_quiet (fail)
  go_wp2
  go_ret
  exact ⟨rfl, HR.out.drewN _, below_drewN (Below.refl _ _) _⟩

set_option maxRecDepth 100000 in
set_option maxHeartbeats 2000000 in
theorem takeItem_zero (r : Rd) (base b : Nat) (w : World) (hr : RdAt w base b r) (hb0 : b < base) (hs : r.size ≤ 1099511627776) (he : (r.cls.length : Int) ≠ r.stated) :
    Calls Tryz.prog 44 #[.pointer (some ⟨b, 0, none⟩), .int .i64 0] w (ItemPost base b ({ r with cls := r.cls ++ [r.opn], opn := [] }, 0) w) := by
  obtain ⟨Af, cf, vs, Ao, co, mid, h1, h2, h3, h4, h5, h6, h7⟩ := hr
  have hsz : r.cls.length ≤ 1099511627776 := by unfold Rd.size at hs; omega
  have c1 := h1.cell 1
  have c3 := h1.cell 3
  have c4 := h1.cell 4
  have cF := h1.frozen
  simp at c1 c3 c4
  have hq : ((r.cls.length : Int) == r.stated) = false := beq_false_of_ne he
  have H1 := Lib.hid h1
  have H2 := Lib.hid h2
  have H3 := Lib.hid h3
  have H6 := Lib.hid h6
  have H7 := Lib.hid h7
  have hlt := h1.lt
  clear h1 h2 h3 h6 h7 he
  obtain ⟨i0', hi', hz0', hz1', hz2'⟩ := info_parts Tryz.infoIntsr
  go_enter Tryz.func44, Tryz.ntmps44
  go_wp2
  go_quiet (fail)
  go_wp2
  have HB1 : Below b w (w.drewN nq) := below_drewN (Below.refl _ _) _
  have H1' : Blk (w.drewN nq) b 48 #[.bool r.begun, .int .i64 r.stated, .int .i64 r.vars, .slice Af r.cls.length cf, .slice Ao r.opn.length co, .int .i64 r.lits] := H1.out
  have H2' := H2.out
  have H3' := H3.out
  have H7' := H7.out
  rw [show w.ownsRow base 45 1 (.slice Af r.cls.length cf) r.cls.length vs = (w.drewN nq).ownsRow base 45 1 (.slice Af r.cls.length cf) r.cls.length vs from rfl] at H2'
  have H3'' : OwnList (w.drewN nq) base 3 vs r.cls := ⟨H3'.each, H3'.ne⟩
  rw [show w.ownsRow mid 3 1 (.slice Ao r.opn.length co) r.opn.length (r.opn.map (Value.int .i64)) = (w.drewN nq).ownsRow mid 3 1 (.slice Ao r.opn.length co) r.opn.length (r.opn.map (Value.int .i64)) from rfl] at H7'
  have hlt' : b < (w.drewN nq).heap.size := hlt
  have h5' : mid ≤ (w.drewN nq).heap.size := h5
  have HBS : base ≤ (w.drewN nq).heap.size := Nat.le_trans h4 h5
  clear H1 H2 H3 H3' H7 c1 c3 c4 cF hlt h5
  generalize w.drewN nq = w1 at HB1 H1' H2' H3'' H7' hlt' h5' HBS
  have c1 := H1'.cell 1
  have c3 := H1'.cell 3
  have c4 := H1'.cell 4
  have cF := H1'.frozen 3
  simp at c1 c3 c4
  have H1 := Lib.hid H1'
  have H2 := Lib.hid H2'
  have H3 := Lib.hid H3''
  have H7 := Lib.hid H7'
  have HB := Lib.hid HB1
  clear H1' H2' H3'' H7' HB1
  obtain ⟨wa, hwa⟩ : ∃ wa, wa = (w1.alloc (.cells #[.slice Ao r.opn.length co] 45)).drew := ⟨_, rfl⟩
  have ha1 : Blk wa b 48 #[.bool r.begun, .int .i64 r.stated, .int .i64 r.vars, .slice Af r.cls.length cf, .slice Ao r.opn.length co, .int .i64 r.lits] := by rw [hwa]; exact H1.out.alloc _
  have ha2 : wa.ownsRow base 45 1 (.slice Af r.cls.length cf) r.cls.length vs := by rw [hwa]; exact H2.out.alloc _
  have hac : wa.cell? ⟨w1.heap.size, 0, none⟩ = some (.slice Ao r.opn.length co) := by rw [hwa]; go_cell
  have has : wa.heap.size = w1.heap.size + 1 := by rw [hwa]; simp
  have HA1 := Lib.hid ha1
  have HA2 := Lib.hid ha2
  have HAC := Lib.hid hac
  have HAS := Lib.hid has
  have HWA := Lib.hid hwa
  clear ha1 ha2 hac has hwa
  go_region_law (first | (rw [← HWA.out]; refine step_append1 rfl (.tmp 25) (.tmp 30) 26 rfl base 45 i0' (.slice none 0 0) 24 Tryz.underlying26 hi' hz0' hz1' hz2' rfl (.slice Af r.cls.length cf) r.cls.length vs rfl HA2.out (.slice Ao r.opn.length co) w1.heap.size rfl HAC.out rfl (by unfold maxLen; omega) (by omega) (by have := HAS.out; have := HBS; omega) ?_; intro v' w3 hown3 hg3; obtain ⟨A3, c3', hv3, -⟩ := own_slice hown3; subst hv3; have hbk3 := HA1.out.grown hg3 (own_blk_ne HA2.out HA1.out (by decide)); have d3 := hbk3.cell 3; have dF := hbk3.frozen 3; simp at d3; have HBK3 := Lib.hid hbk3; have HO3 := Lib.hid hown3; have HG3 := Lib.hid hg3; clear hbk3 hown3 hg3))
  all_goals
    have hbk4 := HBK3.out.set_ 3 (.slice A3 (r.cls.length + 1) c3')
    simp at hbk4
    have d4 := hbk4.cell 4
    have dF4 := hbk4.frozen 4
    simp at d4
    have HBK4 := Lib.hid hbk4
    clear hbk4 c1 c3 c4 cF d3 dF
    go_wp2
    go_ret
    have hwa := HWA.out
    have hla : OwnList wa base 3 vs r.cls := by rw [hwa]; have := H3.out.kept (World.grownBy_alloc w1 (.cells #[.slice Ao r.opn.length co] 45) none) (fun _ _ _ _ h => by cases h); exact ⟨this.each, this.ne⟩
    have hoa : wa.ownsRow mid 3 1 (.slice Ao r.opn.length co) r.opn.length (r.opn.map (Value.int .i64)) := by rw [hwa]; exact H7.out.alloc _
    have hl3 := hla.kept HG3.out (hla.ne_outer HA2.out (by decide))
    have ho3 := hoa.kept HG3.out (own_own_ne hoa HA2.out (by decide))
    have hvl : vs.length = r.cls.length := by have := H2.out.1; omega
    have hl4 := hl3.snoc hvl ho3 h4 H6.out
    have hb3 := HBK3.out
    have hl5 := hl4.kept (grown_setCell w3 ⟨b, 3, none⟩ (.slice A3 (r.cls.length + 1) c3')) (hl4.ne_blk hb3 (by decide))
    have hl6 := hl5.kept (grown_setCell _ ⟨b, 4, none⟩ (.slice none 0 0)) (hl5.ne_blk HBK4.out (by decide))
    have ho4 := own_setCell HO3.out (.slice A3 (r.cls.length + 1) c3') (p := ⟨b, 3, none⟩) (own_blk_ne HO3.out hb3 (by decide))
    have ho5 := own_setCell ho4 (.slice none 0 0) (p := ⟨b, 4, none⟩) (own_blk_ne ho4 HBK4.out (by decide))
    have hbel : Below b w wa := by rw [hwa]; have h9 := HB.out.alloc (by omega) (.cells #[.slice Ao r.opn.length co] 45); exact ⟨h9.os, h9.tape, h9.output, h9.size, h9.block⟩
    have hbel3 := hbel.grown HG3.out (by have := HA1.out.lt; omega) (fun g hg => by have := (HA2.out.lt g hg).1; omega)
    have e1 : (r.cls ++ [r.opn]).length = r.cls.length + 1 := by simp
    have e2 : ({ r with cls := r.cls ++ [r.opn], opn := [] } : Rd).lits = r.lits := by unfold Rd.lits litCount; simp
    refine ⟨rfl, ⟨A3, c3', vs ++ [.slice Ao r.opn.length co], none, 0, _, ?_, ?_, hl6, ?_, Nat.le_refl _, ?_, World.ownsRow_nil _ _ _ _⟩, (hbel3.setCell (by simp) _).setCell (by simp) _⟩
    · have := HBK4.out.set_ 4 (.slice none 0 0)
      rw [e2]
      simpa using this
    · simp only [e1]; exact ho5
    · have := (HA2.out).1
      have := HG3.out.size
      have := HAS.out
      simp; omega
    · intro j g hj hg
      exact (hl6.lt hj hg).2

set_option maxRecDepth 100000 in
set_option maxHeartbeats 2000000 in
theorem takeItem_range (r : Rd) (n : Int) (base b : Nat) (w : World) (hr : RdAt w base b r) (hs : r.size ≤ 1099511627776) (hn1 : -999999999 ≤ n) (hn2 : n ≤ 999999999) (h0 : n ≠ 0) (he : (r.cls.length : Int) ≠ r.stated) (hv : r.vars < (n.natAbs : Int)) :
    Calls Tryz.prog 44 #[.pointer (some ⟨b, 0, none⟩), .int .i64 n] w (ItemPost base b (r, 4) w) := by
  have HR := Lib.hid hr
  obtain ⟨Af, cf, vs, Ao, co, mid, h1, _⟩ := hr
  have c1 := h1.cell 1
  have c2 := h1.cell 2
  have c3 := h1.cell 3
  simp at c1 c2 c3
  have hq : ((r.cls.length : Int) == r.stated) = false := beq_false_of_ne he
  have hz : (n == 0) = false := beq_false_of_ne h0
  clear h1 he
  have hv' : r.vars < max n (-n) := by omega
  clear hv
  go_enter Tryz.func44, Tryz.ntmps44
  go_wp2
  go_quiet (fail)
  go_wp2
  go_ret
  exact ⟨rfl, HR.out.drewN _, below_drewN (Below.refl _ _) _⟩

set_option maxRecDepth 100000 in
set_option maxHeartbeats 2000000 in
theorem takeItem_full (r : Rd) (n : Int) (base b : Nat) (w : World) (hr : RdAt w base b r) (hs : r.size ≤ 1099511627776) (hn1 : -999999999 ≤ n) (hn2 : n ≤ 999999999) (h0 : n ≠ 0) (he : (r.cls.length : Int) ≠ r.stated) (hv : ¬ r.vars < (n.natAbs : Int)) (hf : r.lits = 1000000) :
    Calls Tryz.prog 44 #[.pointer (some ⟨b, 0, none⟩), .int .i64 n] w (ItemPost base b (r, 8) w) := by
  have HR := Lib.hid hr
  obtain ⟨Af, cf, vs, Ao, co, mid, h1, -⟩ := hr
  have c1 := h1.cell 1
  have c2 := h1.cell 2
  have c3 := h1.cell 3
  have c5 := h1.cell 5
  simp at c1 c2 c3 c5
  rw [hf] at c5
  have hq : ((r.cls.length : Int) == r.stated) = false := beq_false_of_ne he
  have hz : (n == 0) = false := beq_false_of_ne h0
  have hv' : ¬ r.vars < max n (-n) := by omega
  clear h1 he hf hv
  go_enter Tryz.func44, Tryz.ntmps44
  go_wp2
  go_quiet (fail)
  go_wp2
  go_ret
  exact ⟨rfl, HR.out.drewN _, below_drewN (Below.refl _ _) _⟩

set_option maxRecDepth 100000 in
set_option maxHeartbeats 2000000 in
theorem takeItem_add (r : Rd) (n : Int) (base b : Nat) (w : World) (hr : RdAt w base b r) (hb0 : b < base) (hs : r.size ≤ 1099511627776) (hn1 : -999999999 ≤ n) (hn2 : n ≤ 999999999) (h0 : n ≠ 0) (he : (r.cls.length : Int) ≠ r.stated) (hv : ¬ r.vars < (n.natAbs : Int)) (hf : r.lits ≠ 1000000) :
    Calls Tryz.prog 44 #[.pointer (some ⟨b, 0, none⟩), .int .i64 n] w (ItemPost base b ({ r with opn := r.opn ++ [n] }, 0) w) := by
  obtain ⟨Af, cf, vs, Ao, co, mid, h1, h2, h3, h4, h5, h6, h7⟩ := hr
  have hsz : r.opn.length ≤ 1099511627776 := by unfold Rd.size Rd.lits at hs; omega
  have hsz2 : r.lits ≤ 1099511627776 := by unfold Rd.size at hs; omega
  have c1 := h1.cell 1
  have c2 := h1.cell 2
  have c3 := h1.cell 3
  have c4 := h1.cell 4
  have c5 := h1.cell 5
  simp at c1 c2 c3 c4 c5
  have hq : ((r.cls.length : Int) == r.stated) = false := beq_false_of_ne he
  have hz : (n == 0) = false := beq_false_of_ne h0
  have hv' : ¬ r.vars < max n (-n) := by omega
  have hf' : ((r.lits : Int) == 1000000) = false := beq_false_of_ne (by omega)
  have H1 := Lib.hid h1
  have H2 := Lib.hid h2
  have H3 := Lib.hid h3
  have H6 := Lib.hid h6
  have H7 := Lib.hid h7
  have hlt := h1.lt
  clear h1 h2 h3 h6 h7 he hf hv
  obtain ⟨i0', hi', hz0', hz1', hz2'⟩ := info_parts Tryz.infoInt3r
  go_enter Tryz.func44, Tryz.ntmps44
  go_wp2
  go_quiet (fail)
  have HB1 : Below b w (w.drewN nq) := below_drewN (Below.refl _ _) _
  have H1' : Blk (w.drewN nq) b 48 #[.bool r.begun, .int .i64 r.stated, .int .i64 r.vars, .slice Af r.cls.length cf, .slice Ao r.opn.length co, .int .i64 r.lits] := H1.out
  have H2' := H2.out
  have H3' := H3.out
  have H7' := H7.out
  rw [show w.ownsRow base 45 1 (.slice Af r.cls.length cf) r.cls.length vs = (w.drewN nq).ownsRow base 45 1 (.slice Af r.cls.length cf) r.cls.length vs from rfl] at H2'
  have H3'' : OwnList (w.drewN nq) base 3 vs r.cls := ⟨H3'.each, H3'.ne⟩
  rw [show w.ownsRow mid 3 1 (.slice Ao r.opn.length co) r.opn.length (r.opn.map (Value.int .i64)) = (w.drewN nq).ownsRow mid 3 1 (.slice Ao r.opn.length co) r.opn.length (r.opn.map (Value.int .i64)) from rfl] at H7'
  have hlt' : b < (w.drewN nq).heap.size := hlt
  have h5' : mid ≤ (w.drewN nq).heap.size := h5
  have HBS : base ≤ (w.drewN nq).heap.size := Nat.le_trans h4 h5
  clear H1 H2 H3 H3' H7 c1 c2 c3 c4 c5 hlt h5
  generalize w.drewN nq = w1 at HB1 H1' H2' H3'' H7' hlt' h5' HBS
  have c2 := H1'.cell 2
  have c4 := H1'.cell 4
  have c5 := H1'.cell 5
  simp at c2 c4 c5
  have H1 := Lib.hid H1'
  have H2 := Lib.hid H2'
  have H3 := Lib.hid H3''
  have H7 := Lib.hid H7'
  have HB := Lib.hid HB1
  clear H1' H2' H3'' H7' HB1
  go_wp2_with (at_builtin; refine wpList_append1 _ rfl _ _ 45 rfl mid 3 i0' (.int .i64 0) 8 Tryz.underlying45 hi' hz0' hz1' hz2' rfl _ _ _ rfl (H7.out.alloc _) (.int .i64 n) w1.heap.size rfl (by go_cell) rfl (by unfold maxLen; omega) (by omega) (by simp; omega) ?_)
  intro v' w3 hown3 hg3 hob3
  obtain ⟨A3, c3', hv3, -⟩ := own_slice hown3
  subst hv3
  have hoa := H7.out.alloc (.cells #[.int .i64 n] 3)
  have hbk3 := (H1.out.alloc (.cells #[.int .i64 n] 3)).grown hg3 (own_blk_ne hoa (H1.out.alloc (.cells #[.int .i64 n] 3)) (by decide))
  have hbk4 := hbk3.set_ 4 (.slice A3 (r.opn.length + 1) c3')
  simp at hbk4
  clear c2 c4 c5 hob3
  have d4 := hbk3.cell 4
  have d5 := hbk4.cell 5
  have dF := hbk3.frozen 4
  have dF5 := hbk4.frozen 5
  simp at d4 d5
  have HBK3 := Lib.hid hbk3
  have HBK4 := Lib.hid hbk4
  have HO3 := Lib.hid hown3
  have HG3 := Lib.hid hg3
  have HOA := Lib.hid hoa
  clear hbk3 hbk4 hown3 hg3 hoa
  go_wp2
  go_ret
  have hla := H3.out.kept (World.grownBy_alloc w1 (.cells #[.int .i64 n] 3) none) (fun _ _ _ _ h => by cases h)
  have hne : ∀ j g, j < r.cls.length → ((vs[j]?).getD undef).ownBlock = some g → some g ≠ (Value.slice Ao r.opn.length co).ownBlock := by
    intro j g hj hg he
    have h8 := H6.out j g hj hg
    have h9 := (H7.out.lt g he.symm).1
    omega
  have hl3 := hla.kept HG3.out hne
  have hl5 := hl3.kept (grown_setCell w3 ⟨b, 4, none⟩ (.slice A3 (r.opn.length + 1) c3')) (hl3.ne_blk HBK3.out (by decide))
  have hl6 := hl5.kept (grown_setCell _ ⟨b, 5, none⟩ (.int .i64 ((r.lits : Int) + 1))) (hl5.ne_blk HBK4.out (by decide))
  have hoc := (H2.out.alloc (.cells #[.int .i64 n] 3)).kept HG3.out (own_own_ne (H2.out.alloc (.cells #[.int .i64 n] 3)) HOA.out (by decide))
  have hoc4 := own_setCell hoc (.slice A3 (r.opn.length + 1) c3') (p := ⟨b, 4, none⟩) (own_blk_ne hoc HBK3.out (by decide))
  have hoc5 := own_setCell hoc4 (.int .i64 ((r.lits : Int) + 1)) (p := ⟨b, 5, none⟩) (own_blk_ne hoc4 HBK4.out (by decide))
  have ho4 := own_setCell HO3.out (.slice A3 (r.opn.length + 1) c3') (p := ⟨b, 4, none⟩) (own_blk_ne HO3.out HBK3.out (by decide))
  have ho5 := own_setCell ho4 (.int .i64 ((r.lits : Int) + 1)) (p := ⟨b, 5, none⟩) (own_blk_ne ho4 HBK4.out (by decide))
  have hbel3 := (HB.out.alloc (by omega) (.cells #[.int .i64 n] 3)).grown HG3.out (by simp; omega) (fun g hg => by have := (H7.out.lt g hg).1; omega)
  have e2 : ((({ r with opn := r.opn ++ [n] } : Rd).lits : Nat) : Int) = (r.lits : Int) + 1 := by unfold Rd.lits; simp; omega
  refine ⟨rfl, ⟨Af, cf, vs, A3, c3', mid, ?_, hoc5, hl6, h4, ?_, H6.out, ?_⟩, (hbel3.setCell (by simp) _).setCell (by simp) _⟩
  · have := HBK4.out.set_ 5 (.int .i64 ((r.lits : Int) + 1))
    rw [e2]
    simpa using this
  · have := HG3.out.size
    simp at this
    simp; omega
  · simpa using ho5

/-- what an item makes of the reader, whatever it is -/
theorem takeItem_any (r : Rd) (n : Int) (base b : Nat) (w : World) (hr : RdAt w base b r) (hb0 : b < base) (hs : r.size ≤ 1099511627776) (hn1 : -999999999 ≤ n) (hn2 : n ≤ 999999999) :
    Calls Tryz.prog 44 #[.pointer (some ⟨b, 0, none⟩), .int .i64 n] w (ItemPost base b (takeItem r n) w) := by
  unfold takeItem
  by_cases he : (r.cls.length : Int) = r.stated
  · rw [if_pos he]; exact takeItem_many r n base b w hr hs he
  · rw [if_neg he]
    by_cases h0 : n = 0
    · rw [if_pos h0]; subst h0; exact takeItem_zero r base b w hr hb0 hs he
    · rw [if_neg h0]
      by_cases hv : r.vars < (n.natAbs : Int)
      · rw [if_pos hv]; exact takeItem_range r n base b w hr hs hn1 hn2 h0 he hv
      · rw [if_neg hv]
        by_cases hf : r.lits = 1000000
        · rw [if_pos hf]; exact takeItem_full r n base b w hr hs hn1 hn2 h0 he hv hf
        · rw [if_neg hf]; exact takeItem_add r n base b w hr hb0 hs hn1 hn2 h0 he hv hf
end Go.Proofs.YtnjcegjcaaplgaaGreatDoor
