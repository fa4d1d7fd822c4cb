/- Two proofs' texts, and bytes, one behind the other are those of both. -/
import Derived.Test.YtdehlikmefpgnaaDoorSames06
import Derived.Deep.Slices
namespace Go.Proofs.YtdehlikmefpgnaaDoor
open Go.RowKit
set_option linter.unusedSimpArgs false
set_option linter.unusedVariables false
set_option linter.unnecessarySimpa false

/-- the cells of a row of steps, and what they read as -/
structure RdRows (w : World) (B : Nat) (vs : List Value) (ps : List Stp) : Prop where
  each : ∀ j, j < ps.length → ∃ Aj cj, vs[j * 2]? = some (.bool (ps.getD j stp0).1) ∧ vs[j * 2 + 1]? = some (.slice Aj (ps.getD j stp0).2.length cj) ∧ Ints w B Aj (ps.getD j stp0).2
theorem RdRows.below {w w' : World} {B : Nat} {vs : List Value} {ps : List Stp} (h : RdRows w B vs ps) (hb : Below B w w') : RdRows w' B vs ps := ⟨fun j hj => by
  obtain ⟨Aj, cj, h1, h2, h3⟩ := h.each j hj
  exact ⟨Aj, cj, h1, h2, Cells.below h3 hb⟩⟩
theorem RdRows.more {w : World} {B B' : Nat} {vs : List Value} {ps : List Stp} (h : RdRows w B vs ps) (hB : B ≤ B') : RdRows w B' vs ps := ⟨fun j hj => by
  obtain ⟨Aj, cj, h1, h2, h3⟩ := h.each j hj
  exact ⟨Aj, cj, h1, h2, Cells.more h3 hB⟩⟩
theorem RdRows.append {w : World} {B : Nat} {vs us : List Value} {ps qs : List Stp} (h : RdRows w B vs ps) (hv : vs.length = ps.length * 2) (h' : RdRows w B us qs) : RdRows w B (vs ++ us) (ps ++ qs) := ⟨fun j hj => by
  rcases Nat.lt_or_ge j ps.length with hlt | hge
  · obtain ⟨Aj, cj, h1, h2, h3⟩ := h.each j hlt
    have e : (ps ++ qs).getD j stp0 = ps.getD j stp0 := by simp [List.getD, List.getElem?_append_left hlt]
    rw [e]
    exact ⟨Aj, cj, by rw [List.getElem?_append_left (by omega)]; exact h1, by rw [List.getElem?_append_left (by omega)]; exact h2, h3⟩
  · rw [List.length_append] at hj
    obtain ⟨Aj, cj, h1, h2, h3⟩ := h'.each (j - ps.length) (by omega)
    have e : (ps ++ qs).getD j stp0 = qs.getD (j - ps.length) stp0 := by simp [List.getD, List.getElem?_append_right hge]
    rw [e]
    refine ⟨Aj, cj, ?_, ?_, h3⟩
    · rw [List.getElem?_append_right (by omega), hv, show j * 2 - ps.length * 2 = (j - ps.length) * 2 by omega]; exact h1
    · rw [List.getElem?_append_right (by omega), hv, show j * 2 + 1 - ps.length * 2 = (j - ps.length) * 2 + 1 by omega]; exact h2⟩
theorem RdRows.steps {w : World} {B base e c : Nat} {A : Option Addr} {vs : List Value} {ps : List Stp} (h : RdRows w B vs ps) (hB : B ≤ w.heap.size) (ho : w.ownsRow base e 2 (.slice A ps.length c) ps.length vs) : Steps w w.heap.size A ps := by
  intro hn
  rcases ho.2 with ⟨hv, h0⟩ | ⟨g, cap, cur, hv, hb, hg, h1, h2, h3, h4⟩
  · omega
  · injection hv with hA _ _
    subst hA
    refine ⟨g, 0, rfl, (Array.getElem?_eq_some_iff.1 hg).1, fun j hj => ?_⟩
    obtain ⟨Aj, cj, e1, e2, e3⟩ := h.each j hj
    have cellAt : ∀ i u, vs[i]? = some u → w.cell? ⟨g, 0 + i, none⟩ = some u := fun i u hu => by
      have hb2 : Blk w g e cur := hg
      rw [hb2.cell, Nat.zero_add]
      rw [← h4, List.getElem?_take] at hu
      split at hu
      · simpa using hu
      · cases hu
    refine ⟨Aj, cj, cellAt _ _ e1, ?_, Cells.more e3 hB⟩
    have := cellAt _ _ e2
    rwa [show 0 + (j * 2 + 1) = 0 + j * 2 + 1 by omega] at this
/-- steps that read, as a row of cells -/
theorem rows_of_steps {w : World} {B : Nat} {A : Option Addr} {ps : List Stp} (h : Steps w B A ps) : ∃ vs : List Value, vs.length = ps.length * 2 ∧ RdRows w B vs ps ∧ (∀ u ∈ vs, u.oneCell' = true) ∧
    (0 < ps.length → ∃ b off, A = some ⟨b, off, none⟩ ∧ ∀ j u, vs[j]? = some u → w.cell? ⟨b, off + j, none⟩ = some u) := by
  by_cases h0 : 0 < ps.length
  · obtain ⟨b, off, rfl, hb, hc⟩ := h h0
    have each : ∀ j, j < ps.length → ∃ y : Option Addr × Nat, w.cell? ⟨b, off + j * 2, none⟩ = some (.bool (ps.getD j stp0).1) ∧ w.cell? ⟨b, off + j * 2 + 1, none⟩ = some (.slice y.1 (ps.getD j stp0).2.length y.2) ∧ Ints w B y.1 (ps.getD j stp0).2 := fun j hj => by
      obtain ⟨Aj, cj, h1, h2, h3⟩ := hc j hj
      exact ⟨(Aj, cj), h1, h2, h3⟩
    obtain ⟨y, hy⟩ := Deep.choose_lt each
    have get : ∀ i, i < ps.length * 2 → ((List.range (ps.length * 2)).map fun i => if i % 2 = 0 then Value.bool (ps.getD (i / 2) stp0).1 else .slice (y (i / 2)).1 (ps.getD (i / 2) stp0).2.length (y (i / 2)).2)[i]? =
        some (if i % 2 = 0 then Value.bool (ps.getD (i / 2) stp0).1 else .slice (y (i / 2)).1 (ps.getD (i / 2) stp0).2.length (y (i / 2)).2) := fun i hi => by rw [List.getElem?_map, List.getElem?_range hi]; rfl
    refine ⟨(List.range (ps.length * 2)).map fun i => if i % 2 = 0 then Value.bool (ps.getD (i / 2) stp0).1 else .slice (y (i / 2)).1 (ps.getD (i / 2) stp0).2.length (y (i / 2)).2, by simp, ⟨fun j hj => ?_⟩, fun u hu => ?_, fun _ => ⟨b, off, rfl, fun i u hu => ?_⟩⟩
    · refine ⟨(y j).1, (y j).2, ?_, ?_, (hy j hj).2.2⟩
      · rw [get _ (by omega), if_pos (by omega), show j * 2 / 2 = j by omega]
      · rw [get _ (by omega), if_neg (by omega), show (j * 2 + 1) / 2 = j by omega]
    · obtain ⟨i, _, rfl⟩ := List.mem_map.1 hu
      split <;> rfl
    · have hi : i < ps.length * 2 := by
        rcases Nat.lt_or_ge i (ps.length * 2) with h9 | h9
        · exact h9
        · rw [List.getElem?_eq_none (by simp; omega)] at hu; cases hu
      rw [get i hi] at hu
      injection hu with hu
      subst hu
      obtain ⟨h1, h2, _⟩ := hy (i / 2) (by omega)
      split
      · rw [show off + i = off + i / 2 * 2 by omega]; exact h1
      · rw [show off + i = off + i / 2 * 2 + 1 by omega]; exact h2
  · have hp : ps = [] := List.eq_nil_of_length_eq_zero (by omega)
    subst hp
    exact ⟨[], rfl, ⟨fun j hj => absurd hj (by simp)⟩, by simp, fun h => absurd h (by simp)⟩

/-- append of a whole row of steps, nil and empty ones too -/
theorem wpList_append_rows {P : Program} (w : World) {ops : Array Oper} {rest : List Oper} {o : Oper} {a : Act} {Q : Exit → Act → World → Prop} (hgd : o.guard = none) (s x : Operand) (t : TypeId)
    (ho : o.op = .call { callee := .builtin .append, args := #[s, x], argTypes := #[t, t] })
    (base : Nat) (e : TypeId) (i : TypeInfo) (z : Value) (bytes : Nat) (ht : P.underlying t = some (.slice e)) (hi : P.info? e = some i) (hz : i.zero = some z)
    (hsize : i.size = 2) (hby : i.bytes = bytes) (hzs : z.cells.size = 2)
    (v : Value) (n : Nat) (xs : List Value) (hs : a.eval s = v) (hown : w.ownsRow base e 2 v n xs)
    (A : Option Addr) (m c : Nat) (news : List Value) (hx : a.eval x = .slice A m c) (hl : news.length = m * 2) (h1 : ∀ u ∈ news, u.oneCell' = true)
    (hc : 0 < m → ∃ b off, A = some ⟨b, off, none⟩ ∧ ∀ j u, news[j]? = some u → w.cell? ⟨b, off + j, none⟩ = some u)
    (h63 : n + m ≤ maxLen) (hbytes : (n + m) * bytes ≤ 140737488355328) (hbase : base ≤ w.heap.size)
    (h : ∀ v' w', w'.ownsRow base e 2 v' (n + m) (xs ++ news) → w.grownBy w' v.ownBlock → wpList P ops Q rest (a.put o.dst v') w') :
    wpList P ops Q (o :: rest) a w := by
  have key : ∃ v' w', (Builtin.append_ #[t, t] o.type #[v, .slice A m c]).run P w = .ok v' w' ∧ w'.ownsRow base e 2 v' (n + m) (xs ++ news) ∧ w.grownBy w' v.ownBlock := by
    rcases Nat.eq_zero_or_pos m with h0 | h0
    · subst h0
      have hn : news = [] := List.eq_nil_of_length_eq_zero (by omega)
      subst hn
      refine ⟨v, w, ?_, by simpa using hown, World.grownBy.refl w _⟩
      rcases A with _ | ad
      · rcases hown.2 with ⟨rfl, rfl⟩ | ⟨g, cap, cur, rfl, _, _, hnc, _⟩
        · simp [Builtin.append_, run_underlying ht, sizeOf, typeInfo, hi, Builtin.lenOf, Builtin.firstCells]
        · simp [Builtin.append_, run_underlying ht, sizeOf, typeInfo, hi, Builtin.lenOf, Builtin.firstCells, hnc, storeCells]
      · rcases hown.2 with ⟨rfl, rfl⟩ | ⟨g, cap, cur, rfl, _, _, hnc, _⟩
        · simp [Builtin.append_, run_underlying ht, sizeOf, typeInfo, hi, Builtin.lenOf, Builtin.firstCells, loadCells, loadCellsFrom]
        · simp [Builtin.append_, run_underlying ht, sizeOf, typeInfo, hi, Builtin.lenOf, Builtin.firstCells, hnc, storeCells, loadCells, loadCellsFrom]
    · obtain ⟨b, off, rfl, hcell⟩ := hc h0
      obtain ⟨v', w', hrun, h2, h3, _, h4⟩ := run_append_own_at (P := P) w base t o.type e i z 2 bytes ht hi hz hsize hby hzs (by decide) v n xs hown ⟨b, off, none⟩ m c news hl
        (by intro j u hu; rw [show (Addr.mk b off none).add j = ⟨b, off + j, none⟩ by unfold Addr.add; split <;> simp_all]; exact hcell j u hu) h1 h63 hbytes hbase
      exact ⟨v', w', hrun, h2, h3⟩
  obtain ⟨v', w', hrun, h2, h3⟩ := key
  refine wpList_plain hgd fun _ hK => ?_
  unfold Oper.wp execOp
  simp only [ho, resolve, invoke, builtin, Sem.run_bind, Sem.run_pure, Result.andThen_ok, List.map_toArray, List.map_cons, List.map_nil, hs, hx, hrun]
  exact hK _ _ (h v' w' h2 h3)

set_option maxRecDepth 100000 in
set_option maxHeartbeats 8000000 in
theorem joins6_any (xs ys : List Stp) (c d : Nat) (A D : Option Addr) (m : Int) (w : World) (hE : EnvN m w) (h : KSteps .i32 w w.heap.size A xs) (hl : xs.length ≤ 140737488355328) (hx : ∀ j, (xs.getD j stp0).2.length ≤ 140737488355328)
    (hb : ∀ j i, -2147483648 ≤ (xs.getD j stp0).2.getD i 0 ∧ (xs.getD j stp0).2.getD i 0 ≤ 2147483647)
    (h' : KSteps .i32 w w.heap.size D ys) (hl' : ys.length ≤ 140737488355328) (hx' : ∀ j, (ys.getD j stp0).2.length ≤ 140737488355328)
    (hb' : ∀ j i, -2147483648 ≤ (ys.getD j stp0).2.getD i 0 ∧ (ys.getD j stp0).2.getD i 0 ≤ 2147483647) :
    Calls Tryd.prog 8 #[.slice A xs.length c, .slice D ys.length d] w fun e w' => e = .returned (.bool true) ∧ Below w.heap.size w w' := by
  obtain ⟨i0, hi, hz0, hz1, hz2⟩ := info_parts Tryd.infoStep
  obtain ⟨j0, hj, hy0, hy1, hy2⟩ := info_parts Tryd.infoByte
  have FT := Lib.hid (fit06_any m w hE)
  have HE := Lib.hid hE
  have H := Lib.hid h
  have HX := Lib.hid hx
  have HBD := Lib.hid hb
  have H' := Lib.hid h'
  have HX' := Lib.hid hx'
  have HBD' := Lib.hid hb'
  clear hE h hx hb h' hx' hb'
  go_enter Tryd.func8, Tryd.ntmps8
  go_wp2_with fail
  refine FT.out.mono ?_
  rintro e w1 ⟨rfl, hb1⟩
  have HB1 := Lib.hid hb1
  have hs1 := hb1.size
  have SM := Lib.hid (small6_any xs w.heap.size c A w1 (H.out.below hb1) hs1 hl HX.out)
  clear FT hb1
  go_wp2_with fail
  refine SM.out.mono ?_
  rintro e w2 ⟨q, rfl, hq, hb2⟩
  have HB2 := Lib.hid (HB1.out.trans (hb2.mono hs1))
  clear hb2 SM
  cases q with
  | false =>
    clear hq
    go_wp2
    go_ret
    exact ⟨rfl, HB2.out⟩
  | true =>
    have hw := hq rfl
    have HW := Lib.hid hw
    have SM := Lib.hid (small6_any ys w.heap.size d D w2 (H'.out.below HB2.out) HB2.out.size hl' HX'.out)
    clear hq hw
    go_wp2_with fail
    refine SM.out.mono ?_
    rintro e w3 ⟨q, rfl, hq, hb3⟩
    have HB3 := Lib.hid (HB2.out.trans (hb3.mono HB2.out.size))
    clear hb3 SM
    cases q with
    | false =>
      clear hq
      go_wp2
      go_ret
      exact ⟨rfl, HB3.out⟩
    | true =>
      have hw := hq rfl
      have PR := Lib.hid (proof_at (c := c) (H.out.below HB3.out) HB3.out.size HW.out HBD.out)
      have PR' := Lib.hid (fun w4 (hb4 : Below w.heap.size w w4) => proof_at (c := d) (H'.out.below hb4) hb4.size hw HBD'.out)
      have hwp : weight (litsOf xs) ≤ 400 := by rw [litsOf_weight]; exact HW.out
      have hwq : weight (litsOf ys) ≤ 400 := by rw [litsOf_weight]; exact hw
      generalize litsOf xs = ps at PR hwp
      generalize litsOf ys = qs at PR' hwq
      have HWP := Lib.hid hwp
      have HWQ := Lib.hid hwq
      clear hq hw hwp hwq
      go_wp2_with fail
      refine PR.out.mono ?_
      rintro e w4 ⟨Ap, cp, rfl, hlp, _, hb4⟩
      have HB4 := Lib.hid (HB3.out.trans (hb4.mono HB3.out.size))
      have HP4 := Lib.hid hlp
      have PR2 := Lib.hid (PR'.out w4 HB4.out)
      clear hlp hb4 PR PR'
      go_wp2_with fail
      refine PR2.out.mono ?_
      rintro e w5 ⟨Aq, cq, rfl, hlq, _, hb5⟩
      have HB5 := Lib.hid (HB4.out.trans (hb5.mono HB4.out.size))
      have HP5 := Lib.hid (HP4.out.later hb5)
      have HQ5 := Lib.hid hlq
      clear hlq hb5 PR2 HP4
      have hrp := rows_of_steps HP5.out.steps
      obtain ⟨vs, hvs, hrd, hv1, hvc⟩ := hrp
      have hrq := rows_of_steps HQ5.out.steps
      obtain ⟨us, hus, hrd', hu1, huc⟩ := hrq
      have hpl := HP5.out.len
      have hql := HQ5.out.len
      have HVC := Lib.hid hvc
      have HUC := Lib.hid huc
      have HRD := Lib.hid hrd
      have HRD' := Lib.hid hrd'
      have HVS := Lib.hid hvs
      have HUS := Lib.hid hus
      have HV1 := Lib.hid hv1
      have HU1 := Lib.hid hu1
      have hs5 := HB5.out.size
      clear hvc huc hrd hrd' hvs hus hv1 hu1
      go_wp2_with (at_builtin; refine wpList_append_rows _ rfl _ _ 25 rfl w5.heap.size 42 i0 (.agg #[.bool false, .slice none 0 0]) 32 Tryd.underlying25 hi hz0 hz1 hz2 rfl (.slice none 0 0) 0 [] rfl (World.ownsRow_nil _ _ _ _) Ap ps.length cp vs rfl HVS.out HV1.out HVC.out (by unfold maxLen; omega) (by omega) (Nat.le_refl _) ?_)
      intro v' w6 hown6 hg6
      have hb6 : Below w5.heap.size w5 w6 := (Below.refl _ _).grown hg6 (Nat.le_refl _) (fun g hg => by cases hg)
      have HB6 := Lib.hid hb6
      have HOW6 := Lib.hid (show w6.ownsRow w5.heap.size 42 2 v' ps.length vs from by simpa using hown6)
      have HUC6 := Lib.hid (show 0 < qs.length → ∃ b off, Aq = some ⟨b, off, none⟩ ∧ ∀ j u, us[j]? = some u → w6.cell? ⟨b, off + j, none⟩ = some u from fun h => by
        obtain ⟨b, off, e, hc⟩ := HUC.out h
        refine ⟨b, off, e, fun j u hu => ?_⟩
        have h9 := hc j u hu
        have hlt := World.block_lt_of_cell? w5 _ h9
        exact (HB6.out.cell (p := ⟨b, off + j, none⟩) (by simpa using hlt)).trans h9)
      have hs6 := hb6.size
      clear hown6 hg6 hb6
      go_wp2_with (at_builtin; refine wpList_append_rows _ rfl _ _ 25 rfl w5.heap.size 42 i0 (.agg #[.bool false, .slice none 0 0]) 32 Tryd.underlying25 hi hz0 hz1 hz2 rfl _ _ _ rfl HOW6.out Aq qs.length cq us rfl HUS.out HU1.out HUC6.out (by unfold maxLen; omega) (by omega) (by omega) ?_)
      intro v'' w7 hown7 hg7
      obtain ⟨al, hal⟩ : ∃ al, al = ps ++ qs := ⟨_, rfl⟩
      have hll : al.length = ps.length + qs.length := by rw [hal, List.length_append]
      rw [← hll] at hown7
      have hsl : ∃ A7 c7, v'' = .slice A7 al.length c7 := by
        rcases hown7.2 with ⟨h, h0⟩ | ⟨g, cap, cur, h, _⟩
        · exact ⟨none, 0, by rw [h, h0]⟩
        · exact ⟨_, _, h⟩
      obtain ⟨A7, c7, rfl⟩ := hsl
      have hb57 : Below w5.heap.size w5 w7 := HB6.out.grown hg7 hs6 (fun g hg => (HOW6.out.lt g hg).1)
      have hst7 : Steps w7 w7.heap.size A7 al := by
        rw [hal] at hown7 ⊢
        exact RdRows.steps (((HRD.out.append HVS.out HRD'.out)).below hb57) hb57.size hown7
      have hla : Lies w7 A7 al := ⟨hst7, by rw [hal, stpsRight_append, HP5.out.right, HQ5.out.right]; rfl, by rw [hal, weight_append]; have := HWP.out; have := HWQ.out; omega⟩
      have HB7 := Lib.hid (HB5.out.trans (hb57.mono hs5))
      have HP7 := Lib.hid (HP5.out.later hb57)
      have HQ7 := Lib.hid (HQ5.out.later hb57)
      have HA7 := Lib.hid hla
      have HAL := Lib.hid hal
      clear hown7 hg7 hll hb57 hst7 hla hal HOW6 HUC6 HP5 HQ5 HVC HUC hpl hql
      have B1 := Lib.hid (binary_at HP7.out (Below.refl _ _) cp)
      go_wp2_with fail
      refine B1.out.mono ?_
      rintro e w8 ⟨A8, c8, rfl, hown8, hb8⟩
      have HB8 := Lib.hid hb8
      have HOW8 := Lib.hid hown8
      have B2 := Lib.hid (binary_at HQ7.out hb8 cq)
      clear hown8 hb8 B1
      go_wp2_with fail
      refine B2.out.mono ?_
      rintro e w9 ⟨A9, c9, rfl, hown9, hb9⟩
      have hby9 := bytes_of_own hown9
      have hown89 := own_below HOW8.out hb9 (fun g hg => (HOW8.out.lt g hg).2)
      have hbl1 := HP7.out.bin
      have hbl2 := HQ7.out.bin
      obtain ⟨bp, hbp⟩ : ∃ bp, bp = binOf ps := ⟨_, rfl⟩
      obtain ⟨bq, hbq⟩ : ∃ bq, bq = binOf qs := ⟨_, rfl⟩
      rw [← hbp] at hown89 hbl1 ⊢
      rw [← hbq] at hby9 hbl2 ⊢
      have HB9 := Lib.hid (HB8.out.trans (hb9.mono HB8.out.size))
      have HOW9 := Lib.hid hown89
      have HBY9 := Lib.hid hby9
      have HBPQ := Lib.hid (And.intro hbp hbq)
      have hs9 := HB9.out.size
      clear hown9 hb9 hby9 hown89 hbp hbq B2 HOW8
      go_wp2_with (at_builtin; refine wpList_append_cells _ rfl _ _ 28 rfl w7.heap.size 5 j0 (.int .u8 0) 1 Tryd.underlying28 hj hy0 hy1 hy2 rfl _ _ _ rfl HOW9.out w9.heap.size A9 bq.length c9 _ rfl HBY9.out (fun j _ => rfl) (by unfold maxLen; omega) (by omega) hs9 ?_)
      intro v3 w10 hown10 hg10 _
      rw [cells_bytes, ← byteCells_append] at hown10
      obtain ⟨bb, hbb⟩ : ∃ bb, bb = binOf al := ⟨_, rfl⟩
      have hbb2 : bp ++ bq = bb := by rw [hbb, HAL.out, binOf_append, HBPQ.out.1, HBPQ.out.2]
      rw [hbb2, show bp.length + bq.length = bb.length by rw [← hbb2, List.length_append]] at hown10
      obtain ⟨Ab, cb, hv3, hcb, _⟩ := own_slice hown10
      subst hv3
      have hby10 := bytes_of_own hown10
      have HB10 := Lib.hid (HB9.out.grown hg10 hs9 (fun g hg => (HOW9.out.lt g hg).1))
      have HBY10 := Lib.hid hby10
      have HBB := Lib.hid hbb
      have HCB := Lib.hid hcb
      have HP10 := Lib.hid (HP7.out.later HB10.out)
      have HQ10 := Lib.hid (HQ7.out.later HB10.out)
      have HA10 := Lib.hid (HA7.out.later HB10.out)
      have HBX := Lib.hid (HB7.out.trans (HB10.out.mono HB7.out.size))
      clear hown10 hg10 hby10 hbb hbb2 hcb hbl1 hbl2 HOW9 HBY9 HP7 HQ7 HA7
      have T1 := Lib.hid (text_at HP10.out (HE.out.same HBX.out) (Below.refl _ _) cp)
      go_wp2_with fail
      refine T1.out.mono ?_
      rintro e w11 ⟨rfl, hb11⟩
      have T2 := Lib.hid (text_at HQ10.out (HE.out.same HBX.out) hb11 cq)
      have HB11 := Lib.hid hb11
      clear T1 hb11
      go_wp2_with fail
      refine T2.out.mono ?_
      rintro e w12 ⟨rfl, hb12⟩
      have HB12 := Lib.hid (HB11.out.trans (hb12.mono HB11.out.size))
      have htl1 := HP10.out.txt
      have htl2 := HQ10.out.txt
      obtain ⟨tp, htp⟩ : ∃ tp, tp = txtOf ps := ⟨_, rfl⟩
      obtain ⟨tq, htq⟩ : ∃ tq, tq = txtOf qs := ⟨_, rfl⟩
      obtain ⟨ta, hta⟩ : ∃ ta, ta = txtOf al := ⟨_, rfl⟩
      rw [← htp] at htl1 ⊢
      rw [← htq] at htl2 ⊢
      have hta2 : ta = tp ++ tq := by rw [hta, HAL.out, txtOf_append, htp, htq]
      have q1 := add_str (P := Tryd.prog) tp tq ta hta2 (by omega) (by omega)
      have PT := Lib.hid (parseText_at HA10.out.right HA10.out.light (HE.out.same (HBX.out.trans (HB12.out.mono HBX.out.size))))
      rw [← hta] at PT
      have HTT := Lib.hid (And.intro htp (And.intro htq hta))
      clear hb12 T2 htp htq hta hta2 htl1 htl2
      go_wp2_with fail
      refine PT.out.mono ?_
      rintro e w13 ⟨Ax, cx, rfl, hlx, hb13⟩
      have HB13 := Lib.hid (HB12.out.trans (hb13.mono HB12.out.size))
      have HX13 := Lib.hid hlx
      have PB := Lib.hid (parseBin_at (w := w13) HA10.out.right HA10.out.light (by rw [← HBB.out]; exact HBY10.out.below HB13.out) HB13.out.size (by rw [← HBB.out]; exact HCB.out))
      rw [← HBB.out] at PB
      clear hlx hb13 PT
      go_wp2_with fail
      refine PB.out.mono ?_
      rintro e w14 ⟨Ay, cy, rfl, hly, hb14⟩
      have HB14 := Lib.hid (HB13.out.trans (hb14.mono HB13.out.size))
      have HE14 := Lib.hid (HE.out.same (HBX.out.trans (HB14.out.mono HBX.out.size)))
      have HP14 := Lib.hid (HP10.out.later HB14.out)
      have HQ14 := Lib.hid (HQ10.out.later HB14.out)
      have HA14 := Lib.hid (HA10.out.later HB14.out)
      have HX14 := Lib.hid (HX13.out.later hb14)
      have HY14 := Lib.hid hly
      clear hly hb14 PB
      have T0 := Lib.hid (fun w' hb => text_at HA14.out HE14.out (w' := w') hb c7)
      have T1 := Lib.hid (fun w' hb => text_at HP14.out HE14.out (w' := w') hb cp)
      have T2 := Lib.hid (fun w' hb => text_at HQ14.out HE14.out (w' := w') hb cq)
      have B0 := Lib.hid (fun w' hb => binary_at HA14.out (w' := w') hb c7)
      have S1 := Lib.hid (fun w' hb => same6_at HX14.out HA14.out (w' := w') hb cx c7)
      have S2 := Lib.hid (fun w' hb => same6_at HY14.out HA14.out (w' := w') hb cy c7)
      rw [decide_eq_true (rfl : al = al)] at S1 S2
      rw [← HTT.out.2.2] at T0
      rw [← HTT.out.1] at T1
      rw [← HTT.out.2.1] at T2
      rw [← HBB.out] at B0
      have KE := Lib.hid (fun w' (hb : Below w14.heap.size w14 w') => run_bytes_string ((HBY10.out.below HB14.out).below (hb.mono HB14.out.size)) cb)
      have k0 := KE.out w14.drew (Below.refl _ _).drew
      go_wp2_with fail
      refine wp_region_held_drew (S := fun w' => (convert 28 9 (.slice Ab bb.length cb)).run Tryd.prog w' = .ok (.string ⟨bb.toArray⟩) w') (by kernel_rfl) (k0) (fun hHeld => ?_)
      refine wpAnyH_take (i := 0) (oi := { dst := some 50, op := _, type := _, pos := _, after := _, guard := _ }) (v := ?v1) rfl (by kernel_rfl) (by kernel_rfl) (by kernel_rfl) (fun _ _ _ h => h) (Or.inl ⟨by rfl, ?hy1⟩) (by assumption) ?rest1
      case hy1 => (intro w99 hSw; (try dsimp only at hSw); go_simp; try with_reducible rfl)
      try simp only [Act.put, List.setIfInBounds_toArray, List.set_cons_zero, List.set_cons_succ]
      refine wpAnyH_take (i := 2) (oi := { dst := some 52, op := _, type := _, pos := _, after := _, guard := _ }) (v := ?v2) rfl (by kernel_rfl) (by kernel_rfl) (by kernel_rfl) (fun _ _ _ h => h) (Or.inl ⟨by rfl, ?hy2⟩) (by assumption) ?rest2
      case hy2 => (intro w99 hSw; (try dsimp only at hSw); go_simp; try with_reducible rfl)
      try simp only [Act.put, List.setIfInBounds_toArray, List.set_cons_zero, List.set_cons_succ]
      refine wpAnyH_take (i := 4) (oi := { dst := some 54, op := _, type := _, pos := _, after := _, guard := _ }) (v := ?v3) rfl (by kernel_rfl) (by kernel_rfl) (by kernel_rfl) (fun _ _ _ h => h) (Or.inl ⟨by rfl, ?hy3⟩) (by assumption) ?rest3
      case hy3 => (intro w99 hSw; (try dsimp only at hSw); go_simp; try with_reducible rfl)
      try simp only [Act.put, List.setIfInBounds_toArray, List.set_cons_zero, List.set_cons_succ]
      refine wpAnyH_ready (rs := [1]) (by kernel_rfl) (by simp) ?_
      refine AllReadyH.cons rfl (fun K hK => ?_) AllReadyH.nil
      go_simp
      refine (T0.out w14.drew (Below.refl _ _).drew).mono ?_
      rintro e w15 ⟨rfl, hb15'⟩
      have HB15 := Lib.hid (below_undrew hb15')
      have kb15 := KE.out w15 HB15.out
      clear hb15'
      refine hK.out _ _ kb15 (fun hHeld => ?_)
      clear hK
      try simp only [Act.put, List.setIfInBounds_toArray, List.set_cons_zero, List.set_cons_succ]
      refine wpAnyH_ready (rs := [3]) (by kernel_rfl) (by simp) ?_
      refine AllReadyH.cons rfl (fun K hK => ?_) AllReadyH.nil
      go_simp
      refine (T1.out w15 HB15.out).mono ?_
      rintro e w16 ⟨rfl, hb16'⟩
      have HB16 := Lib.hid (HB15.out.trans (hb16'.mono HB15.out.size))
      have kb16 := KE.out w16 HB16.out
      clear hb16'
      refine hK.out _ _ kb16 (fun hHeld => ?_)
      clear hK
      try simp only [Act.put, List.setIfInBounds_toArray, List.set_cons_zero, List.set_cons_succ]
      refine wpAnyH_ready (rs := [5]) (by kernel_rfl) (by simp) ?_
      refine AllReadyH.cons rfl (fun K hK => ?_) AllReadyH.nil
      go_simp
      refine (T2.out w16 HB16.out).mono ?_
      rintro e w17 ⟨rfl, hb17'⟩
      have HB17 := Lib.hid (HB16.out.trans (hb17'.mono HB16.out.size))
      have kb17 := KE.out w17 HB17.out
      clear hb17'
      refine hK.out _ _ kb17 (fun hHeld => ?_)
      clear hK
      try simp only [Act.put, List.setIfInBounds_toArray, List.set_cons_zero, List.set_cons_succ]
      refine wpAnyH_take (i := 6) (oi := { dst := some 56, op := _, type := _, pos := _, after := _, guard := _ }) (v := ?v4) rfl (by kernel_rfl) (by kernel_rfl) (by kernel_rfl) (fun _ _ _ h => h) (Or.inl ⟨by rfl, ?hy4⟩) (by assumption) ?rest4
      case hy4 => (intro w99 hSw; (try dsimp only at hSw); go_simp; try with_reducible rfl)
      try simp only [Act.put, List.setIfInBounds_toArray, List.set_cons_zero, List.set_cons_succ]
      refine wpAnyH_take (i := 7) (oi := { dst := some 57, op := _, type := _, pos := _, after := _, guard := _ }) (v := ?v5) rfl (by kernel_rfl) (by kernel_rfl) (by kernel_rfl) (fun _ _ _ h => h) (Or.inl ⟨by rfl, ?hy5⟩) (by assumption) ?rest5
      case hy5 => (intro w99 hSw; (try dsimp only at hSw); go_simp; try with_reducible rfl)
      try simp only [Act.put, List.setIfInBounds_toArray, List.set_cons_zero, List.set_cons_succ]
      refine wpAnyH_take (i := 8) (oi := { dst := some 58, op := _, type := _, pos := _, after := _, guard := _ }) (v := ?v6) rfl (by kernel_rfl) (by kernel_rfl) (by kernel_rfl) (fun _ _ _ h => h) (Or.inl ⟨by rfl, ?hy6⟩) (by assumption) ?rest6
      case hy6 => (intro w99 hSw; (try dsimp only at hSw); go_simp; try with_reducible rfl)
      try simp only [Act.put, List.setIfInBounds_toArray, List.set_cons_zero, List.set_cons_succ]
      refine wpAnyH_take (i := 9) (oi := { dst := some 59, op := _, type := _, pos := _, after := _, guard := _ }) (v := ?v7) rfl (by kernel_rfl) (by kernel_rfl) (by kernel_rfl) (fun _ _ _ h => h) (Or.inl ⟨by rfl, ?hy7⟩) (by assumption) ?rest7
      case hy7 => (intro w99 hSw; (try dsimp only at hSw); go_simp; try with_reducible rfl)
      try simp only [Act.put, List.setIfInBounds_toArray, List.set_cons_zero, List.set_cons_succ]
      refine wpAnyH_take (i := 12) (oi := { dst := some 62, op := _, type := _, pos := _, after := _, guard := _ }) (v := ?v8) rfl (by kernel_rfl) (by kernel_rfl) (by kernel_rfl) (fun _ _ _ h => h) (Or.inl ⟨by rfl, ?hy8⟩) (by assumption) ?rest8
      case hy8 => (intro w99 hSw; (try dsimp only at hSw); go_simp; try with_reducible rfl)
      try simp only [Act.put, List.setIfInBounds_toArray, List.set_cons_zero, List.set_cons_succ]
      refine wpAnyH_take (i := 13) (oi := { dst := some 63, op := _, type := _, pos := _, after := _, guard := _ }) (v := ?v9) rfl (by kernel_rfl) (by kernel_rfl) (by kernel_rfl) (fun _ _ _ h => h) (Or.inl ⟨by rfl, ?hy9⟩) (by assumption) ?rest9
      case hy9 => (intro w99 hSw; (try dsimp only at hSw); go_simp; try with_reducible rfl)
      try simp only [Act.put, List.setIfInBounds_toArray, List.set_cons_zero, List.set_cons_succ]
      refine wpAnyH_ready (rs := [10]) (by kernel_rfl) (by simp) ?_
      refine AllReadyH.cons rfl (fun K hK => ?_) AllReadyH.nil
      go_simp
      refine (B0.out w17 HB17.out).mono ?_
      rintro e w18 ⟨Az, cz, rfl, hoz, hb18'⟩
      have HB18 := Lib.hid (HB17.out.trans (hb18'.mono HB17.out.size))
      have kb18 := KE.out w18 HB18.out
      have HOZ := Lib.hid hoz
      have kz18 := own_string hoz (Below.refl _ _)
      have HZS := Lib.hid HB18.out.size
      clear hb18' hoz
      refine hK.out _ _ kb18 (fun hHeld => ?_)
      clear hK
      try simp only [Act.put, List.setIfInBounds_toArray, List.set_cons_zero, List.set_cons_succ]
      refine wpAnyH_mono (S' := fun w' => ((convert 28 9 (.slice Ab bb.length cb)).run Tryd.prog w' = .ok (.string ⟨bb.toArray⟩) w') ∧ ((convert 28 9 (.slice Az bb.length cz)).run Tryd.prog w' = .ok (.string ⟨bb.toArray⟩) w')) (fun _ h => h.1) ?_
      have hHeldS := And.intro kb18 kz18
      refine wpAnyH_take (i := 11) (oi := { dst := some 61, op := _, type := _, pos := _, after := _, guard := _ }) (v := ?v10) rfl (by kernel_rfl) (by kernel_rfl) (by kernel_rfl) (fun _ _ _ h => h) (Or.inl ⟨by rfl, ?hy10⟩) (by assumption) ?rest10
      case hy10 => (intro w99 hSw; (try dsimp only at hSw); go_simp; try with_reducible rfl)
      try simp only [Act.put, List.setIfInBounds_toArray, List.set_cons_zero, List.set_cons_succ]
      refine wpAnyH_take (i := 14) (oi := { dst := some 64, op := _, type := _, pos := _, after := _, guard := _ }) (v := ?v11) rfl (by kernel_rfl) (by kernel_rfl) (by kernel_rfl) (fun _ _ _ h => h) (Or.inl ⟨by rfl, ?hy11⟩) (by assumption) ?rest11
      case hy11 => (intro w99 hSw; (try dsimp only at hSw); go_simp; try with_reducible rfl)
      try simp only [Act.put, List.setIfInBounds_toArray, List.set_cons_zero, List.set_cons_succ]
      refine wpAnyH_take (i := 15) (oi := { dst := some 65, op := _, type := _, pos := _, after := _, guard := _ }) (v := ?v12) rfl (by kernel_rfl) (by kernel_rfl) (by kernel_rfl) (fun _ _ _ h => h) (Or.inl ⟨by rfl, ?hy12⟩) (by assumption) ?rest12
      case hy12 => (intro w99 hSw; (try dsimp only at hSw); go_simp; try with_reducible rfl)
      try simp only [Act.put, List.setIfInBounds_toArray, List.set_cons_zero, List.set_cons_succ]
      refine wpAnyH_take (i := 16) (oi := { dst := some 66, op := _, type := _, pos := _, after := _, guard := _ }) (v := ?v13) rfl (by kernel_rfl) (by kernel_rfl) (by kernel_rfl) (fun _ _ _ h => h) (Or.inl ⟨by rfl, ?hy13⟩) (by assumption) ?rest13
      case hy13 => (intro w99 hSw; (try dsimp only at hSw); go_simp; try with_reducible rfl)
      try simp only [Act.put, List.setIfInBounds_toArray, List.set_cons_zero, List.set_cons_succ]
      refine wpAnyH_take (i := 17) (oi := { dst := some 67, op := _, type := _, pos := _, after := _, guard := _ }) (v := ?v14) rfl (by kernel_rfl) (by kernel_rfl) (by kernel_rfl) (fun _ _ _ h => h) (Or.inl ⟨by rfl, ?hy14⟩) (by assumption) ?rest14
      case hy14 => (intro w99 hSw; (try dsimp only at hSw); go_simp; try with_reducible rfl)
      try simp only [Act.put, List.setIfInBounds_toArray, List.set_cons_zero, List.set_cons_succ]
      refine wpAnyH_take (i := 18) (oi := { dst := some 68, op := _, type := _, pos := _, after := _, guard := _ }) (v := ?v15) rfl (by kernel_rfl) (by kernel_rfl) (by kernel_rfl) (fun _ _ _ h => h) (Or.inl ⟨by rfl, ?hy15⟩) (by assumption) ?rest15
      case hy15 => (intro w99 hSw; (try dsimp only at hSw); go_simp; try with_reducible rfl)
      try simp only [Act.put, List.setIfInBounds_toArray, List.set_cons_zero, List.set_cons_succ]
      refine wpAnyH_take (i := 19) (oi := { dst := some 69, op := _, type := _, pos := _, after := _, guard := _ }) (v := ?v16) rfl (by kernel_rfl) (by kernel_rfl) (by kernel_rfl) (fun _ _ _ h => h) (Or.inl ⟨by rfl, ?hy16⟩) (by assumption) ?rest16
      case hy16 => (intro w99 hSw; (try dsimp only at hSw); go_simp; try with_reducible rfl)
      try simp only [Act.put, List.setIfInBounds_toArray, List.set_cons_zero, List.set_cons_succ]
      refine wpAnyH_take (i := 20) (oi := { dst := some 70, op := _, type := _, pos := _, after := _, guard := _ }) (v := ?v17) rfl (by kernel_rfl) (by kernel_rfl) (by kernel_rfl) (fun _ _ _ h => h) (Or.inl ⟨by rfl, ?hy17⟩) (by assumption) ?rest17
      case hy17 => (intro w99 hSw; (try dsimp only at hSw); go_simp; try with_reducible rfl)
      try simp only [Act.put, List.setIfInBounds_toArray, List.set_cons_zero, List.set_cons_succ]
      refine wpAnyH_take (i := 21) (oi := { dst := some 71, op := _, type := _, pos := _, after := _, guard := _ }) (v := ?v18) rfl (by kernel_rfl) (by kernel_rfl) (by kernel_rfl) (fun _ _ _ h => h) (Or.inl ⟨by rfl, ?hy18⟩) (by assumption) ?rest18
      case hy18 => (intro w99 hSw; (try dsimp only at hSw); go_simp; try with_reducible rfl)
      try simp only [Act.put, List.setIfInBounds_toArray, List.set_cons_zero, List.set_cons_succ]
      refine wpAnyH_take (i := 22) (oi := { dst := some 72, op := _, type := _, pos := _, after := _, guard := _ }) (v := ?v19) rfl (by kernel_rfl) (by kernel_rfl) (by kernel_rfl) (fun _ _ _ h => h) (Or.inl ⟨by rfl, ?hy19⟩) (by assumption) ?rest19
      case hy19 => (intro w99 hSw; (try dsimp only at hSw); go_simp; try with_reducible rfl)
      try simp only [Act.put, List.setIfInBounds_toArray, List.set_cons_zero, List.set_cons_succ]
      refine wpAnyH_take (i := 23) (oi := { dst := some 73, op := _, type := _, pos := _, after := _, guard := _ }) (v := ?v20) rfl (by kernel_rfl) (by kernel_rfl) (by kernel_rfl) (fun _ _ _ h => h) (Or.inl ⟨by rfl, ?hy20⟩) (by assumption) ?rest20
      case hy20 => (intro w99 hSw; (try dsimp only at hSw); go_simp; try with_reducible rfl)
      try simp only [Act.put, List.setIfInBounds_toArray, List.set_cons_zero, List.set_cons_succ]
      refine wpAnyH_take (i := 24) (oi := { dst := some 74, op := _, type := _, pos := _, after := _, guard := _ }) (v := ?v21) rfl (by kernel_rfl) (by kernel_rfl) (by kernel_rfl) (fun _ _ _ h => h) (Or.inl ⟨by rfl, ?hy21⟩) (by assumption) ?rest21
      case hy21 => (intro w99 hSw; (try dsimp only at hSw); go_simp; try with_reducible rfl)
      try simp only [Act.put, List.setIfInBounds_toArray, List.set_cons_zero, List.set_cons_succ]
      refine wpAnyH_take (i := 25) (oi := { dst := some 75, op := _, type := _, pos := _, after := _, guard := _ }) (v := ?v22) rfl (by kernel_rfl) (by kernel_rfl) (by kernel_rfl) (fun _ _ _ h => h) (Or.inl ⟨by rfl, ?hy22⟩) (by assumption) ?rest22
      case hy22 => (intro w99 hSw; (try dsimp only at hSw); go_simp; try with_reducible rfl)
      try simp only [Act.put, List.setIfInBounds_toArray, List.set_cons_zero, List.set_cons_succ]
      refine wpAnyH_take (i := 26) (oi := { dst := some 76, op := _, type := _, pos := _, after := _, guard := _ }) (v := ?v23) rfl (by kernel_rfl) (by kernel_rfl) (by kernel_rfl) (fun _ _ _ h => h) (Or.inl ⟨by rfl, ?hy23⟩) (by assumption) ?rest23
      case hy23 => (intro w99 hSw; (try dsimp only at hSw); go_simp; try with_reducible rfl)
      try simp only [Act.put, List.setIfInBounds_toArray, List.set_cons_zero, List.set_cons_succ]
      refine wpAnyH_ready (rs := [27]) (by kernel_rfl) (by simp) ?_
      refine AllReadyH.cons rfl (fun K hK => ?_) AllReadyH.nil
      go_simp
      refine (S1.out w18 HB18.out).mono ?_
      rintro e w19 ⟨rfl, hb19'⟩
      have HB19 := Lib.hid (HB18.out.trans (hb19'.mono HB18.out.size))
      have kb19 := And.intro (KE.out w19 HB19.out) (own_string HOZ.out hb19')
      have HZ19 := Lib.hid hb19'
      clear hb19'
      refine hK.out _ _ kb19 (fun hHeld => ?_)
      clear hK
      try simp only [Act.put, List.setIfInBounds_toArray, List.set_cons_zero, List.set_cons_succ]
      refine wpAnyH_take (i := 28) (oi := { dst := some 78, op := _, type := _, pos := _, after := _, guard := _ }) (v := ?v24) rfl (by kernel_rfl) (by kernel_rfl) (by kernel_rfl) (fun _ _ _ h => h) (Or.inl ⟨by rfl, ?hy24⟩) (by assumption) ?rest24
      case hy24 => (intro w99 hSw; (try dsimp only at hSw); go_simp; try with_reducible rfl)
      try simp only [Act.put, List.setIfInBounds_toArray, List.set_cons_zero, List.set_cons_succ]
      refine wpAnyH_take (i := 29) (oi := { dst := some 79, op := _, type := _, pos := _, after := _, guard := _ }) (v := ?v25) rfl (by kernel_rfl) (by kernel_rfl) (by kernel_rfl) (fun _ _ _ h => h) (Or.inl ⟨by rfl, ?hy25⟩) (by assumption) ?rest25
      case hy25 => (intro w99 hSw; (try dsimp only at hSw); go_simp; try with_reducible rfl)
      try simp only [Act.put, List.setIfInBounds_toArray, List.set_cons_zero, List.set_cons_succ]
      refine wpAnyH_take (i := 30) (oi := { dst := some 80, op := _, type := _, pos := _, after := _, guard := _ }) (v := ?v26) rfl (by kernel_rfl) (by kernel_rfl) (by kernel_rfl) (fun _ _ _ h => h) (Or.inl ⟨by rfl, ?hy26⟩) (by assumption) ?rest26
      case hy26 => (intro w99 hSw; (try dsimp only at hSw); go_simp; try with_reducible rfl)
      try simp only [Act.put, List.setIfInBounds_toArray, List.set_cons_zero, List.set_cons_succ]
      refine wpAnyH_take (i := 31) (oi := { dst := some 81, op := _, type := _, pos := _, after := _, guard := _ }) (v := ?v27) rfl (by kernel_rfl) (by kernel_rfl) (by kernel_rfl) (fun _ _ _ h => h) (Or.inl ⟨by rfl, ?hy27⟩) (by assumption) ?rest27
      case hy27 => (intro w99 hSw; (try dsimp only at hSw); go_simp; try with_reducible rfl)
      try simp only [Act.put, List.setIfInBounds_toArray, List.set_cons_zero, List.set_cons_succ]
      refine wpAnyH_ready (rs := [32]) (by kernel_rfl) (by simp) ?_
      refine AllReadyH.cons rfl (fun K hK => ?_) AllReadyH.nil
      go_simp
      refine (S2.out w19 HB19.out).mono ?_
      rintro e w20 ⟨rfl, hb20'⟩
      have HB20 := Lib.hid (HB19.out.trans (hb20'.mono HB19.out.size))
      have kb20 := And.intro (KE.out w20 HB20.out) (own_string HOZ.out (HZ19.out.trans (hb20'.mono HZ19.out.size)))
      clear hb20'
      refine hK.out _ _ kb20 (fun hHeld => ?_)
      clear hK
      try simp only [Act.put, List.setIfInBounds_toArray, List.set_cons_zero, List.set_cons_succ]
      refine wpAnyH_take (i := 33) (oi := { dst := some 83, op := _, type := _, pos := _, after := _, guard := _ }) (v := ?v28) rfl (by kernel_rfl) (by kernel_rfl) (by kernel_rfl) (fun _ _ _ h => h) (Or.inl ⟨by rfl, ?hy28⟩) (by assumption) ?rest28
      case hy28 => (intro w99 hSw; (try dsimp only at hSw); go_simp; try with_reducible rfl)
      try simp only [Act.put, List.setIfInBounds_toArray, List.set_cons_zero, List.set_cons_succ]
      refine wpAnyH_take (i := 34) (oi := { dst := some 4, op := _, type := _, pos := _, after := _, guard := _ }) (v := ?v29) rfl (by kernel_rfl) (by kernel_rfl) (by kernel_rfl) (fun _ _ _ h => h) (Or.inl ⟨by rfl, ?hy29⟩) (by assumption) ?rest29
      case hy29 => (intro w99 hSw; (try dsimp only at hSw); go_simp; try with_reducible rfl)
      try simp only [Act.put, List.setIfInBounds_toArray, List.set_cons_zero, List.set_cons_succ]
      refine wpAnyH_done (by kernel_rfl) ?_ _
      go_wp2_with fail
      go_ret
      exact ⟨by simp, (HBX.out.trans (HB14.out.mono HBX.out.size)).trans (HB20.out.mono (by have := HBX.out.size; have := HB14.out.size; omega))⟩
end Go.Proofs.YtdehlikmefpgnaaDoor
