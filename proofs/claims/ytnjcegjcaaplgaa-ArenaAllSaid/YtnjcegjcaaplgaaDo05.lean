/- A deed, of the arena and of the statements' clauses. -/
import Derived.Test.YtnjcegjcaaplgaaDo05a
namespace Go.Proofs.Ytnjcegjcaaplgaa
open Go.RowKit
set_option linter.unusedVariables false
set_option linter.unusedSimpArgs false

/-- what a deed leaves -/
def DoPost (w : World) (base g b D : Nat) (gw : Option Nat) (ps : List Nat) (cs : List Cl) (e : Ending) (w' : World) : Prop :=
  e = .returned (.bool true) ∧ ∃ cs' : List Cl, Ar w' base g b gw 0 cs' ∧ Model w' D gw ps cs' ∧ cs'.map Cl.size = cs.map Cl.size ∧ Fr base w w'

/-- how things stand within a deed -/
structure In (w w2 : World) (base g b D cb xd : Nat) (gw : Option Nat) (ps : List Nat) (cs : List Cl) (pre post : List Cl) (cl : Cl) (kd wh : Nat) (n m : Int) (Dl : Value) : Prop where
  ar : Ar w2 base g b gw 0 (pre ++ cl :: post)
  mo : Model w2 D gw ps (pre ++ cl :: post)
  sz : (pre ++ cl :: post).map Cl.size = cs.map Cl.size
  fr : Fr base w w2
  cb_ : Blk w2 cb 34 #[.pointer (some ⟨ps.getD pre.length 0, 0, none⟩)]
  xd_ : Blk w2 xd 30 #[.int .u8 kd, .int .i64 n, .int .i64 m, Dl, .int .u8 wh]
  tot : total (pre ++ cl :: post) ≤ 1099511627776
section
variable {w w2 w' : World} {base g b D cb xd : Nat} {gw : Option Nat} {ps : List Nat} {cs pre post : List Cl} {cl dl : Cl} {kd wh : Nat} {n m : Int} {Dl : Value}
theorem In.below (h : In w w2 base g b D cb xd gw ps cs pre post cl kd wh n m Dl) (hb : Below w2.heap.size w2 w') (hB : base ≤ w2.heap.size) : In w w' base g b D cb xd gw ps cs pre post cl kd wh n m Dl :=
  ⟨h.ar.below hb, h.mo.below hb, h.sz, h.fr.trans (Fr.of_below hb hB), h.cb_.below hb h.cb_.lt, h.xd_.below hb h.xd_.lt, h.tot⟩
theorem In.hB (h : In w w2 base g b D cb xd gw ps cs pre post cl kd wh n m Dl) : base ≤ w2.heap.size := by have := h.ar.glt; have := h.ar.hg; omega
theorem In.turn (h : In w w2 base g b D cb xd gw ps cs pre post cl kd wh n m Dl) (ht : Turn w2 w' g b gw) (ha : Ar w' base g b gw 0 (pre ++ dl :: post)) (h1 : dl.lits.length = cl.lits.length) (h2 : dl.alive = cl.alive) (hg : g < D) (hb : b < D) : In w w' base g b D cb xd gw ps cs pre post dl kd wh n m Dl :=
  ⟨ha, (h.mo.turn h.ar ht hg hb (.inl rfl)).like h1 h2, by rw [← h.sz]; simp [Cl.size, h1], h.fr.trans (Fr.of_turn h.ar ht h.hB), ht.blk h.ar h.cb_ (by decide) (by decide), ht.blk h.ar h.xd_ (by decide) (by decide), by rw [← total_mid pre post cl dl (by unfold Cl.size; rw [h1])]; exact h.tot⟩
theorem In.done (h : In w w2 base g b D cb xd gw ps cs pre post cl kd wh n m Dl) : DoPost w base g b D gw ps cs (.returned (.bool true)) w2 := ⟨rfl, _, h.ar, h.mo, h.sz, h.fr⟩
/-- the cells of the clause itself -/
theorem In.cells (h : In w w2 base g b D cb xd gw ps cs pre post cl kd wh n m Dl) : ∃ (L : Nat) (n1 n2 : Int) (lr : Bool) (zs : List Int), Blk w2 (ps.getD pre.length 0) 36 #[.int .i64 (total pre : Nat), .int .i64 n1, .int .i64 n2, .slice (some ⟨L, 0, none⟩) cl.lits.length cl.lits.length, .bool lr, .bool (!cl.alive)] ∧ zs.length = cl.lits.length ∧ Blk w2 L 3 (zs.map (Value.int .i64)).toArray ∧ some L ≠ gw ∧ D ≤ L := h.mo.mid.ex
theorem In.far (h : In w w2 base g b D cb xd gw ps cs pre post cl kd wh n m Dl) {q : Nat} {t : TypeId} {X : Array Value} (hq : Blk w2 q t X) (ht : t = 3 ∨ t = 36) (hD : D ≤ q) (hg : g < D) (hb : b < D) (hbD : base ≤ D) (hgw : some q ≠ gw) (j : Nat) (v : Value) (hmo : Model (w2.setCell ⟨q, j, none⟩ v) D gw ps (pre ++ cl :: post)) : In w (w2.setCell ⟨q, j, none⟩ v) base g b D cb xd gw ps cs pre post cl kd wh n m Dl :=
  have hn : t ≠ 34 := by rcases ht with rfl | rfl <;> decide
  have hn2 : t ≠ 30 := by rcases ht with rfl | rfl <;> decide
  ⟨h.ar.far v (by omega) (by omega) hgw, hmo, h.sz, h.fr.trans (Fr.set hq ht (by omega) j v), h.cb_.far (h.cb_.ne_ hq (Ne.symm hn)) v, h.xd_.far (h.xd_.ne_ hq (Ne.symm hn2)) v, h.tot⟩
end

/-- the clause's struct lies in no block of the arena's -/
theorem In.ne_gw {w w2 : World} {base g b D cb xd : Nat} {gw : Option Nat} {ps : List Nat} {cs pre post : List Cl} {cl : Cl} {kd wh : Nat} {n m : Int} {Dl : Value} (h : In w w2 base g b D cb xd gw ps cs pre post cl kd wh n m Dl) : some (ps.getD pre.length 0) ≠ gw := by
  obtain ⟨L, n1, n2, lr, zs, h1, _⟩ := h.cells
  obtain ⟨A, c, hk, hown, hgw⟩ := h.ar.ex
  exact hgw ▸ own_blk_ne hown h1 (by decide)

section
variable {w w2 w' : World} {base g b D cb xd : Nat} {gw : Option Nat} {ps : List Nat} {cs pre post : List Cl} {cl dl : Cl} {kd wh : Nat} {n m : Int} {Dl : Value}
theorem In.drew (h : In w w2 base g b D cb xd gw ps cs pre post cl kd wh n m Dl) : In w w2.drew base g b D cb xd gw ps cs pre post cl kd wh n m Dl := h.below (Below.refl _ _).drew h.hB
theorem In.at_none (h : In w w2 base g b D cb xd gw ps cs pre post cl kd wh n m Dl) (ha : cl.alive = false) : at? (pre ++ cl :: post) (total pre) = none := by rw [at?_mid, ha]; rfl
theorem In.tp (h : In w w2 base g b D cb xd gw ps cs pre post cl kd wh n m Dl) : (total pre : Int) ≤ 9223372036854775807 := by have := size_le_total pre post cl; have := h.tot; omega
/-- what a deed of the arena's leaves, beside its answer -/
def Deeded (w : World) (base g b D cb xd : Nat) (gw : Option Nat) (ps : List Nat) (cs pre post : List Cl) (cl : Cl) (kd wh : Nat) (n m : Int) (Dl : Value) (e : Ending) (w' : World) : Prop :=
  e = .returned (.bool cl.alive) ∧ ∃ dl : Cl, dl.lits.length = cl.lits.length ∧ dl.alive = cl.alive ∧ In w w' base g b D cb xd gw ps cs pre post dl kd wh n m Dl
theorem In.setglue (h : In w w2 base g b D cb xd gw ps cs pre post cl kd wh n m Dl) (hg : g < D) (hb : b < D) (u : Int) : Calls Try.prog 22 #[.pointer (some ⟨g, 0, none⟩), .int .i64 (total pre : Nat), .int .i64 u] w2 (Deeded w base g b D cb xd gw ps cs pre post cl kd wh n m Dl) := by
  have htp := h.tp
  cases ha : cl.alive with
  | false => exact (setglue_no h.ar u (h.at_none ha) (by omega) htp).mono fun e w' ⟨he, hb⟩ => ⟨by rw [ha]; exact he, cl, rfl, rfl, h.below hb h.hB⟩
  | true => exact (setglue_yes pre post cl h.ar ha h.tot u).mono fun e w' ⟨he, har, ht⟩ => ⟨by rw [ha]; exact he, { cl with glue := least u }, rfl, rfl, h.turn ht har rfl rfl hg hb⟩
theorem In.setuses (h : In w w2 base g b D cb xd gw ps cs pre post cl kd wh n m Dl) (hg : g < D) (hb : b < D) (u : Int) : Calls Try.prog 24 #[.pointer (some ⟨g, 0, none⟩), .int .i64 (total pre : Nat), .int .i64 u] w2 (Deeded w base g b D cb xd gw ps cs pre post cl kd wh n m Dl) := by
  have htp := h.tp
  cases ha : cl.alive with
  | false => exact (setuses_no h.ar u (h.at_none ha) (by omega) htp).mono fun e w' ⟨he, hb⟩ => ⟨by rw [ha]; exact he, cl, rfl, rfl, h.below hb h.hB⟩
  | true => exact (setuses_yes pre post cl h.ar ha h.tot u).mono fun e w' ⟨he, har, ht⟩ => ⟨by rw [ha]; exact he, { cl with uses := least u }, rfl, rfl, h.turn ht har rfl rfl hg hb⟩
/-- the clause's own cells that a deed reads -/
theorem In.reads (h : In w w2 base g b D cb xd gw ps cs pre post cl kd wh n m Dl) : w2.cell? ⟨cb, 0, none⟩ = some (.pointer (some ⟨ps.getD pre.length 0, 0, none⟩)) ∧ w2.cell? ⟨ps.getD pre.length 0, 0, none⟩ = some (.int .i64 (total pre : Nat)) ∧ w2.cell? ⟨ps.getD pre.length 0, 5, none⟩ = some (.bool (!cl.alive)) ∧ w2.cell? ⟨xd, 1, none⟩ = some (.int .i64 n) ∧ w2.cell? ⟨xd, 2, none⟩ = some (.int .i64 m) := by
  obtain ⟨L, n1, n2, lr, zs, h1, _⟩ := h.cells
  have c0 := h.cb_.cell 0
  have p0 := h1.cell 0
  have p5 := h1.cell 5
  have x1 := h.xd_.cell 1
  have x2 := h.xd_.cell 2
  exact ⟨c0, p0, p5, x1, x2⟩
theorem In.nes (h : In w w2 base g b D cb xd gw ps cs pre post cl kd wh n m Dl) : ps.getD pre.length 0 ≠ cb ∧ ps.getD pre.length 0 ≠ xd := by
  obtain ⟨L, n1, n2, lr, zs, h1, _⟩ := h.cells
  exact ⟨h1.ne_ h.cb_ (by decide), h1.ne_ h.xd_ (by decide)⟩
theorem In.frz (h : In w w2 base g b D cb xd gw ps cs pre post cl kd wh n m Dl) : (∃ u, w2.cell? ⟨ps.getD pre.length 0, 1, none⟩ = some (.int .i64 u)) ∧ (∃ u, w2.cell? ⟨ps.getD pre.length 0, 2, none⟩ = some (.int .i64 u)) ∧ ∀ j, w2.frozen? ⟨ps.getD pre.length 0, j, none⟩ = false := by
  obtain ⟨L, n1, n2, lr, zs, h1, _⟩ := h.cells
  exact ⟨⟨n1, h1.cell 1⟩, ⟨n2, h1.cell 2⟩, fun j => h1.frozen j⟩
theorem In.put1 (h : In w w2 base g b D cb xd gw ps cs pre post cl kd wh n m Dl) (hg : g < D) (hb : b < D) (hbD : base ≤ D) (u : Int) : In w (w2.setCell ⟨ps.getD pre.length 0, 1, none⟩ (.int .i64 u)) base g b D cb xd gw ps cs pre post cl kd wh n m Dl := by
  obtain ⟨L, n1, n2, lr, zs, h1, _⟩ := h.cells
  exact h.far h1 (.inr rfl) h.mo.mid.lo hg hb hbD h.ne_gw 1 _ (h.mo.put rfl (h.mo.mid.put1 u) fun q s c hne hc => hc.other h1 hne 1 _)
theorem In.put2 (h : In w w2 base g b D cb xd gw ps cs pre post cl kd wh n m Dl) (hg : g < D) (hb : b < D) (hbD : base ≤ D) (u : Int) : In w (w2.setCell ⟨ps.getD pre.length 0, 2, none⟩ (.int .i64 u)) base g b D cb xd gw ps cs pre post cl kd wh n m Dl := by
  obtain ⟨L, n1, n2, lr, zs, h1, _⟩ := h.cells
  exact h.far h1 (.inr rfl) h.mo.mid.lo hg hb hbD h.ne_gw 2 _ (h.mo.put rfl (h.mo.mid.put2 u) fun q s c hne hc => hc.other h1 hne 2 _)
theorem In.dropped (h : In w w2 base g b D cb xd gw ps cs pre post cl kd wh n m Dl) (hg : g < D) (hb : b < D) (hbD : base ≤ D) (har : Ar w' base g b gw 0 (pre ++ kill cl :: post)) (hmo : Model w' D gw ps (pre ++ cl :: post)) (hfr : Fr base w w') (hcb : Blk w' cb 34 #[.pointer (some ⟨ps.getD pre.length 0, 0, none⟩)]) :
    w'.cell? ⟨cb, 0, none⟩ = some (.pointer (some ⟨ps.getD pre.length 0, 0, none⟩)) ∧ w'.cell? ⟨ps.getD pre.length 0, 0, none⟩ = some (.int .i64 (total pre : Nat)) ∧ w'.cell? ⟨ps.getD pre.length 0, 5, none⟩ = some (.bool (!cl.alive)) ∧ w'.frozen? ⟨ps.getD pre.length 0, 5, none⟩ = false ∧
      DoPost w base g b D gw ps cs (.returned (.bool true)) (w'.setCell ⟨ps.getD pre.length 0, 5, none⟩ (.bool true)) := by
  obtain ⟨L, n1, n2, lr, zs, h1, _⟩ := hmo.mid.ex
  have hlo := hmo.mid.lo
  obtain ⟨A, c, hk, hown, hgw⟩ := har.ex
  have hne : some (ps.getD pre.length 0) ≠ gw := hgw ▸ own_blk_ne hown h1 (by decide)
  refine ⟨hcb.cell 0, h1.cell 0, h1.cell 5, h1.frozen 5, rfl, pre ++ kill cl :: post, har.far _ (by omega) (by omega) hne, hmo.put rfl hmo.mid.gone fun q s c hne hc => hc.other h1 hne 5 _, ?_, hfr.trans (Fr.set h1 (.inr rfl) (by omega) 5 _)⟩
  rw [← h.sz]
  simp [kill_size]
theorem In.drop (h : In w w2 base g b D cb xd gw ps cs pre post cl kd wh n m Dl) (hg : g < D) (hb : b < D) (hbD : base ≤ D) : Calls Try.prog 11 #[.pointer (some ⟨g, 0, none⟩), .int .i64 (total pre : Nat)] w2 fun e w' => e = .returned (.bool cl.alive) ∧
    w'.cell? ⟨cb, 0, none⟩ = some (.pointer (some ⟨ps.getD pre.length 0, 0, none⟩)) ∧ w'.cell? ⟨ps.getD pre.length 0, 0, none⟩ = some (.int .i64 (total pre : Nat)) ∧ w'.cell? ⟨ps.getD pre.length 0, 5, none⟩ = some (.bool (!cl.alive)) ∧ w'.frozen? ⟨ps.getD pre.length 0, 5, none⟩ = false ∧
      DoPost w base g b D gw ps cs (.returned (.bool true)) (w'.setCell ⟨ps.getD pre.length 0, 5, none⟩ (.bool true)) := by
  have htp := h.tp
  rcases Bool.eq_false_or_eq_true cl.alive with ha | ha
  · exact (drop_yes pre post cl h.ar ha h.tot).mono fun e' w' ⟨he, har, ht⟩ => ⟨by rw [ha]; exact he,
      h.dropped hg hb hbD har (h.mo.turn h.ar ht hg hb (.inl rfl)) (h.fr.trans (Fr.of_turn h.ar ht h.hB)) (ht.blk h.ar h.cb_ (by decide) (by decide))⟩
  · have e : kill cl = cl := by cases cl; simp only at ha; subst ha; rfl
    have hd := h.dropped (w' := w2) hg hb hbD (by rw [e]; exact h.ar) h.mo h.fr h.cb_
    refine (drop_no h.ar (h.at_none ha) (by omega) htp).mono fun e' w' ⟨he, hb'⟩ => ⟨by rw [ha]; exact he, ?_⟩
    have h' := h.below hb' h.hB
    exact h'.dropped hg hb hbD (by rw [e]; exact h'.ar) h'.mo h'.fr h'.cb_
/-- may two literals be exchanged -/
def mayB (cl : Cl) (n m : Int) : Bool := cl.alive && decide (0 ≤ n ∧ n < (cl.lits.length : Int)) && decide (0 ≤ m ∧ m < (cl.lits.length : Int))
theorem In.swap (h : In w w2 base g b D cb xd gw ps cs pre post cl kd wh n m Dl) (hg : g < D) (hb : b < D) (i k : Int) : Calls Try.prog 21 #[.pointer (some ⟨g, 0, none⟩), .int .i64 (total pre : Nat), .int .i64 i, .int .i64 k] w2 fun e w' => e = .returned (.bool (mayB cl i k)) ∧ ∃ dl : Cl, dl.lits.length = cl.lits.length ∧ dl.alive = cl.alive ∧ In w w' base g b D cb xd gw ps cs pre post dl kd wh n m Dl := by
  have htp := h.tp
  cases ha : cl.alive with
  | false =>
    rw [← ha]
    exact (swap_no h.ar i k (h.at_none ha) (by omega) htp).mono fun e w' ⟨he, hb⟩ => ⟨by rw [he]; simp [mayB, ha], cl, rfl, rfl, h.below hb h.hB⟩
  | true =>
    rw [← ha]
    by_cases hr : (0 ≤ i ∧ i < (cl.lits.length : Int)) ∧ (0 ≤ k ∧ k < (cl.lits.length : Int))
    · obtain ⟨i', rfl⟩ : ∃ i' : Nat, i = i' := ⟨i.toNat, by omega⟩
      obtain ⟨k', rfl⟩ : ∃ k' : Nat, k = k' := ⟨k.toNat, by omega⟩
      refine (swap_yes pre post cl h.ar ha h.tot i' k' (by omega) (by omega)).mono fun e w' ⟨he, har, ht⟩ => ⟨by rw [he]; simp [mayB, ha]; omega, { cl with lits := swapOf cl.lits i' k' }, swapOf_length _ _ _, rfl, h.turn ht har (swapOf_length _ _ _) rfl hg hb⟩
    · refine (swap_bad pre post cl h.ar ha h.tot i k (by omega)).mono fun e w' ⟨he, hb⟩ => ⟨by rw [he]; simp only [mayB, ha, Bool.true_and]; refine congrArg (fun z => Ending.returned (Value.bool z)) ?_; symm; rw [Bool.and_eq_false_iff, decide_eq_false_iff_not, decide_eq_false_iff_not]; omega, cl, rfl, rfl, h.below hb h.hB⟩
/-- the statements' own literals exchanged -/
theorem In.swapped (h : In w w2 base g b D cb xd gw ps cs pre post cl kd wh n m Dl) (hg : g < D) (hb : b < D) (hbD : base ≤ D) {L : Nat} {zs : List Int} (hL : Blk w2 L 3 (zs.map (Value.int .i64)).toArray) (hLg : some L ≠ gw) (hLD : D ≤ L) (i k : Nat) (u v : Int) :
    DoPost w base g b D gw ps cs (.returned (.bool true)) ((w2.setCell ⟨L, i, none⟩ (.int .i64 u)).setCell ⟨L, k, none⟩ (.int .i64 v)) := by
  have h1 := h.far hL (.inl rfl) hLD hg hb hbD hLg i (.int .i64 u) (h.mo.all fun p s c hc => hc.int_ hL i u)
  have hL1 : Blk (w2.setCell ⟨L, i, none⟩ (.int .i64 u)) L 3 ((zs.set i u).map (Value.int .i64)).toArray := by
    have := hL.set_ i (.int .i64 u)
    simpa [List.map_set] using this
  exact (h1.far hL1 (.inl rfl) hLD hg hb hbD hLg k (.int .i64 v) (h1.mo.all fun p s c hc => hc.int_ hL1 k v)).done
end

set_option maxRecDepth 100000 in
set_option maxHeartbeats 8000000 in
theorem do_any {w : World} {base g b D : Nat} {gw : Option Nat} {cs : List Cl} {ps : List Nat} (ha : Ar w base g b gw 0 cs) (hm : Model w D gw ps cs) (hg : g < D) (hb : b < D) (hbD : base ≤ D) (ht : total cs ≤ 1099511627776) (A : Option Addr) (c : Nat)
    (hp : Cells w w.heap.size A ps.length fun j => .pointer (some ⟨ps.getD j 0, 0, none⟩)) (kd wh ll lc : Nat) (n m : Int) (Al : Option Addr) (hkd : kd ≤ 255) (hwh : wh ≤ 255) (hn0 : -9223372036854775808 ≤ n) (hn1 : n ≤ 9223372036854775807) (hm0 : -9223372036854775808 ≤ m) (hm1 : m ≤ 9223372036854775807) :
    Calls Try.prog 9 #[.pointer (some ⟨g, 0, none⟩), .slice A ps.length c, .agg #[.int .u8 kd, .int .i64 n, .int .i64 m, .slice Al ll lc, .int .u8 wh]] w (DoPost w base g b D gw ps cs) := by
  have hlen := hm.len
  have hlt := length_le_total cs
  by_cases h0 : ps.length = 0
  · have hcs : (w.alloc (.cells #[.int .u8 kd, .int .i64 n, .int .i64 m, .slice Al ll lc, .int .u8 wh] 30)) = w.alloc (.cells #[.int .u8 kd, .int .i64 n, .int .i64 m, .slice Al ll lc, .int .u8 wh] 30) := rfl
    have hB : base ≤ w.heap.size := by have := ha.glt; have := ha.hg; omega
    have FIN := Lib.hid (show DoPost w base g b D gw ps cs (.returned (.bool true)) (w.alloc (.cells #[.int .u8 kd, .int .i64 n, .int .i64 m, .slice Al ll lc, .int .u8 wh] 30)) from
      ⟨rfl, cs, ha.below ((Below.refl _ _).alloc (Nat.le_refl _) _), hm.below ((Below.refl _ _).alloc (Nat.le_refl _) _), rfl, Fr.of_below ((Below.refl _ _).alloc (Nat.le_refl _) _) hB⟩)
    rw [h0]
    clear ha hm hp hcs hlen hlt h0
    go_enter Try.func9, Try.ntmps9
    go_wp2
    go_ret
    exact FIN.out
  · obtain ⟨k, hk⟩ : ∃ k, k = wh % ps.length := ⟨_, rfl⟩
    have hkl : k < ps.length := by rw [hk]; exact Nat.mod_lt _ (by omega)
    obtain ⟨q, off, rfl, hq, hcell0⟩ := hp.at_ hkl
    have hkc : k < cs.length := by omega
    obtain ⟨pre, cl, post, hcs, hpl⟩ : ∃ pre cl post, cs = pre ++ cl :: post ∧ pre.length = k := ⟨cs.take k, cs[k], cs.drop (k + 1), by rw [← List.drop_eq_getElem_cons hkc, List.take_append_drop], by rw [List.length_take]; omega⟩
    have hrem : (wh : Int) % (ps.length : Int) = (k : Int) := by rw [hk]; simp
    have hnz : ¬ ((ps.length : Int) = 0) := by omega
    have hl9 : ps.length ≤ 1099511627776 := by omega
    have hw3 := low3 hkd
    obtain ⟨r, hr⟩ : ∃ r, r = kd % 8 := ⟨_, rfl⟩
    have hr8 : r < 8 := by omega
    rw [← hr] at hw3
    subst hcs
    obtain ⟨p, hpe⟩ : ∃ p, p = ps.getD k 0 := ⟨_, rfl⟩
    have hcell : w.cell? ⟨q, off + k, none⟩ = some (.pointer (some ⟨p, 0, none⟩)) := by rw [hpe]; exact hcell0
    clear hcell0
    obtain ⟨w2, hw2⟩ : ∃ w2, w2 = (w.alloc (.cells #[.int .u8 kd, .int .i64 n, .int .i64 m, .slice Al ll lc, .int .u8 wh] 30)).alloc (.cells #[.pointer (some ⟨p, 0, none⟩)] 34) := ⟨_, rfl⟩
    have hb2 : Below w.heap.size w w2 := by rw [hw2]; exact ((Below.refl _ _).alloc (Nat.le_refl _) _).alloc (by simp) _
    have hB : base ≤ w.heap.size := by have := ha.glt; have := ha.hg; omega
    have IN : In w w2 base g b D (w.heap.size + 1) w.heap.size gw ps (pre ++ cl :: post) pre post cl kd wh n m (.slice Al ll lc) := by
      refine ⟨ha.below hb2, hm.below hb2, rfl, Fr.of_below hb2 hB, ?_, ?_, ht⟩
      · rw [hw2, hpl, ← hpe]
        have := Blk.new (w.alloc (.cells #[.int .u8 kd, .int .i64 n, .int .i64 m, .slice Al ll lc, .int .u8 wh] 30)) 34 #[.pointer (some ⟨p, 0, none⟩)]
        simpa using this
      · rw [hw2]; exact (Blk.new w _ _).alloc _
    obtain ⟨L, n1, n2, lr, zs, hblk, hzl, hL, hLg, hLD⟩ := IN.cells
    have HIN := Lib.hid IN
    have HW2 := Lib.hid hw2
    have hlc : cl.lits.length ≤ 1099511627776 := by have := size_le_total pre post cl; unfold Cl.size at this; omega
    have htp : total pre ≤ 1099511627776 := by have := size_le_total pre post cl; omega
    rw [hpl, ← hpe] at hblk
    have HBK := Lib.hid hblk
    have HLL := Lib.hid (And.intro hzl (And.intro hL (And.intro hLg hLD)))
    have HPE := Lib.hid (show ps.getD pre.length 0 = p by rw [hpl, hpe])
    obtain ⟨tp, hte⟩ : ∃ tp, total pre = tp := ⟨_, rfl⟩
    clear ha hm hp hk hlen hlt IN hw2 hpl hpe hb2 hB hblk hzl hL hLg hLD ht
    by_cases r2 : kd % 8 = 2
    · have hk8 : (kd : Int) % 8 = 2 := by omega
      have hrs : r = 2 := by omega
      subst hrs
      clear hr r2
      have SG := HIN.out.drew.swap hg hb n m
      have hcb2 := HIN.out.cb_
      rw [HPE.out] at hcb2
      have IA := in_any (w.heap.size + 1) p L cl.lits.length (total pre : Nat) n1 n2 n lr (!cl.alive) w2 hcb2 HBK.out
      have IB := in_any (w.heap.size + 1) p L cl.lits.length (total pre : Nat) n1 n2 m lr (!cl.alive) w2 hcb2 HBK.out
      rw [Bool.not_not] at IA IB
      have RD := HIN.out.reads
      rw [HPE.out, hte] at RD
      obtain ⟨c0, p0, p5, x1, x2⟩ := RD
      rw [hte] at SG
      have KEEP := Lib.hid (fun (wx : World) (dl : Cl) (hi : In w wx base g b D (w.heap.size + 1) w.heap.size gw ps (pre ++ cl :: post) pre post dl kd wh n m (.slice Al ll lc)) => by
        have R := hi.reads
        rw [HPE.out, hte] at R
        exact (And.intro R.1 (And.intro R.2.1 (And.intro R.2.2.2.1 R.2.2.2.2)) : wx.cell? ⟨w.heap.size + 1, 0, none⟩ = some (.pointer (some ⟨p, 0, none⟩)) ∧ wx.cell? ⟨p, 0, none⟩ = some (.int .i64 (tp : Nat)) ∧ wx.cell? ⟨w.heap.size, 1, none⟩ = some (.int .i64 n) ∧ wx.cell? ⟨w.heap.size, 2, none⟩ = some (.int .i64 m)))
      have S0 := Lib.hid (And.intro c0 (And.intro p0 (And.intro x1 x2)))
      have hmb : mayB cl n m = (cl.alive && decide (0 ≤ n ∧ n < (cl.lits.length : Int)) && decide (0 ≤ m ∧ m < (cl.lits.length : Int))) := rfl
      rw [hmb] at SG
      clear hmb p0 p5
      have hdup : ∀ a b c : Bool, (a && b && c) = ((a && b) && (a && c)) := by decide
      rw [hdup] at SG
      obtain ⟨ba, hba⟩ : ∃ ba, ba = (cl.alive && decide (0 ≤ n ∧ n < (cl.lits.length : Int))) := ⟨_, rfl⟩
      obtain ⟨bb, hbb⟩ : ∃ bb, bb = (cl.alive && decide (0 ≤ m ∧ m < (cl.lits.length : Int))) := ⟨_, rfl⟩
      rw [← hba, ← hbb] at SG
      rw [← hba] at IA
      rw [← hbb] at IB
      have IA := Lib.hid IA
      have IB := Lib.hid IB
      have SG := Lib.hid SG
      have HBA := Lib.hid hba
      have HBB := Lib.hid hbb
      have hw2' := HW2.out
      clear hba hbb hdup hcb2
      have b0 : w2.cell? ⟨w.heap.size, 1, none⟩ = some (.int .i64 n) := x1
      rcases ba with _ | _
      · go_enter Try.func9, Try.ntmps9
        go_wp2_with fail
        rw [← hw2']
        clear hw2' hcell
        refine IA.out.mono ?_
        rintro e wq ⟨rfl, rfl⟩
        go_wp2_with fail
        go_region_held3 (fun w' => w'.cell? ⟨w.heap.size + 1, 0, none⟩ = some (.pointer (some ⟨p, 0, none⟩)) ∧ w'.cell? ⟨p, 0, none⟩ = some (.int .i64 (tp : Nat)) ∧ w'.cell? ⟨w.heap.size, 1, none⟩ = some (.int .i64 n) ∧ w'.cell? ⟨w.heap.size, 2, none⟩ = some (.int .i64 m))
          (first | exact KK5.out | exact S0.out | go_keep)
          ((go_at_call 21; refine SG.out.mono ?_; rintro e w5 ⟨rfl, dl, hd1, hd2, hin5⟩; have IN5 := Lib.hid hin5; have KK5 := Lib.hid (KEEP.out w5 dl hin5); have HD1 := Lib.hid hd1; clear hin5 hd1 hd2))
        go_wp2_with fail
        go_ret
        exact IN5.out.done
      · rcases bb with _ | _
        · go_enter Try.func9, Try.ntmps9
          go_wp2_with fail
          rw [← hw2']
          clear hw2' hcell
          refine IA.out.mono ?_
          rintro e wq ⟨rfl, rfl⟩
          go_wp2_with fail
          refine IB.out.mono ?_
          rintro e wq ⟨rfl, rfl⟩
          go_wp2_with fail
          go_region_held3 (fun w' => w'.cell? ⟨w.heap.size + 1, 0, none⟩ = some (.pointer (some ⟨p, 0, none⟩)) ∧ w'.cell? ⟨p, 0, none⟩ = some (.int .i64 (tp : Nat)) ∧ w'.cell? ⟨w.heap.size, 1, none⟩ = some (.int .i64 n) ∧ w'.cell? ⟨w.heap.size, 2, none⟩ = some (.int .i64 m))
            (first | exact KK5.out | exact S0.out | go_keep)
            ((go_at_call 21; refine SG.out.mono ?_; rintro e w5 ⟨rfl, dl, hd1, hd2, hin5⟩; have IN5 := Lib.hid hin5; have KK5 := Lib.hid (KEEP.out w5 dl hin5); have HD1 := Lib.hid hd1; clear hin5 hd1 hd2))
          go_wp2_with fail
          go_ret
          exact IN5.out.done
        · have hra := HBA.out
          have hrb := HBB.out
          simp only [Bool.true_eq, Bool.and_eq_true, decide_eq_true_eq] at hra hrb
          obtain ⟨_, ha0, ha1⟩ := hra
          obtain ⟨_, hb0, hb1⟩ := hrb
          go_enter Try.func9, Try.ntmps9
          go_wp2_with fail
          rw [← hw2']
          clear hw2' hcell
          refine IA.out.mono ?_
          rintro e wq ⟨rfl, rfl⟩
          go_wp2_with fail
          refine IB.out.mono ?_
          rintro e wq ⟨rfl, rfl⟩
          go_wp2_with fail
          go_region_held3 (fun w' => w'.cell? ⟨w.heap.size + 1, 0, none⟩ = some (.pointer (some ⟨p, 0, none⟩)) ∧ w'.cell? ⟨p, 0, none⟩ = some (.int .i64 (tp : Nat)) ∧ w'.cell? ⟨w.heap.size, 1, none⟩ = some (.int .i64 n) ∧ w'.cell? ⟨w.heap.size, 2, none⟩ = some (.int .i64 m))
            (first | exact KK5.out | exact S0.out | go_keep)
            ((go_at_call 21; refine SG.out.mono ?_; rintro e w5 ⟨rfl, dl, hd1, hd2, hin5⟩; have IN5 := Lib.hid hin5; have KK5 := Lib.hid (KEEP.out w5 dl hin5); have HD1 := Lib.hid hd1; clear hin5 hd1 hd2))
          obtain ⟨c0', p0', x1', x2'⟩ := KK5.out
          obtain ⟨L5, n15, n25, lr5, zs5, hk5, hz5, hL5, hg5, hD5⟩ := IN5.out.cells
          rw [HPE.out] at hk5
          rw [HD1.out] at hk5 hz5
          have p3 := hk5.cell 3
          simp at p3
          obtain ⟨i, hi⟩ : ∃ i : Nat, n = i := ⟨n.toNat, by omega⟩
          obtain ⟨j, hj⟩ : ∃ j : Nat, m = j := ⟨m.toNat, by omega⟩
          have hil : i < zs5.length := by omega
          have hjl : j < zs5.length := by omega
          have ci : w5.cell? ⟨L5, i, none⟩ = some (.int .i64 (zs5.getD i 0)) := by rw [hL5.cell i]; simp [List.getD, hil]
          have cj : w5.cell? ⟨L5, j, none⟩ = some (.int .i64 (zs5.getD j 0)) := by rw [hL5.cell j]; simp [List.getD, hjl]
          have fi := hL5.frozen i
          have fj := hL5.frozen j
          have ne1 : L5 ≠ p := hL5.ne_ hk5 (by decide)
          have ne2 : L5 ≠ w.heap.size + 1 := hL5.ne_ IN5.out.cb_ (by decide)
          have ne3 : L5 ≠ w.heap.size := hL5.ne_ IN5.out.xd_ (by decide)
          have FIN := Lib.hid (fun u v => IN5.out.drew.swapped hg hb hbD hL5.drew_ hg5 hD5 i j u v)
          obtain ⟨yi, hyi⟩ : ∃ yi, yi = zs5.getD i 0 := ⟨_, rfl⟩
          obtain ⟨yj, hyj⟩ : ∃ yj, yj = zs5.getD j 0 := ⟨_, rfl⟩
          rw [← hyi] at ci
          rw [← hyj] at cj
          rw [hi] at x1' ha0 ha1
          rw [hj] at x2' hb0 hb1
          have S1 := Lib.hid (And.intro c0' (And.intro p3 (And.intro x1' x2')))
          have SS := Lib.hid (fun (wx : World) (u : Int) (t : Nat) (hs : (fun w' : World => w'.cell? ⟨w.heap.size + 1, 0, none⟩ = some (.pointer (some ⟨p, 0, none⟩)) ∧ w'.cell? ⟨p, 3, none⟩ = some (.slice (some ⟨L5, 0, none⟩) cl.lits.length cl.lits.length) ∧ w'.cell? ⟨w.heap.size, 1, none⟩ = some (.int .i64 i) ∧ w'.cell? ⟨w.heap.size, 2, none⟩ = some (.int .i64 j)) wx) => (show (fun w' : World => w'.cell? ⟨w.heap.size + 1, 0, none⟩ = some (.pointer (some ⟨p, 0, none⟩)) ∧ w'.cell? ⟨p, 3, none⟩ = some (.slice (some ⟨L5, 0, none⟩) cl.lits.length cl.lits.length) ∧ w'.cell? ⟨w.heap.size, 1, none⟩ = some (.int .i64 i) ∧ w'.cell? ⟨w.heap.size, 2, none⟩ = some (.int .i64 j)) (wx.setCell ⟨L5, t, none⟩ (.int .i64 u)) from by
            obtain ⟨s1, s2, s3, s4⟩ := hs
            refine ⟨?_, ?_, ?_, ?_⟩
            · rw [World.cell?_setCell_other _ _ _ _ (by intro e'; injection e'; omega)]; exact s1
            · rw [World.cell?_setCell_other _ _ _ _ (by intro e'; injection e'; omega)]; exact s2
            · rw [World.cell?_setCell_other _ _ _ _ (by intro e'; injection e'; omega)]; exact s3
            · rw [World.cell?_setCell_other _ _ _ _ (by intro e'; injection e'; omega)]; exact s4))
          have ck2 : (w5.setCell ⟨L5, i, none⟩ (.int .i64 yj)).cell? ⟨L5, j, none⟩ = some (.int .i64 yj) := by
            by_cases e : i = j
            · subst e; exact World.cell?_setCell_same' _ _ _ (by rw [ci]; rfl)
            · rw [World.cell?_setCell_other _ _ _ _ (by intro e'; injection e'; omega)]; exact cj
          have fk2 : (w5.setCell ⟨L5, i, none⟩ (.int .i64 yj)).frozen? ⟨L5, j, none⟩ = false := by rw [World.frozen?_setCell]; exact fj
          clear hyi hyj hz5 hk5 hL5 hi hj c0' p3 x1' x2' p0' c0 x1 x2 b0 hil hjl
          go_wp2_with fail
          refine wp_region_held_drew (S := (fun w' => w'.cell? ⟨w.heap.size + 1, 0, none⟩ = some (.pointer (some ⟨p, 0, none⟩)) ∧ w'.cell? ⟨p, 3, none⟩ = some (.slice (some ⟨L5, 0, none⟩) cl.lits.length cl.lits.length) ∧ w'.cell? ⟨w.heap.size, 1, none⟩ = some (.int .i64 i) ∧ w'.cell? ⟨w.heap.size, 2, none⟩ = some (.int .i64 j))) (by kernel_rfl) S1.out (fun hHeld => ?_)
          refine wpAnyH_take (i := 0) (oi := { dst := some 51, op := Op.load 34 (Operand.tmp 7), type := 34, pos := "law.go:81", after := #[], guard := none }) (v := .pointer (some ⟨p, 0, none⟩)) rfl (by kernel_rfl) (by kernel_rfl) (by kernel_rfl) (fun _ _ _ h => h) (Or.inl ⟨by rfl, ?_⟩) (by assumption) ?_
          · (intro w9 hSw; (try dsimp only at hSw); go_simp)
          try simp only [Act.put, List.setIfInBounds_toArray, List.set_cons_zero, List.set_cons_succ]
          refine wpAnyH_take (i := 1) (oi := { dst := some 52, op := Op.nilCheck (Operand.tmp 51), type := 0, pos := "law.go:81", after := #[{ on := 0, ground := Ground.data }], guard := none }) (v := .pointer (some ⟨p, 0, none⟩)) rfl (by kernel_rfl) (by kernel_rfl) (by kernel_rfl) (fun _ _ _ h => h) (Or.inl ⟨by rfl, ?_⟩) (by assumption) ?_
          · (intro w9 hSw; (try dsimp only at hSw); go_simp)
          try simp only [Act.put, List.setIfInBounds_toArray, List.set_cons_zero, List.set_cons_succ]
          refine wpAnyH_take (i := 2) (oi := { dst := some 53, op := Op.fieldAddr 36 (Operand.tmp 52) 3, type := 0, pos := "law.go:81", after := #[{ on := 1, ground := Ground.data }], guard := none }) (v := .pointer (some ⟨p, 3, none⟩)) rfl (by kernel_rfl) (by kernel_rfl) (by kernel_rfl) (fun _ _ _ h => h) (Or.inl ⟨by rfl, ?_⟩) (by assumption) ?_
          · (intro w9 hSw; (try dsimp only at hSw); go_simp)
          try simp only [Act.put, List.setIfInBounds_toArray, List.set_cons_zero, List.set_cons_succ]
          refine wpAnyH_take (i := 3) (oi := { dst := some 54, op := Op.load 31 (Operand.tmp 53), type := 31, pos := "law.go:81", after := #[{ on := 2, ground := Ground.data }], guard := none }) (v := .slice (some ⟨L5, 0, none⟩) cl.lits.length cl.lits.length) rfl (by kernel_rfl) (by kernel_rfl) (by kernel_rfl) (fun _ _ _ h => h) (Or.inl ⟨by rfl, ?_⟩) (by assumption) ?_
          · (intro w9 hSw; (try dsimp only at hSw); go_simp)
          try simp only [Act.put, List.setIfInBounds_toArray, List.set_cons_zero, List.set_cons_succ]
          refine wpAnyH_take (i := 4) (oi := { dst := some 55, op := Op.fieldAddr 30 (Operand.tmp 5) 1, type := 0, pos := "law.go:81", after := #[], guard := none }) (v := .pointer (some ⟨w.heap.size, 1, none⟩)) rfl (by kernel_rfl) (by kernel_rfl) (by kernel_rfl) (fun _ _ _ h => h) (Or.inl ⟨by rfl, ?_⟩) (by assumption) ?_
          · (intro w9 hSw; (try dsimp only at hSw); go_simp)
          try simp only [Act.put, List.setIfInBounds_toArray, List.set_cons_zero, List.set_cons_succ]
          refine wpAnyH_take (i := 5) (oi := { dst := some 56, op := Op.load 3 (Operand.tmp 55), type := 3, pos := "law.go:81", after := #[{ on := 4, ground := Ground.data }], guard := none }) (v := .int .i64 i) rfl (by kernel_rfl) (by kernel_rfl) (by kernel_rfl) (fun _ _ _ h => h) (Or.inl ⟨by rfl, ?_⟩) (by assumption) ?_
          · (intro w9 hSw; (try dsimp only at hSw); go_simp)
          try simp only [Act.put, List.setIfInBounds_toArray, List.set_cons_zero, List.set_cons_succ]
          refine wpAnyH_take (i := 6) (oi := { dst := some 57, op := Op.load 34 (Operand.tmp 7), type := 34, pos := "law.go:81", after := #[], guard := none }) (v := .pointer (some ⟨p, 0, none⟩)) rfl (by kernel_rfl) (by kernel_rfl) (by kernel_rfl) (fun _ _ _ h => h) (Or.inl ⟨by rfl, ?_⟩) (by assumption) ?_
          · (intro w9 hSw; (try dsimp only at hSw); go_simp)
          try simp only [Act.put, List.setIfInBounds_toArray, List.set_cons_zero, List.set_cons_succ]
          refine wpAnyH_take (i := 7) (oi := { dst := some 58, op := Op.nilCheck (Operand.tmp 57), type := 0, pos := "law.go:81", after := #[{ on := 6, ground := Ground.data }], guard := none }) (v := .pointer (some ⟨p, 0, none⟩)) rfl (by kernel_rfl) (by kernel_rfl) (by kernel_rfl) (fun _ _ _ h => h) (Or.inl ⟨by rfl, ?_⟩) (by assumption) ?_
          · (intro w9 hSw; (try dsimp only at hSw); go_simp)
          try simp only [Act.put, List.setIfInBounds_toArray, List.set_cons_zero, List.set_cons_succ]
          refine wpAnyH_take (i := 8) (oi := { dst := some 59, op := Op.fieldAddr 36 (Operand.tmp 58) 3, type := 0, pos := "law.go:81", after := #[{ on := 7, ground := Ground.data }], guard := none }) (v := .pointer (some ⟨p, 3, none⟩)) rfl (by kernel_rfl) (by kernel_rfl) (by kernel_rfl) (fun _ _ _ h => h) (Or.inl ⟨by rfl, ?_⟩) (by assumption) ?_
          · (intro w9 hSw; (try dsimp only at hSw); go_simp)
          try simp only [Act.put, List.setIfInBounds_toArray, List.set_cons_zero, List.set_cons_succ]
          refine wpAnyH_take (i := 9) (oi := { dst := some 60, op := Op.load 31 (Operand.tmp 59), type := 31, pos := "law.go:81", after := #[{ on := 8, ground := Ground.data }], guard := none }) (v := .slice (some ⟨L5, 0, none⟩) cl.lits.length cl.lits.length) rfl (by kernel_rfl) (by kernel_rfl) (by kernel_rfl) (fun _ _ _ h => h) (Or.inl ⟨by rfl, ?_⟩) (by assumption) ?_
          · (intro w9 hSw; (try dsimp only at hSw); go_simp)
          try simp only [Act.put, List.setIfInBounds_toArray, List.set_cons_zero, List.set_cons_succ]
          refine wpAnyH_take (i := 10) (oi := { dst := some 61, op := Op.fieldAddr 30 (Operand.tmp 5) 2, type := 0, pos := "law.go:81", after := #[{ on := 29, ground := Ground.gcOnly Departure.lateStores }], guard := none }) (v := .pointer (some ⟨w.heap.size, 2, none⟩)) rfl (by kernel_rfl) (by kernel_rfl) (by kernel_rfl) (fun _ _ _ h => h) (Or.inl ⟨by rfl, ?_⟩) (by assumption) ?_
          · (intro w9 hSw; (try dsimp only at hSw); go_simp)
          try simp only [Act.put, List.setIfInBounds_toArray, List.set_cons_zero, List.set_cons_succ]
          refine wpAnyH_take (i := 11) (oi := { dst := some 62, op := Op.load 3 (Operand.tmp 61), type := 3, pos := "law.go:81", after := #[{ on := 10, ground := Ground.data }, { on := 29, ground := Ground.gcOnly Departure.lateStores }], guard := none }) (v := .int .i64 j) rfl (by kernel_rfl) (by kernel_rfl) (by kernel_rfl) (fun _ _ _ h => h) (Or.inl ⟨by rfl, ?_⟩) (by assumption) ?_
          · (intro w9 hSw; (try dsimp only at hSw); go_simp)
          try simp only [Act.put, List.setIfInBounds_toArray, List.set_cons_zero, List.set_cons_succ]
          refine wpAnyH_take (i := 12) (oi := { dst := some 63, op := Op.load 34 (Operand.tmp 7), type := 34, pos := "law.go:81", after := #[], guard := none }) (v := .pointer (some ⟨p, 0, none⟩)) rfl (by kernel_rfl) (by kernel_rfl) (by kernel_rfl) (fun _ _ _ h => h) (Or.inl ⟨by rfl, ?_⟩) (by assumption) ?_
          · (intro w9 hSw; (try dsimp only at hSw); go_simp)
          try simp only [Act.put, List.setIfInBounds_toArray, List.set_cons_zero, List.set_cons_succ]
          refine wpAnyH_take (i := 13) (oi := { dst := some 64, op := Op.nilCheck (Operand.tmp 63), type := 0, pos := "law.go:81", after := #[{ on := 12, ground := Ground.data }], guard := none }) (v := .pointer (some ⟨p, 0, none⟩)) rfl (by kernel_rfl) (by kernel_rfl) (by kernel_rfl) (fun _ _ _ h => h) (Or.inl ⟨by rfl, ?_⟩) (by assumption) ?_
          · (intro w9 hSw; (try dsimp only at hSw); go_simp)
          try simp only [Act.put, List.setIfInBounds_toArray, List.set_cons_zero, List.set_cons_succ]
          refine wpAnyH_take (i := 14) (oi := { dst := some 65, op := Op.fieldAddr 36 (Operand.tmp 64) 3, type := 0, pos := "law.go:81", after := #[{ on := 13, ground := Ground.data }], guard := none }) (v := .pointer (some ⟨p, 3, none⟩)) rfl (by kernel_rfl) (by kernel_rfl) (by kernel_rfl) (fun _ _ _ h => h) (Or.inl ⟨by rfl, ?_⟩) (by assumption) ?_
          · (intro w9 hSw; (try dsimp only at hSw); go_simp)
          try simp only [Act.put, List.setIfInBounds_toArray, List.set_cons_zero, List.set_cons_succ]
          refine wpAnyH_take (i := 15) (oi := { dst := some 66, op := Op.load 31 (Operand.tmp 65), type := 31, pos := "law.go:81", after := #[{ on := 14, ground := Ground.data }], guard := none }) (v := .slice (some ⟨L5, 0, none⟩) cl.lits.length cl.lits.length) rfl (by kernel_rfl) (by kernel_rfl) (by kernel_rfl) (fun _ _ _ h => h) (Or.inl ⟨by rfl, ?_⟩) (by assumption) ?_
          · (intro w9 hSw; (try dsimp only at hSw); go_simp)
          try simp only [Act.put, List.setIfInBounds_toArray, List.set_cons_zero, List.set_cons_succ]
          refine wpAnyH_take (i := 16) (oi := { dst := some 67, op := Op.fieldAddr 30 (Operand.tmp 5) 2, type := 0, pos := "law.go:81", after := #[], guard := none }) (v := .pointer (some ⟨w.heap.size, 2, none⟩)) rfl (by kernel_rfl) (by kernel_rfl) (by kernel_rfl) (fun _ _ _ h => h) (Or.inl ⟨by rfl, ?_⟩) (by assumption) ?_
          · (intro w9 hSw; (try dsimp only at hSw); go_simp)
          try simp only [Act.put, List.setIfInBounds_toArray, List.set_cons_zero, List.set_cons_succ]
          refine wpAnyH_take (i := 17) (oi := { dst := some 68, op := Op.load 3 (Operand.tmp 67), type := 3, pos := "law.go:81", after := #[{ on := 16, ground := Ground.data }], guard := none }) (v := .int .i64 j) rfl (by kernel_rfl) (by kernel_rfl) (by kernel_rfl) (fun _ _ _ h => h) (Or.inl ⟨by rfl, ?_⟩) (by assumption) ?_
          · (intro w9 hSw; (try dsimp only at hSw); go_simp)
          try simp only [Act.put, List.setIfInBounds_toArray, List.set_cons_zero, List.set_cons_succ]
          refine wpAnyH_take (i := 18) (oi := { dst := some 69, op := Op.indexAddr 31 (Operand.tmp 66) (Operand.tmp 68), type := 0, pos := "law.go:81", after := #[{ on := 15, ground := Ground.data }, { on := 17, ground := Ground.data }], guard := none }) (v := .pointer (some ⟨L5, j, none⟩)) rfl (by kernel_rfl) (by kernel_rfl) (by kernel_rfl) (fun _ _ _ h => h) (Or.inl ⟨by rfl, ?_⟩) (by assumption) ?_
          · (intro w9 hSw; (try dsimp only at hSw); go_simp)
          try simp only [Act.put, List.setIfInBounds_toArray, List.set_cons_zero, List.set_cons_succ]
          refine wpAnyH_take (i := 20) (oi := { dst := some 71, op := Op.load 34 (Operand.tmp 7), type := 34, pos := "law.go:81", after := #[], guard := none }) (v := .pointer (some ⟨p, 0, none⟩)) rfl (by kernel_rfl) (by kernel_rfl) (by kernel_rfl) (fun _ _ _ h => h) (Or.inl ⟨by rfl, ?_⟩) (by assumption) ?_
          · (intro w9 hSw; (try dsimp only at hSw); go_simp)
          try simp only [Act.put, List.setIfInBounds_toArray, List.set_cons_zero, List.set_cons_succ]
          refine wpAnyH_take (i := 21) (oi := { dst := some 72, op := Op.nilCheck (Operand.tmp 71), type := 0, pos := "law.go:81", after := #[{ on := 20, ground := Ground.data }], guard := none }) (v := .pointer (some ⟨p, 0, none⟩)) rfl (by kernel_rfl) (by kernel_rfl) (by kernel_rfl) (fun _ _ _ h => h) (Or.inl ⟨by rfl, ?_⟩) (by assumption) ?_
          · (intro w9 hSw; (try dsimp only at hSw); go_simp)
          try simp only [Act.put, List.setIfInBounds_toArray, List.set_cons_zero, List.set_cons_succ]
          refine wpAnyH_take (i := 22) (oi := { dst := some 73, op := Op.fieldAddr 36 (Operand.tmp 72) 3, type := 0, pos := "law.go:81", after := #[{ on := 21, ground := Ground.data }], guard := none }) (v := .pointer (some ⟨p, 3, none⟩)) rfl (by kernel_rfl) (by kernel_rfl) (by kernel_rfl) (fun _ _ _ h => h) (Or.inl ⟨by rfl, ?_⟩) (by assumption) ?_
          · (intro w9 hSw; (try dsimp only at hSw); go_simp)
          try simp only [Act.put, List.setIfInBounds_toArray, List.set_cons_zero, List.set_cons_succ]
          refine wpAnyH_take (i := 23) (oi := { dst := some 74, op := Op.load 31 (Operand.tmp 73), type := 31, pos := "law.go:81", after := #[{ on := 22, ground := Ground.data }], guard := none }) (v := .slice (some ⟨L5, 0, none⟩) cl.lits.length cl.lits.length) rfl (by kernel_rfl) (by kernel_rfl) (by kernel_rfl) (fun _ _ _ h => h) (Or.inl ⟨by rfl, ?_⟩) (by assumption) ?_
          · (intro w9 hSw; (try dsimp only at hSw); go_simp)
          try simp only [Act.put, List.setIfInBounds_toArray, List.set_cons_zero, List.set_cons_succ]
          refine wpAnyH_take (i := 24) (oi := { dst := some 75, op := Op.fieldAddr 30 (Operand.tmp 5) 1, type := 0, pos := "law.go:81", after := #[], guard := none }) (v := .pointer (some ⟨w.heap.size, 1, none⟩)) rfl (by kernel_rfl) (by kernel_rfl) (by kernel_rfl) (fun _ _ _ h => h) (Or.inl ⟨by rfl, ?_⟩) (by assumption) ?_
          · (intro w9 hSw; (try dsimp only at hSw); go_simp)
          try simp only [Act.put, List.setIfInBounds_toArray, List.set_cons_zero, List.set_cons_succ]
          refine wpAnyH_take (i := 25) (oi := { dst := some 76, op := Op.load 3 (Operand.tmp 75), type := 3, pos := "law.go:81", after := #[{ on := 24, ground := Ground.data }], guard := none }) (v := .int .i64 i) rfl (by kernel_rfl) (by kernel_rfl) (by kernel_rfl) (fun _ _ _ h => h) (Or.inl ⟨by rfl, ?_⟩) (by assumption) ?_
          · (intro w9 hSw; (try dsimp only at hSw); go_simp)
          try simp only [Act.put, List.setIfInBounds_toArray, List.set_cons_zero, List.set_cons_succ]
          refine wpAnyH_take (i := 26) (oi := { dst := some 77, op := Op.indexAddr 31 (Operand.tmp 74) (Operand.tmp 76), type := 0, pos := "law.go:81", after := #[{ on := 23, ground := Ground.data }, { on := 25, ground := Ground.data }], guard := none }) (v := .pointer (some ⟨L5, i, none⟩)) rfl (by kernel_rfl) (by kernel_rfl) (by kernel_rfl) (fun _ _ _ h => h) (Or.inl ⟨by rfl, ?_⟩) (by assumption) ?_
          · (intro w9 hSw; (try dsimp only at hSw); go_simp)
          try simp only [Act.put, List.setIfInBounds_toArray, List.set_cons_zero, List.set_cons_succ]
          refine wpAnyH_ready (rs := [19, 27]) (by kernel_rfl) (by simp) ?_
          refine AllReadyH.cons (o := { dst := some 70, op := Op.load 3 (Operand.tmp 69), type := 3, pos := "law.go:81", after := #[{ on := 18, ground := Ground.data }], guard := none }) rfl (fun K hK => ?_) (AllReadyH.cons (o := { dst := some 78, op := Op.load 3 (Operand.tmp 77), type := 3, pos := "law.go:81", after := #[{ on := 26, ground := Ground.data }], guard := none }) rfl (fun K hK => ?_) AllReadyH.nil)
          · go_simp
            refine hK.out _ _ S1.out (fun hHeld => ?_)
            clear hK K
            try simp only [Act.put, List.setIfInBounds_toArray, List.set_cons_zero, List.set_cons_succ]
            refine wpAnyH_ready (rs := [27]) (by kernel_rfl) (by simp) ?_
            refine AllReadyH.cons (o := { dst := some 78, op := Op.load 3 (Operand.tmp 77), type := 3, pos := "law.go:81", after := #[{ on := 26, ground := Ground.data }], guard := none }) rfl (fun K hK => ?_) AllReadyH.nil
            go_simp
            refine hK.out _ _ S1.out (fun hHeld => ?_)
            clear hK K
            try simp only [Act.put, List.setIfInBounds_toArray, List.set_cons_zero, List.set_cons_succ]
            refine wpAnyH_take (i := 28) (oi := { dst := some 79, op := Op.indexAddr 31 (Operand.tmp 54) (Operand.tmp 56), type := 0, pos := "law.go:81", after := #[{ on := 3, ground := Ground.data }, { on := 5, ground := Ground.data }, { on := 0, ground := Ground.phase }, { on := 1, ground := Ground.phase }, { on := 2, ground := Ground.phase }, { on := 3, ground := Ground.phase }, { on := 4, ground := Ground.phase }, { on := 5, ground := Ground.phase }, { on := 6, ground := Ground.textOnly Departure.lateStores }, { on := 7, ground := Ground.textOnly Departure.lateStoresUnsure }, { on := 8, ground := Ground.textOnly Departure.lateStoresUnsure }, { on := 9, ground := Ground.phase }, { on := 10, ground := Ground.textOnly Departure.lateStores }, { on := 11, ground := Ground.textOnly Departure.lateStores }, { on := 12, ground := Ground.phase }, { on := 13, ground := Ground.phase }, { on := 14, ground := Ground.phase }, { on := 15, ground := Ground.phase }, { on := 16, ground := Ground.phase }, { on := 17, ground := Ground.phase }, { on := 18, ground := Ground.phase }, { on := 19, ground := Ground.phase }, { on := 20, ground := Ground.textOnly Departure.lateStores }, { on := 21, ground := Ground.textOnly Departure.lateStoresUnsure }, { on := 22, ground := Ground.textOnly Departure.lateStoresUnsure }, { on := 23, ground := Ground.phase }, { on := 24, ground := Ground.textOnly Departure.lateStores }, { on := 25, ground := Ground.textOnly Departure.lateStores }, { on := 26, ground := Ground.textOnly Departure.lateStoresUnsure }, { on := 27, ground := Ground.phase }], guard := none }) (v := .pointer (some ⟨L5, i, none⟩)) rfl (by kernel_rfl) (by kernel_rfl) (by kernel_rfl) (fun _ _ _ h => h) (Or.inl ⟨by rfl, ?_⟩) (by assumption) ?_
            · (intro w9 hSw; (try dsimp only at hSw); go_simp)
            try simp only [Act.put, List.setIfInBounds_toArray, List.set_cons_zero, List.set_cons_succ]
            refine wpAnyH_ready (rs := [29]) (by kernel_rfl) (by simp) ?_
            refine AllReadyH.cons (o := { dst := none, op := Op.store 3 (Operand.tmp 79) (Operand.tmp 70), type := 0, pos := "law.go:81", after := #[{ on := 28, ground := Ground.data }, { on := 19, ground := Ground.data }, { on := 0, ground := Ground.phase }, { on := 1, ground := Ground.phase }, { on := 2, ground := Ground.phase }, { on := 3, ground := Ground.phase }, { on := 4, ground := Ground.phase }, { on := 5, ground := Ground.phase }, { on := 6, ground := Ground.textOnly Departure.lateStores }, { on := 7, ground := Ground.textOnly Departure.lateStoresUnsure }, { on := 8, ground := Ground.textOnly Departure.lateStoresUnsure }, { on := 9, ground := Ground.phase }, { on := 10, ground := Ground.textOnly Departure.lateStores }, { on := 11, ground := Ground.textOnly Departure.lateStores }, { on := 12, ground := Ground.phase }, { on := 13, ground := Ground.phase }, { on := 14, ground := Ground.phase }, { on := 15, ground := Ground.phase }, { on := 16, ground := Ground.phase }, { on := 17, ground := Ground.phase }, { on := 18, ground := Ground.phase }, { on := 19, ground := Ground.phase }, { on := 20, ground := Ground.textOnly Departure.lateStores }, { on := 21, ground := Ground.textOnly Departure.lateStoresUnsure }, { on := 22, ground := Ground.textOnly Departure.lateStoresUnsure }, { on := 23, ground := Ground.phase }, { on := 24, ground := Ground.textOnly Departure.lateStores }, { on := 25, ground := Ground.textOnly Departure.lateStores }, { on := 26, ground := Ground.textOnly Departure.lateStoresUnsure }, { on := 27, ground := Ground.phase }], guard := none }) rfl (fun K hK => ?_) AllReadyH.nil
            go_simp
            refine hK.out _ _ (SS.out _ _ _ S1.out) (fun hHeld => ?_)
            clear hK K
            try simp only [Act.put, List.setIfInBounds_toArray, List.set_cons_zero, List.set_cons_succ]
            refine wpAnyH_take (i := 30) (oi := { dst := some 80, op := Op.indexAddr 31 (Operand.tmp 60) (Operand.tmp 62), type := 0, pos := "law.go:81", after := #[{ on := 9, ground := Ground.data }, { on := 11, ground := Ground.data }, { on := 0, ground := Ground.phase }, { on := 1, ground := Ground.phase }, { on := 2, ground := Ground.phase }, { on := 3, ground := Ground.phase }, { on := 4, ground := Ground.phase }, { on := 5, ground := Ground.phase }, { on := 6, ground := Ground.phase }, { on := 7, ground := Ground.phase }, { on := 8, ground := Ground.phase }, { on := 9, ground := Ground.phase }, { on := 10, ground := Ground.phase }, { on := 11, ground := Ground.phase }, { on := 12, ground := Ground.phase }, { on := 13, ground := Ground.phase }, { on := 14, ground := Ground.phase }, { on := 15, ground := Ground.phase }, { on := 16, ground := Ground.phase }, { on := 17, ground := Ground.phase }, { on := 18, ground := Ground.phase }, { on := 19, ground := Ground.phase }, { on := 20, ground := Ground.phase }, { on := 21, ground := Ground.phase }, { on := 22, ground := Ground.phase }, { on := 23, ground := Ground.phase }, { on := 24, ground := Ground.phase }, { on := 25, ground := Ground.phase }, { on := 26, ground := Ground.phase }, { on := 27, ground := Ground.phase }, { on := 28, ground := Ground.phase }, { on := 29, ground := Ground.phase }], guard := none }) (v := .pointer (some ⟨L5, j, none⟩)) rfl (by kernel_rfl) (by kernel_rfl) (by kernel_rfl) (fun _ _ _ h => h) (Or.inl ⟨by rfl, ?_⟩) (by assumption) ?_
            · (intro w9 hSw; (try dsimp only at hSw); go_simp)
            try simp only [Act.put, List.setIfInBounds_toArray, List.set_cons_zero, List.set_cons_succ]
            refine wpAnyH_ready (rs := [31]) (by kernel_rfl) (by simp) ?_
            refine AllReadyH.cons (o := { dst := none, op := Op.store 3 (Operand.tmp 80) (Operand.tmp 78), type := 0, pos := "law.go:81", after := #[{ on := 30, ground := Ground.data }, { on := 27, ground := Ground.data }, { on := 29, ground := Ground.chain }, { on := 0, ground := Ground.phase }, { on := 1, ground := Ground.phase }, { on := 2, ground := Ground.phase }, { on := 3, ground := Ground.phase }, { on := 4, ground := Ground.phase }, { on := 5, ground := Ground.phase }, { on := 6, ground := Ground.phase }, { on := 7, ground := Ground.phase }, { on := 8, ground := Ground.phase }, { on := 9, ground := Ground.phase }, { on := 10, ground := Ground.phase }, { on := 11, ground := Ground.phase }, { on := 12, ground := Ground.phase }, { on := 13, ground := Ground.phase }, { on := 14, ground := Ground.phase }, { on := 15, ground := Ground.phase }, { on := 16, ground := Ground.phase }, { on := 17, ground := Ground.phase }, { on := 18, ground := Ground.phase }, { on := 19, ground := Ground.phase }, { on := 20, ground := Ground.phase }, { on := 21, ground := Ground.phase }, { on := 22, ground := Ground.phase }, { on := 23, ground := Ground.phase }, { on := 24, ground := Ground.phase }, { on := 25, ground := Ground.phase }, { on := 26, ground := Ground.phase }, { on := 27, ground := Ground.phase }, { on := 28, ground := Ground.phase }, { on := 29, ground := Ground.phase }], guard := none }) rfl (fun K hK => ?_) AllReadyH.nil
            go_simp
            refine hK.out _ _ (SS.out _ _ _ (SS.out _ _ _ S1.out)) (fun hHeld => ?_)
            clear hK K
            try simp only [Act.put, List.setIfInBounds_toArray, List.set_cons_zero, List.set_cons_succ]
            refine wpAnyH_done (by kernel_rfl) ?_ _
            go_wp2_with fail
            go_ret
            exact FIN.out yj yi
          · go_simp
            refine hK.out _ _ S1.out (fun hHeld => ?_)
            clear hK K
            try simp only [Act.put, List.setIfInBounds_toArray, List.set_cons_zero, List.set_cons_succ]
            refine wpAnyH_ready (rs := [19]) (by kernel_rfl) (by simp) ?_
            refine AllReadyH.cons (o := { dst := some 70, op := Op.load 3 (Operand.tmp 69), type := 3, pos := "law.go:81", after := #[{ on := 18, ground := Ground.data }], guard := none }) rfl (fun K hK => ?_) AllReadyH.nil
            go_simp
            refine hK.out _ _ S1.out (fun hHeld => ?_)
            clear hK K
            try simp only [Act.put, List.setIfInBounds_toArray, List.set_cons_zero, List.set_cons_succ]
            refine wpAnyH_take (i := 28) (oi := { dst := some 79, op := Op.indexAddr 31 (Operand.tmp 54) (Operand.tmp 56), type := 0, pos := "law.go:81", after := #[{ on := 3, ground := Ground.data }, { on := 5, ground := Ground.data }, { on := 0, ground := Ground.phase }, { on := 1, ground := Ground.phase }, { on := 2, ground := Ground.phase }, { on := 3, ground := Ground.phase }, { on := 4, ground := Ground.phase }, { on := 5, ground := Ground.phase }, { on := 6, ground := Ground.textOnly Departure.lateStores }, { on := 7, ground := Ground.textOnly Departure.lateStoresUnsure }, { on := 8, ground := Ground.textOnly Departure.lateStoresUnsure }, { on := 9, ground := Ground.phase }, { on := 10, ground := Ground.textOnly Departure.lateStores }, { on := 11, ground := Ground.textOnly Departure.lateStores }, { on := 12, ground := Ground.phase }, { on := 13, ground := Ground.phase }, { on := 14, ground := Ground.phase }, { on := 15, ground := Ground.phase }, { on := 16, ground := Ground.phase }, { on := 17, ground := Ground.phase }, { on := 18, ground := Ground.phase }, { on := 19, ground := Ground.phase }, { on := 20, ground := Ground.textOnly Departure.lateStores }, { on := 21, ground := Ground.textOnly Departure.lateStoresUnsure }, { on := 22, ground := Ground.textOnly Departure.lateStoresUnsure }, { on := 23, ground := Ground.phase }, { on := 24, ground := Ground.textOnly Departure.lateStores }, { on := 25, ground := Ground.textOnly Departure.lateStores }, { on := 26, ground := Ground.textOnly Departure.lateStoresUnsure }, { on := 27, ground := Ground.phase }], guard := none }) (v := .pointer (some ⟨L5, i, none⟩)) rfl (by kernel_rfl) (by kernel_rfl) (by kernel_rfl) (fun _ _ _ h => h) (Or.inl ⟨by rfl, ?_⟩) (by assumption) ?_
            · (intro w9 hSw; (try dsimp only at hSw); go_simp)
            try simp only [Act.put, List.setIfInBounds_toArray, List.set_cons_zero, List.set_cons_succ]
            refine wpAnyH_ready (rs := [29]) (by kernel_rfl) (by simp) ?_
            refine AllReadyH.cons (o := { dst := none, op := Op.store 3 (Operand.tmp 79) (Operand.tmp 70), type := 0, pos := "law.go:81", after := #[{ on := 28, ground := Ground.data }, { on := 19, ground := Ground.data }, { on := 0, ground := Ground.phase }, { on := 1, ground := Ground.phase }, { on := 2, ground := Ground.phase }, { on := 3, ground := Ground.phase }, { on := 4, ground := Ground.phase }, { on := 5, ground := Ground.phase }, { on := 6, ground := Ground.textOnly Departure.lateStores }, { on := 7, ground := Ground.textOnly Departure.lateStoresUnsure }, { on := 8, ground := Ground.textOnly Departure.lateStoresUnsure }, { on := 9, ground := Ground.phase }, { on := 10, ground := Ground.textOnly Departure.lateStores }, { on := 11, ground := Ground.textOnly Departure.lateStores }, { on := 12, ground := Ground.phase }, { on := 13, ground := Ground.phase }, { on := 14, ground := Ground.phase }, { on := 15, ground := Ground.phase }, { on := 16, ground := Ground.phase }, { on := 17, ground := Ground.phase }, { on := 18, ground := Ground.phase }, { on := 19, ground := Ground.phase }, { on := 20, ground := Ground.textOnly Departure.lateStores }, { on := 21, ground := Ground.textOnly Departure.lateStoresUnsure }, { on := 22, ground := Ground.textOnly Departure.lateStoresUnsure }, { on := 23, ground := Ground.phase }, { on := 24, ground := Ground.textOnly Departure.lateStores }, { on := 25, ground := Ground.textOnly Departure.lateStores }, { on := 26, ground := Ground.textOnly Departure.lateStoresUnsure }, { on := 27, ground := Ground.phase }], guard := none }) rfl (fun K hK => ?_) AllReadyH.nil
            go_simp
            refine hK.out _ _ (SS.out _ _ _ S1.out) (fun hHeld => ?_)
            clear hK K
            try simp only [Act.put, List.setIfInBounds_toArray, List.set_cons_zero, List.set_cons_succ]
            refine wpAnyH_take (i := 30) (oi := { dst := some 80, op := Op.indexAddr 31 (Operand.tmp 60) (Operand.tmp 62), type := 0, pos := "law.go:81", after := #[{ on := 9, ground := Ground.data }, { on := 11, ground := Ground.data }, { on := 0, ground := Ground.phase }, { on := 1, ground := Ground.phase }, { on := 2, ground := Ground.phase }, { on := 3, ground := Ground.phase }, { on := 4, ground := Ground.phase }, { on := 5, ground := Ground.phase }, { on := 6, ground := Ground.phase }, { on := 7, ground := Ground.phase }, { on := 8, ground := Ground.phase }, { on := 9, ground := Ground.phase }, { on := 10, ground := Ground.phase }, { on := 11, ground := Ground.phase }, { on := 12, ground := Ground.phase }, { on := 13, ground := Ground.phase }, { on := 14, ground := Ground.phase }, { on := 15, ground := Ground.phase }, { on := 16, ground := Ground.phase }, { on := 17, ground := Ground.phase }, { on := 18, ground := Ground.phase }, { on := 19, ground := Ground.phase }, { on := 20, ground := Ground.phase }, { on := 21, ground := Ground.phase }, { on := 22, ground := Ground.phase }, { on := 23, ground := Ground.phase }, { on := 24, ground := Ground.phase }, { on := 25, ground := Ground.phase }, { on := 26, ground := Ground.phase }, { on := 27, ground := Ground.phase }, { on := 28, ground := Ground.phase }, { on := 29, ground := Ground.phase }], guard := none }) (v := .pointer (some ⟨L5, j, none⟩)) rfl (by kernel_rfl) (by kernel_rfl) (by kernel_rfl) (fun _ _ _ h => h) (Or.inl ⟨by rfl, ?_⟩) (by assumption) ?_
            · (intro w9 hSw; (try dsimp only at hSw); go_simp)
            try simp only [Act.put, List.setIfInBounds_toArray, List.set_cons_zero, List.set_cons_succ]
            refine wpAnyH_ready (rs := [31]) (by kernel_rfl) (by simp) ?_
            refine AllReadyH.cons (o := { dst := none, op := Op.store 3 (Operand.tmp 80) (Operand.tmp 78), type := 0, pos := "law.go:81", after := #[{ on := 30, ground := Ground.data }, { on := 27, ground := Ground.data }, { on := 29, ground := Ground.chain }, { on := 0, ground := Ground.phase }, { on := 1, ground := Ground.phase }, { on := 2, ground := Ground.phase }, { on := 3, ground := Ground.phase }, { on := 4, ground := Ground.phase }, { on := 5, ground := Ground.phase }, { on := 6, ground := Ground.phase }, { on := 7, ground := Ground.phase }, { on := 8, ground := Ground.phase }, { on := 9, ground := Ground.phase }, { on := 10, ground := Ground.phase }, { on := 11, ground := Ground.phase }, { on := 12, ground := Ground.phase }, { on := 13, ground := Ground.phase }, { on := 14, ground := Ground.phase }, { on := 15, ground := Ground.phase }, { on := 16, ground := Ground.phase }, { on := 17, ground := Ground.phase }, { on := 18, ground := Ground.phase }, { on := 19, ground := Ground.phase }, { on := 20, ground := Ground.phase }, { on := 21, ground := Ground.phase }, { on := 22, ground := Ground.phase }, { on := 23, ground := Ground.phase }, { on := 24, ground := Ground.phase }, { on := 25, ground := Ground.phase }, { on := 26, ground := Ground.phase }, { on := 27, ground := Ground.phase }, { on := 28, ground := Ground.phase }, { on := 29, ground := Ground.phase }], guard := none }) rfl (fun K hK => ?_) AllReadyH.nil
            go_simp
            refine hK.out _ _ (SS.out _ _ _ (SS.out _ _ _ S1.out)) (fun hHeld => ?_)
            clear hK K
            try simp only [Act.put, List.setIfInBounds_toArray, List.set_cons_zero, List.set_cons_succ]
            refine wpAnyH_done (by kernel_rfl) ?_ _
            go_wp2_with fail
            go_ret
            exact FIN.out yj yi
    by_cases r3 : kd % 8 = 3
    · have hk8 : (kd : Int) % 8 = 3 := by omega
      have hrs : r = 3 := by omega
      subst hrs
      clear hr r3
      have SG := Lib.hid (HIN.out.drew.setglue hg hb n)
      have hw2' := HW2.out
      go_enter Try.func9, Try.ntmps9
      go_wp2_with fail
      rw [← hw2']
      clear hw2' hcell
      have RD := HIN.out.reads
      rw [HPE.out, hte] at RD
      obtain ⟨c0, p0, p5, x1, x2⟩ := RD
      have KEEP := Lib.hid (fun (wx : World) (dl : Cl) (h2 : dl.alive = cl.alive) (hi : In w wx base g b D (w.heap.size + 1) w.heap.size gw ps (pre ++ cl :: post) pre post dl kd wh n m (.slice Al ll lc)) => by
        have R := hi.reads
        rw [HPE.out, hte, h2] at R
        exact (And.intro R.1 (And.intro R.2.1 (And.intro R.2.2.1 R.2.2.2.1)) : wx.cell? ⟨w.heap.size + 1, 0, none⟩ = some (.pointer (some ⟨p, 0, none⟩)) ∧ wx.cell? ⟨p, 0, none⟩ = some (.int .i64 (tp : Nat)) ∧ wx.cell? ⟨p, 5, none⟩ = some (.bool (!cl.alive)) ∧ wx.cell? ⟨w.heap.size, 1, none⟩ = some (.int .i64 n)))
      have NES := HIN.out.nes
      rw [HPE.out] at NES
      obtain ⟨ne1, ne2⟩ := NES
      have FRZ := Lib.hid (fun (wx : World) (dl : Cl) (hi : In w wx base g b D (w.heap.size + 1) w.heap.size gw ps (pre ++ cl :: post) pre post dl kd wh n m (.slice Al ll lc)) => by
        have R := hi.frz
        rw [HPE.out] at R
        exact R)
      have PUT := Lib.hid (fun (wx : World) (dl : Cl) (hi : In w wx base g b D (w.heap.size + 1) w.heap.size gw ps (pre ++ cl :: post) pre post dl kd wh n m (.slice Al ll lc)) => by
        have R := (hi.drew.put1 hg hb hbD (least n)).done
        rw [HPE.out] at R
        exact R)
      rw [hte] at SG
      obtain ⟨al, hal⟩ : ∃ al, al = cl.alive := ⟨_, rfl⟩
      rw [← hal] at p5 KEEP
      have HAL := Lib.hid hal
      clear hal
      have S0 := Lib.hid (And.intro c0 (And.intro p0 (And.intro p5 x1)))
      clear c0 p0 p5 x1 x2
      rcases al with _ | _
      · go_region_held3 (fun w' => w'.cell? ⟨w.heap.size + 1, 0, none⟩ = some (.pointer (some ⟨p, 0, none⟩)) ∧ w'.cell? ⟨p, 0, none⟩ = some (.int .i64 (tp : Nat)) ∧ w'.cell? ⟨p, 5, none⟩ = some (.bool true) ∧ w'.cell? ⟨w.heap.size, 1, none⟩ = some (.int .i64 n))
          (first | exact KK5.out | exact S0.out | go_keep)
          ((go_at_call 22; refine SG.out.mono ?_; rintro e w5 ⟨rfl, dl, hd1, hd2, hin5⟩; have IN5 := Lib.hid hin5; have KK5 := Lib.hid (KEEP.out w5 dl (hd2.trans HAL.out.symm) hin5); rw [← HAL.out]; clear hin5 hd1 hd2))
        obtain ⟨c0, p0, p5, x1⟩ := KK5.out
        go_wp2_with fail
        go_ret
        exact IN5.out.done
      · go_region_held3 (fun w' => w'.cell? ⟨w.heap.size + 1, 0, none⟩ = some (.pointer (some ⟨p, 0, none⟩)) ∧ w'.cell? ⟨p, 0, none⟩ = some (.int .i64 (tp : Nat)) ∧ w'.cell? ⟨p, 5, none⟩ = some (.bool false) ∧ w'.cell? ⟨w.heap.size, 1, none⟩ = some (.int .i64 n))
          (first | exact KK5.out | exact S0.out | go_keep)
          ((go_at_call 22; refine SG.out.mono ?_; rintro e w5 ⟨rfl, dl, hd1, hd2, hin5⟩; have IN5 := Lib.hid hin5; have KK5 := Lib.hid (KEEP.out w5 dl (hd2.trans HAL.out.symm) hin5); rw [← HAL.out]; clear hin5 hd1 hd2))
        obtain ⟨c0, p0, p5, x1⟩ := KK5.out
        obtain ⟨⟨u1, q1⟩, ⟨u2, q2⟩, ff⟩ := FRZ.out w5 dl IN5.out
        have f1 := ff 1
        have f2 := ff 2
        clear ff
        go_wp2_with fail
        have S1 := Lib.hid (And.intro c0 x1)
        go_region_held3 (fun w' => w'.cell? ⟨w.heap.size + 1, 0, none⟩ = some (.pointer (some ⟨p, 0, none⟩)) ∧ w'.cell? ⟨w.heap.size, 1, none⟩ = some (.int .i64 n))
          (first | exact S1.out | go_keep)
          ((go_at_call 23; refine (least05_any n _).mono ?_; rintro e w6 ⟨rfl, rfl⟩))
        go_wp2_with fail
        go_ret
        exact PUT.out w5 dl IN5.out
    by_cases r4 : kd % 8 = 4
    · have hk8 : (kd : Int) % 8 = 4 := by omega
      have hrs : r = 4 := by omega
      subst hrs
      clear hr r4
      have SG := Lib.hid (HIN.out.drew.setuses hg hb n)
      have hw2' := HW2.out
      go_enter Try.func9, Try.ntmps9
      go_wp2_with fail
      rw [← hw2']
      clear hw2' hcell
      have RD := HIN.out.reads
      rw [HPE.out, hte] at RD
      obtain ⟨c0, p0, p5, x1, x2⟩ := RD
      have KEEP := Lib.hid (fun (wx : World) (dl : Cl) (h2 : dl.alive = cl.alive) (hi : In w wx base g b D (w.heap.size + 1) w.heap.size gw ps (pre ++ cl :: post) pre post dl kd wh n m (.slice Al ll lc)) => by
        have R := hi.reads
        rw [HPE.out, hte, h2] at R
        exact (And.intro R.1 (And.intro R.2.1 (And.intro R.2.2.1 R.2.2.2.1)) : wx.cell? ⟨w.heap.size + 1, 0, none⟩ = some (.pointer (some ⟨p, 0, none⟩)) ∧ wx.cell? ⟨p, 0, none⟩ = some (.int .i64 (tp : Nat)) ∧ wx.cell? ⟨p, 5, none⟩ = some (.bool (!cl.alive)) ∧ wx.cell? ⟨w.heap.size, 1, none⟩ = some (.int .i64 n)))
      have NES := HIN.out.nes
      rw [HPE.out] at NES
      obtain ⟨ne1, ne2⟩ := NES
      have FRZ := Lib.hid (fun (wx : World) (dl : Cl) (hi : In w wx base g b D (w.heap.size + 1) w.heap.size gw ps (pre ++ cl :: post) pre post dl kd wh n m (.slice Al ll lc)) => by
        have R := hi.frz
        rw [HPE.out] at R
        exact R)
      have PUT := Lib.hid (fun (wx : World) (dl : Cl) (hi : In w wx base g b D (w.heap.size + 1) w.heap.size gw ps (pre ++ cl :: post) pre post dl kd wh n m (.slice Al ll lc)) => by
        have R := (hi.drew.put2 hg hb hbD (least n)).done
        rw [HPE.out] at R
        exact R)
      rw [hte] at SG
      obtain ⟨al, hal⟩ : ∃ al, al = cl.alive := ⟨_, rfl⟩
      rw [← hal] at p5 KEEP
      have HAL := Lib.hid hal
      clear hal
      have S0 := Lib.hid (And.intro c0 (And.intro p0 (And.intro p5 x1)))
      clear c0 p0 p5 x1 x2
      rcases al with _ | _
      · go_region_held3 (fun w' => w'.cell? ⟨w.heap.size + 1, 0, none⟩ = some (.pointer (some ⟨p, 0, none⟩)) ∧ w'.cell? ⟨p, 0, none⟩ = some (.int .i64 (tp : Nat)) ∧ w'.cell? ⟨p, 5, none⟩ = some (.bool true) ∧ w'.cell? ⟨w.heap.size, 1, none⟩ = some (.int .i64 n))
          (first | exact KK5.out | exact S0.out | go_keep)
          ((go_at_call 24; refine SG.out.mono ?_; rintro e w5 ⟨rfl, dl, hd1, hd2, hin5⟩; have IN5 := Lib.hid hin5; have KK5 := Lib.hid (KEEP.out w5 dl (hd2.trans HAL.out.symm) hin5); rw [← HAL.out]; clear hin5 hd1 hd2))
        obtain ⟨c0, p0, p5, x1⟩ := KK5.out
        go_wp2_with fail
        go_ret
        exact IN5.out.done
      · go_region_held3 (fun w' => w'.cell? ⟨w.heap.size + 1, 0, none⟩ = some (.pointer (some ⟨p, 0, none⟩)) ∧ w'.cell? ⟨p, 0, none⟩ = some (.int .i64 (tp : Nat)) ∧ w'.cell? ⟨p, 5, none⟩ = some (.bool false) ∧ w'.cell? ⟨w.heap.size, 1, none⟩ = some (.int .i64 n))
          (first | exact KK5.out | exact S0.out | go_keep)
          ((go_at_call 24; refine SG.out.mono ?_; rintro e w5 ⟨rfl, dl, hd1, hd2, hin5⟩; have IN5 := Lib.hid hin5; have KK5 := Lib.hid (KEEP.out w5 dl (hd2.trans HAL.out.symm) hin5); rw [← HAL.out]; clear hin5 hd1 hd2))
        obtain ⟨c0, p0, p5, x1⟩ := KK5.out
        obtain ⟨⟨u1, q1⟩, ⟨u2, q2⟩, ff⟩ := FRZ.out w5 dl IN5.out
        have f1 := ff 1
        have f2 := ff 2
        clear ff
        go_wp2_with fail
        have S1 := Lib.hid (And.intro c0 x1)
        go_region_held3 (fun w' => w'.cell? ⟨w.heap.size + 1, 0, none⟩ = some (.pointer (some ⟨p, 0, none⟩)) ∧ w'.cell? ⟨w.heap.size, 1, none⟩ = some (.int .i64 n))
          (first | exact S1.out | go_keep)
          ((go_at_call 23; refine (least05_any n _).mono ?_; rintro e w6 ⟨rfl, rfl⟩))
        go_wp2_with fail
        go_ret
        exact PUT.out w5 dl IN5.out
    by_cases r5 : kd % 8 = 5
    · have hk8 : (kd : Int) % 8 = 5 := by omega
      have hrs : r = 5 := by omega
      subst hrs
      clear hr r5
      have SG := HIN.out.drew.drop hg hb hbD
      have hw2' := HW2.out
      go_enter Try.func9, Try.ntmps9
      go_wp2_with fail
      rw [← hw2']
      clear hw2' hcell
      have RD := HIN.out.reads
      rw [HPE.out, hte] at RD
      obtain ⟨c0, p0, p5, x1, x2⟩ := RD
      rw [HPE.out, hte] at SG
      obtain ⟨al, hal⟩ : ∃ al, al = cl.alive := ⟨_, rfl⟩
      rw [← hal] at p5 SG
      have SG := Lib.hid SG
      clear hal
      have S0 := Lib.hid (And.intro c0 (And.intro p0 p5))
      clear c0 p0 p5 x1 x2
      rcases al with _ | _
      · go_region_held3 (fun w' => w'.cell? ⟨w.heap.size + 1, 0, none⟩ = some (.pointer (some ⟨p, 0, none⟩)) ∧ w'.cell? ⟨p, 0, none⟩ = some (.int .i64 (tp : Nat)) ∧ w'.cell? ⟨p, 5, none⟩ = some (.bool true))
          (first | exact KK5.out | exact S0.out | go_keep)
          ((go_at_call 11; refine SG.out.mono ?_; rintro e w5 ⟨rfl, k1, k2, k3, k4, k5⟩; have KK5 := Lib.hid (And.intro k1 (And.intro k2 k3)); have FZ5 := Lib.hid (And.intro k4 k5); clear k1 k2 k3 k4 k5))
        obtain ⟨c0, p0, p5⟩ := KK5.out
        have f5 := FZ5.out.1
        go_wp2_with fail
        go_ret
        exact FZ5.out.2
      · go_region_held3 (fun w' => w'.cell? ⟨w.heap.size + 1, 0, none⟩ = some (.pointer (some ⟨p, 0, none⟩)) ∧ w'.cell? ⟨p, 0, none⟩ = some (.int .i64 (tp : Nat)) ∧ w'.cell? ⟨p, 5, none⟩ = some (.bool false))
          (first | exact KK5.out | exact S0.out | go_keep)
          ((go_at_call 11; refine SG.out.mono ?_; rintro e w5 ⟨rfl, k1, k2, k3, k4, k5⟩; have KK5 := Lib.hid (And.intro k1 (And.intro k2 k3)); have FZ5 := Lib.hid (And.intro k4 k5); clear k1 k2 k3 k4 k5))
        obtain ⟨c0, p0, p5⟩ := KK5.out
        have f5 := FZ5.out.1
        go_wp2_with fail
        go_ret
        exact FZ5.out.2
    have e2 : ¬ ((kd : Int) % 8 = 2) := by omega
    have e3 : ¬ ((kd : Int) % 8 = 3) := by omega
    have e4 : ¬ ((kd : Int) % 8 = 4) := by omega
    have e5 : ¬ ((kd : Int) % 8 = 5) := by omega
    have hr9 : ((r : Nat) : Int) = (kd : Int) % 8 := by omega
    rw [hr9] at hw3
    have hw2' := HW2.out
    clear hr r2 r3 r4 r5 hr8 hr9
    go_enter Try.func9, Try.ntmps9
    go_wp2_with fail
    go_ret
    rw [← hw2']
    exact HIN.out.done
end Go.Proofs.Ytnjcegjcaaplgaa
