/- examine, walked. -/
import Derived.Test.YthcpfaahcncfjaaGreatDoorExamine07
namespace Go.Proofs.YthcpfaahcncfjaaGreatDoor
open Go.RowKit
set_option linter.unusedVariables false
set_option linter.unusedSimpArgs false

theorem Sto.drew7 {base : Nat} {X : SX} {fo : List Bool} {W : World} (h : Sto W base X fo) : Sto W.drew base X fo := h.drewN 1
theorem deletefunc_nil7 (A : Option Addr) (c : Nat) (fv : Value) (W : World) : Calls Tryz.prog 86 #[.slice A 0 c, fv] W fun e W' => e = .returned (.slice A 0 c) ∧ W = W' := by
  have HX : Hid (Calls Tryz.prog 96 #[.slice A 0 c, fv] W fun e W' => e = .returned (.int .i64 (-1)) ∧ W = W') := by
    refine Lib.hid ?_
    go_enter Tryz.func96, Tryz.ntmps96
    go_wp2
    go_loopg [8] 1 (fun gk i wr => i = .int .i64 0 ∧ W = wr)
    case atStart => exact ⟨rfl, rfl⟩
    case round =>
      obtain ⟨rfl, rfl⟩ := hrel
      go_wp2
      go_ret
      exact ⟨rfl, rfl⟩
  go_enter Tryz.func86, Tryz.ntmps86
  go_wp2_with fail
  refine HX.out.mono ?_
  rintro e w1 ⟨rfl, rfl⟩
  go_wp2
  go_ret
  exact ⟨rfl, rfl⟩

/-- what the pile at l comes to -/
def DelEx (base : Nat) (X : SX) (L : List Int) (E : Int → Prop) (l : Int) (bb : Nat) (wd : World) (e : Ending) (W3 : World) : Prop :=
  ∃ (Y : SX) (fo' : List Bool) (b' : Bool) (kept : List Nat) (A3 : Option Addr) (c3 : Nat) (W1 : World), e = .returned (.slice A3 kept.length c3) ∧ Mid8 Y fo' L E l kept [] b' ∧ Sto W1 base Y fo' ∧ TnB base X bb wd W1 ∧ Later7 wd X Y ∧ Blk W1 bb 4 #[.bool b'] ∧ Same7 X Y ∧
    W1.grownBy W3 (Y.vs.getD (ix l) undef).ownBlock ∧ W3.ownsRow base 121 1 (.slice A3 kept.length c3) kept.length (ptrs7 kept) ∧ (Value.slice A3 kept.length c3).ownBlock = (Y.vs.getD (ix l) undef).ownBlock
theorem del_examine {base : Nat} {X : SX} {L : List Int} {E : Int → Prop} {l : Int} {bb lb sb : Nat} {wd : World} {fo : List Bool} (hS : Sto wd base X fo) (hg : Good X fo L E) (hl : Lt7 X.V l) (hneg : -l ∈ X.fd) (hbase : base ≤ bb) (hbb : bb ≠ X.fb) (hbv : Blk wd bb 4 #[.bool true]) (hlb : Blk wd lb 3 #[.int .i64 l]) (hsb : Blk wd sb 53 #[.pointer (some ⟨X.s, 0, none⟩)])
    (hlv : some lb ≠ X.fv.ownBlock) (hl2 : lb ≠ bb) (hs2 : sb ≠ bb) :
    Calls Tryz.prog 86 #[X.vs.getD (ix l) undef, .func (.func 110) #[] #[.pointer (some ⟨bb, 0, none⟩), .pointer (some ⟨lb, 0, none⟩), .pointer (some ⟨sb, 0, none⟩)]] wd (DelEx base X L E l bb wd) := by
  have hlt := (ix_eq hl).2
  have hnum := hS.num.1
  have eg : ∀ args w, (callFunc 110 args).run Tryz.prog w = .ok (.enter 110 args) w := enters_of Tryz.func110 (by kernel_rfl) rfl
  obtain ⟨Aj, cj, hvj, hoj⟩ := hS.pil.each (ix l) (by omega)
  have hm := hg.mid hl hneg
  rcases Nat.eq_zero_or_pos (X.pss.getD (ix l) []).length with h0 | h0
  · have he : X.pss.getD (ix l) [] = [] := List.length_eq_zero_iff.1 h0
    rw [he] at hvj hoj hm
    rw [hvj]
    refine (deletefunc_nil7 Aj cj _ wd).mono ?_
    rintro e W3 ⟨rfl, rfl⟩
    exact ⟨X, fo, true, [], Aj, cj, wd, rfl, hm, hS, (Tn.refl base X wd).toB, Later7.refl _ _, hbv, Same7.refl _, ⟨rfl, rfl, rfl, Nat.le_refl _, fun _ _ _ => rfl⟩, hoj, by rw [hvj]⟩
  · obtain ⟨gb, rfl, _, _⟩ := own_addr hoj h0
    obtain ⟨ps0, hps⟩ : ∃ ps0, ps0 = X.pss.getD (ix l) [] := ⟨_, rfl⟩
    have hnl : ps0.length ≤ 1000000000 := by
      obtain ⟨q1, q2, _⟩ := hg.wf.pile (ix l) hlt
      rw [hps]
      exact Nat.le_trans (nodup_len7 q1 fun x hx => (q2 x hx).1) hg.wf.plen
    rw [← hps] at hvj hoj hm
    rw [hvj]
    have hinv := exam_inv (L := L) (E := E) (n := ps0.length) (gb := gb) (c := cj) (ps0 := ps0) hS hl hbase hbb hlb hsb hlv hl2 hs2 hnl rfl
    refine (deletefunc_any7 hinv hnl rfl wd ⟨X, fo, true, by rw [List.drop_zero]; exact hm, hS, hps.symm, hvj, rfl, (Tn.refl base X wd).toB, Later7.refl _ _, hbv, Same7.refl _⟩ eg).mono ?_
    rintro e W3 ⟨kept, Lp, W1, ⟨Y, fo', b', m1, m2, m3, m4, m5, m6, m7, m8, m9⟩, hk, rfl, hgr, hown⟩
    rw [List.drop_length] at m1
    exact ⟨Y, fo', b', kept, some ⟨gb, 0, none⟩, cj, W1, rfl, m1, m2, m6, m7, m8, m9, by rw [m4]; exact hgr, hown, by rw [m4]; rfl⟩

/-- a pile's block is no block of another type -/
theorem own_blk_ne7 {W : World} {base : Nat} {X : SX} {fo : List Bool} {i q : Nat} {t : TypeId} {Z : Array Value} (h : Sto W base X fo) (hi : i < 2 * X.V) (hq : Blk W q t Z) (ht : 121 ≠ t) : some q ≠ (X.vs.getD i undef).ownBlock := by
  have hnum := h.num.1
  obtain ⟨Aj, cj, hvj, hoj⟩ := h.pil.each i (by omega)
  rw [hvj]
  exact own_blk_ne hoj hq ht
theorem Sto.outblk {W : World} {base go : Nat} {X : SX} {fo : List Bool} (h : Sto W base X fo) (hA : X.Aw = some ⟨go, 0, none⟩) : ∃ Z, Blk W go 113 Z := by
  have ho := h.out
  rw [hA] at ho
  exact own_blk7 ho
theorem Sto.outcell {W W' : World} {base go i : Nat} {X : SX} {fo : List Bool} (h : Sto W base X fo) (hA : X.Aw = some ⟨go, 0, none⟩) {Z : Array Value} (hg : Blk W' go 113 Z) (hi : i < 2 * X.V) (hW : Blk W go 113 Z) : W'.cell? ⟨go, i, none⟩ = some (X.vs.getD i undef) := by
  have ho := h.out
  rw [hA] at ho
  have hnum := h.num.1
  have hlen := h.pil.len
  rw [hg.cell i, ← hW.cell i, World.ownsRow.cellAt ho i (by omega)]
  simp [List.getD, List.getElem?_take, hi, show i < X.vs.length by omega]

theorem Tn.ofB {base bb : Nat} {X : SX} {W wb W' : World} (h : Tn base X W wb) (h' : TnB base X bb wb W') (hb : W.heap.size ≤ bb) : Tn base X W W' :=
  ⟨h.below.trans h'.below, fun q t Y hq h1 h2 h3 h4 h5 h6 => h'.blk q t Y (h.blk q t Y hq h1 h2 h3 h4 h5 h6) h1 h2 h3 h4 h5 h6 (by have := hq.lt; omega), h.recs.trans h'.recs⟩
theorem SX.pile_same7 {X : SX} {i : Nat} (hi : i < 2 * X.V) (v : Value) (ps : List Nat) : Same7 X (X.pile i v ps) :=
  ⟨rfl, rfl, rfl, rfl, rfl, rfl, fun _ => rfl, rfl, rfl, ⟨[], by simp [SX.pile]⟩, by simp [SX.pile], fun j hj => ⟨getD_set_other (by omega) _, getD_set_other (by omega) _⟩, fun _ => ⟨rfl, rfl⟩, rfl, rfl, rfl, rfl⟩

/-- what examine leaves -/
def ExamineP (base : Nat) (X : SX) (L : List Int) (E : Int → Prop) (l : Int) (W : World) (e : Ending) (W' : World) : Prop :=
  ∃ (X' : SX) (fo' : List Bool) (b : Bool), e = .returned (.bool b) ∧ Sto W' base X' fo' ∧ Tn base X W W' ∧ Later7 W X X' ∧ Same7 X X' ∧ Fw X' fo' ∧ Wfs X' ∧ (b = true → Good X' fo' L (fun x => E x ∨ x = -l)) ∧ (b = false → Clash X'.cs L)
set_option maxRecDepth 100000 in
set_option maxHeartbeats 2000000 in
theorem examine_any {W : World} {base : Nat} {X : SX} {fo : List Bool} {L : List Int} {E : Int → Prop} (h : Sto W base X fo) (hg : Good X fo L E) (l : Int) (hl : Lt7 X.V l) (hneg : -l ∈ X.fd) :
    Calls Tryz.prog 92 #[.pointer (some ⟨X.s, 0, none⟩), .int .i64 l] W (ExamineP base X L E l W) := by
  have hvb := h.vb
  have hbW : base ≤ W.heap.size := by have := h.lo.1; have := h.st.lt; omega
  obtain ⟨wb, hwb⟩ : ∃ wb, wb = ((W.alloc (.cells #[.pointer (some ⟨X.s, 0, none⟩)] 53)).alloc (.cells #[.int .i64 l] 3)).alloc (.cells #[.bool true] 4) := ⟨_, rfl⟩
  have hb : Below W.heap.size W wb := by rw [hwb]; exact (((Below.refl _ _).alloc (Nat.le_refl _) _).alloc (by simp) _).alloc (by simp; omega) _
  have hsb : Blk wb W.heap.size 53 #[.pointer (some ⟨X.s, 0, none⟩)] := by rw [hwb]; exact ((Blk.new W _ _).alloc _).alloc _
  have hlb : Blk wb (W.heap.size + 1) 3 #[.int .i64 l] := by
    rw [hwb]
    have := Blk.new (W.alloc (.cells #[.pointer (some ⟨X.s, 0, none⟩)] 53)) 3 #[.int .i64 l]
    simp at this
    exact this.alloc _
  have hbv : Blk wb (W.heap.size + 2) 4 #[.bool true] := by
    rw [hwb]
    have := Blk.new ((W.alloc (.cells #[.pointer (some ⟨X.s, 0, none⟩)] 53)).alloc (.cells #[.int .i64 l] 3)) 4 #[.bool true]
    simpa using this
  have hS := h.below hb
  have hfbl := h.fol.lt
  have hfl : ∀ g, X.fv.ownBlock = some g → g < W.heap.size := fun g hg => (h.fnd.lt g hg).2
  have hlvn : some (W.heap.size + 1) ≠ X.fv.ownBlock := fun e => by have := hfl _ e.symm; omega
  have HD := Lib.hid (del_examine (wd := wb.drew) hS.drew7 hg hl hneg (show base ≤ W.heap.size + 2 by omega) (by omega) hbv hlb hsb hlvn (by omega) (by omega))
  have hTB : Tn base X W wb := Tn.of_below hb hbW
  obtain ⟨e1, b1⟩ := ix_eq hl
  obtain ⟨c0, c5, c7, c8, cf⟩ := hS.cells
  have hnum := h.num.1
  obtain ⟨go, hAw, hgo1, hgo2⟩ := own_addr hS.out (by omega)
  have hout := hS.out
  rw [hAw] at hout c5
  have oc : wb.cell? ⟨go, ix l, none⟩ = some (X.vs.getD (ix l) undef) := by
    rw [World.ownsRow.cellAt hout (ix l) (by omega)]
    have hlen := h.pil.len
    simp [List.getD, List.getElem?_take, b1, show ix l < X.vs.length by omega]
  obtain ⟨hl0, hl1, hl2⟩ := hl
  have HI := Lib.hid (fun w => index_any l w (by omega) (by omega))
  rw [e1] at HI
  have s0 := hsb.cell 0
  have l0 := hlb.cell 0
  simp at s0 l0
  have hl' : Lt7 X.V l := ⟨hl0, hl1, hl2⟩
  obtain ⟨i, hi'⟩ : ∃ i, i = ix l := ⟨_, rfl⟩
  obtain ⟨N, hN⟩ : ∃ N, N = 2 * X.V := ⟨_, rfl⟩
  obtain ⟨hdr, hhdr⟩ : ∃ hdr, hdr = X.vs.getD (ix l) undef := ⟨_, rfl⟩
  rw [← hhdr] at oc HD
  rw [← hi'] at HI b1 oc
  rw [← hN] at c5 b1
  have hb1 : (i : Int) < (N : Int) := by omega
  have hlt7 : ix l < 2 * X.V := by rw [← hi', ← hN]; exact b1
  have HSB := Lib.hid hsb
  have HLB := Lib.hid hlb
  have HWB := Lib.hid hwb
  have HAW := Lib.hid hAw
  have HII := Lib.hid hi'
  have HN := Lib.hid hN
  have HS := Lib.hid hS
  have HTB := Lib.hid hTB
  have HL := Lib.hid hl'
  have HB := Lib.hid hb
  clear h hwb hb hsb hlb hbv hS hTB e1 c0 c7 c8 cf hnum hAw hout hi' hN hhdr hg hneg hlvn hl'
  go_enter Tryz.func92, Tryz.ntmps92
  go_wp2_with fail
  rw [← HWB.out]
  refine (HI.out _).mono ?_
  rintro e w2 ⟨rfl, rfl⟩
  go_wp2
  go_region_law (first | (go_simp; go_at_call 86; refine HD.out.mono ?_; rintro e3 w3 ⟨Y, fo', b', kept, A3, c3, W1, rfl, m1, m2, m3, m4, m5, m6, m7, m8, m9⟩; have hst3 := m2.st.grown m7 (own_blk_ne7 m2 (by rw [m6.V]; exact hlt7) m2.st (by decide)); have d5 := hst3.cell 5; have dS5 : w3.cell? ⟨X.s, 5, none⟩ = some (.slice (some ⟨go, 0, none⟩) N X.cw) := (congrArg (fun z => w3.cell? ⟨z, 5, none⟩) m6.s.symm).trans (d5.trans (show some (Value.slice Y.Aw (2 * Y.V) Y.cw) = _ from (by rw [m6.Aw, m6.V, m6.cw, HAW.out, HN.out]))); have hgoB := m2.outblk (by rw [m6.Aw]; exact HAW.out); have hgo3 := hgoB.choose_spec.grown m7 (own_blk_ne7 m2 (by rw [m6.V]; exact hlt7) hgoB.choose_spec (by decide)); have dgf := hgo3.frozen i; have dgc := m2.outcell (by rw [m6.Aw]; exact HAW.out) hgo3 (by rw [m6.V, ← HN.out]; exact b1) hgoB.choose_spec; have hbb3 := m5.grown m7 (own_blk_ne7 m2 (by rw [m6.V]; exact hlt7) m5 (by decide)); have dbb : w3.cell? ⟨W.heap.size + 1 + 1, 0, none⟩ = some (.bool b') := hbb3.cell 0; have hgne : W.heap.size + 1 + 1 ≠ go := hbb3.ne_ hgo3 (by decide); have hsb1 := m3.blk _ _ _ HSB.out (by decide) (by decide) (by decide) (by decide) (HSB.out.ne_ HS.out.fol (by decide)) (own_blk_ne HS.out.fnd HSB.out (by decide)) (by omega); have hsb3 := hsb1.grown m7 (own_blk_ne7 m2 (by rw [m6.V]; exact hlt7) hsb1 (by decide)); have dsb := hsb3.cell 0; simp at dsb; have M := Lib.hid (And.intro m1 (And.intro m2 (And.intro m3 (And.intro m4 (And.intro m6 (And.intro m7 (And.intro m8 (And.intro m9 hbb3)))))))); clear m1 m2 m3 m4 m5 m6 m7 m8 m9 hst3 d5 hgoB hgo3 hbb3 hsb1 hsb3))
  all_goals
    go_wp2
    go_ret
    obtain ⟨m1, m2, m3, m4, m6, m7, m8, m9, hbb3⟩ := M.out
    have hlY : Lt7 Y.V l := by rw [m6.V]; exact HL.out
    obtain ⟨p1, p2⟩ := m2.piled (wa := W1) (w3 := w3) (i := ix l) (A := A3) (c := c3) (ps := kept) (by rw [m6.V]; exact hlt7) (by rw [m6.Aw]; exact HAW.out) (Below.refl _ _) m7 m8 (.inl m9)
    have hnumY := m2.num.1
    obtain rfl := HII.out
    exact ⟨Y.pile (ix l) (.slice A3 kept.length c3) kept, fo', b', rfl, p1, ((HTB.out.drewN 1).ofB m3 (by omega)).trans p2 (m4.trans_of HB.out.size), m4.trans_of HB.out.size, m6.trans (SX.pile_same7 (by rw [m6.V]; exact hlt7) _ _), ⟨m1.fw.flen, m1.fw.tie, m1.fw.nd, m1.fw.lt, m1.fw.con⟩, m1.wfs hlY (by omega) _, fun e => (by subst e; exact m1.good hlY (by omega) _), m1.clash⟩
end Go.Proofs.YthcpfaahcncfjaaGreatDoor
