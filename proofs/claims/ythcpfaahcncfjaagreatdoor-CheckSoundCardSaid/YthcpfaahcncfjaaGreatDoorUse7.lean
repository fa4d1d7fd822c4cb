/- A clause that is new: its struct stands, the store counts it. The map of keys behind a store. append to a row of pointers whose first ones are cut off. A clause is put into the map of keys. A store that has one clause more: what holds of it. Two clauses have one key only if they are one. What the map of keys tells. A clause that is born, listed with all others and under its key. s.same[k] = append(s.same[k], x): the map's part. Has, Len. Add: a clause more. A store, as those who call it know it. The statements' own store: of a formula. The statements' own small case. A raw formula of these statements. -/
import Derived.Test.YthcpfaahcncfjaaGreatDoorFollow7
import Derived.ArgAppend
import Derived.Test.YthcpfaahcncfjaaGreatDoorKey07
import Derived.Deep.RegionHeld3
import Derived.Laws.Cover3
import Derived.Test.YthcpfaahcncfjaaGreatDoorLaw02
import Derived.Test.YthcpfaahcncfjaaGreatDoorRawForm
import Derived.Test.YthcpfaahcncfjaaGreatDoorRef07b
namespace Go.Proofs.YthcpfaahcncfjaaGreatDoor
open Go.RowKit
set_option linter.unusedVariables false
set_option linter.unusedSimpArgs false

/-- one clause more -/
def SX.born (X : SX) (q : Nat) (x : CX) : SX := { X.cl q x with ps := X.ps ++ [q], added := X.added + 1 }

theorem SX.born_C (X : SX) (q : Nat) (x : CX) (p : Nat) : (X.born q x).C p = if p = q then x else X.C p := by
  show (X.cl q x).C p = _
  unfold SX.cl
  rfl

/-- the struct of a new clause lies in a block of its own: the store is one clause richer as soon as it counts it -/
theorem Sto.born {W : World} {base : Nat} {X : SX} {fo : List Bool} {q : Nat} {x : CX} (h : Sto W base X fo) (hq : Blk W q 120 x.cells) (hqb : base ≤ q) (hnum : x.num ≤ 9223372036854775807) (hrow : W.ownsRow base 3 1 x.row x.lits.length (x.lits.map (Value.int .i64))) (hne : ∀ g, x.row.ownBlock = some g → X.fv.ownBlock ≠ some g) (hnew : q ∉ X.ps) :
    Sto (W.setCell ⟨X.s, 1, none⟩ (.int .i64 (X.added + 1 : Nat))) base (X.born q x) fo ∧ Tn base X W (W.setCell ⟨X.s, 1, none⟩ (.int .i64 (X.added + 1 : Nat))) ∧ Later7 W X (X.born q x) ∧ ∀ D n, W.ownsMap Tryz.prog 9 heldE X.m n D → (W.setCell ⟨X.s, 1, none⟩ (.int .i64 (X.added + 1 : Nat))).ownsMap Tryz.prog 9 heldE X.m n D := by
  have far : ∀ q t Y, Blk W q t Y → t ≠ 117 → Blk (W.setCell ⟨X.s, 1, none⟩ (.int .i64 (X.added + 1 : Nat))) q t Y := fun q t Y hq h2 => hq.far (hq.ne_ h.st h2) _
  have row : ∀ (e : TypeId) (v : Value) (n : Nat) (xs : List Value), W.ownsRow base e 1 v n xs → e ≠ 117 → (W.setCell ⟨X.s, 1, none⟩ (.int .i64 (X.added + 1 : Nat))).ownsRow base e 1 v n xs := fun e v n xs ho h2 => own_setCell ho _ (own_blk_ne ho h.st h2)
  refine ⟨⟨?_, far _ _ _ h.fol (by decide), h.flen, row _ _ _ _ h.fnd (by decide), row _ _ _ _ h.out (by decide), h.pil.keep fun q Y hq => far _ _ _ hq (by decide), h.num, fun p hp => ?_, ?_, h.lo, h.vb⟩, ⟨(Below.refl _ _).setCell h.lo.1 _, fun q t Y hq h1 h2 h3 h4 h5 h6 => far q t Y hq h1, Recs.set _ _ _⟩, ⟨rfl, .inl rfl⟩, fun D n hm => hm.kept (grown_setCell W _ _) (fun e => blk_map_ne7 h.st hm (by simpa using e.symm))⟩
  · have := h.st.set_ 1 (.int .i64 (X.added + 1 : Nat))
    have e : (X.born q x).head = X.head.setIfInBounds 1 (.int .i64 (X.added + 1 : Nat)) := by simp [SX.head, SX.fv, SX.born, SX.cl]
    rw [e]; exact this
  · rw [SX.born_C]
    split
    · next e =>
      subst e
      exact ⟨far _ _ _ hq (by decide), hqb, row _ _ _ _ hrow (by decide), hne⟩
    · next e =>
      have hp2 : p ∈ X.ps := by
        have h2 : p ∈ X.ps ++ [q] := hp
        rcases List.mem_append.1 h2 with h3 | h3
        · exact h3
        · exact absurd (List.mem_singleton.1 h3) e
      obtain ⟨c1, c2, c3, c4⟩ := h.cl p hp2
      exact ⟨far _ _ _ c1 (by decide), c2, row _ _ _ _ c3 (by decide), c4⟩
  · obtain ⟨D, n, hm, hn, h2⟩ := h.map
    exact ⟨D, n, hm.kept (grown_setCell W _ _) (fun e => blk_map_ne7 h.st hm (by simpa using e.symm)), hn, h2⟩

section

variable {W : World} {base : Nat} {X : SX} {fo : List Bool}

/-- a pile whose header lies in the store's struct is another: all clauses (0), the short ones (1) -/
theorem Sto.piled_s {wa w3 : World} {i d c : Nat} {A : Option Addr} {ps : List Nat} (h : Sto W base X fo) (hd : d < 2) (hi : i = 2 * X.V + d) (hb : Below W.heap.size W wa) (hg : wa.grownBy w3 (X.vs.getD i undef).ownBlock)
    (ho : w3.ownsRow base 121 1 (.slice A ps.length c) ps.length (ptrs7 ps)) (hat : (Value.slice A ps.length c).ownBlock = (X.vs.getD i undef).ownBlock ∨ (Value.slice A ps.length c).ownBlock = some wa.heap.size) :
    Sto (w3.setCell ⟨X.s, 3 + d, none⟩ (.slice A ps.length c)) base (X.pile i (.slice A ps.length c) ps) fo ∧ Tn base X W (w3.setCell ⟨X.s, 3 + d, none⟩ (.slice A ps.length c)) ∧ ∀ D n, W.ownsMap Tryz.prog 9 heldE X.m n D → (w3.setCell ⟨X.s, 3 + d, none⟩ (.slice A ps.length c)).ownsMap Tryz.prog 9 heldE X.m n D := by
  have hnum := h.num.1
  have hil : i < X.pss.length := by omega
  obtain ⟨Ai, ci, hvi, hoi⟩ := h.pil.each i hil
  have hlt : ∀ g, (X.vs.getD i undef).ownBlock = some g → g < W.heap.size := fun g hg => by rw [hvi] at hg; exact (hoi.lt g hg).2
  have hoi' : W.ownsRow base 121 1 (X.vs.getD i undef) (X.pss.getD i []).length (ptrs7 (X.pss.getD i [])) := by rw [hvi]; exact hoi
  have k3 : ∀ q t Y, Blk W q t Y → t ≠ 121 → Blk w3 q t Y := fun q t Y hq h1 => (hq.below hb hq.lt).grown hg (own_blk_ne hoi' hq (Ne.symm h1))
  have r3 : ∀ (e : TypeId) (v : Value) (n : Nat) (xs : List Value), W.ownsRow base e 1 v n xs → e ≠ 121 → w3.ownsRow base e 1 v n xs := fun e v n xs ho h1 => by
    refine (own_below ho hb fun g hg => (ho.lt g hg).2).kept hg ?_
    rcases own_own_ne ho hoi' h1 with e1 | e1
    · exact .inl e1
    · exact .inr e1
  have hout3 := r3 _ _ _ _ h.out (by decide)
  have hgo : Blk w3 X.s 117 X.head := k3 _ _ _ h.st (by decide)
  have far : ∀ q t Y, Blk W q t Y → t ≠ 121 → t ≠ 117 → Blk (w3.setCell ⟨X.s, 3 + d, none⟩ (.slice A ps.length c)) q t Y := fun q t Y hq h1 h2 => (k3 q t Y hq h1).far ((k3 q t Y hq h1).ne_ hgo h2) _
  have row : ∀ (e : TypeId) (v : Value) (n : Nat) (xs : List Value), W.ownsRow base e 1 v n xs → e ≠ 121 → e ≠ 117 → (w3.setCell ⟨X.s, 3 + d, none⟩ (.slice A ps.length c)).ownsRow base e 1 v n xs := fun e v n xs ho h1 h2 =>
    own_setCell (r3 e v n xs ho h1) _ (own_blk_ne (r3 e v n xs ho h1) hgo h2)
  have hbase : base ≤ X.s := h.lo.1
  have hbW : base ≤ W.heap.size := by have := h.lo.1; have := h.st.lt; omega
  have hpil3 : Piles w3 base (X.vs.set i (.slice A ps.length c)) (X.pss.set i ps) := by
    have hpa : Piles wa base X.vs X.pss := h.pil.keep fun q Y hq => hq.below hb hq.lt
    refine hpa.put hil hg ho ?_
    rcases hat with e | e
    · exact .inl e
    · exact .inr fun g hg2 => by rw [e] at hg2; injection hg2 with hg2; omega
  have hlen := h.pil.len
  refine ⟨⟨?_, far _ _ _ h.fol (by decide) (by decide), h.flen, row _ _ _ _ h.fnd (by decide) (by decide), ?_, hpil3.keep fun q Y hq => hq.far (hq.ne_ hgo (by decide)) _, ?_, fun p hp => ?_, ?_, h.lo, h.vb⟩, ⟨?_, fun q t Y hq h1 h2 h3 h4 h5 h6 => far q t Y hq h3 h1, ((Recs.of_below hb).trans (Recs.grown_row hg (own_below hoi' hb hlt))).trans (Recs.set _ _ _)⟩, fun D n hm => ?_⟩
  · have := hgo.set_ (3 + d) (.slice A ps.length c)
    have e : (X.pile i (.slice A ps.length c) ps).head = X.head.setIfInBounds (3 + d) (.slice A ps.length c) := by
      simp only [SX.head, SX.pile, SX.fv]
      subst hi
      rcases (by omega : d = 0 ∨ d = 1) with rfl | rfl
      · simp only [Nat.add_zero]; rw [getD_set_same (by omega), getD_set_other (show 2 * X.V ≠ 2 * X.V + 1 by omega)]; rfl
      · rw [getD_set_same (by omega), getD_set_other (show 2 * X.V + 1 ≠ 2 * X.V by omega)]; rfl
    rw [e]; exact this
  · show World.ownsRow _ base _ 1 (.slice X.Aw (2 * X.V) X.cw) (2 * X.V) ((X.vs.set i (.slice A ps.length c)).take (2 * X.V))
    rw [List.take_set_of_le (by omega)]
    exact own_setCell hout3 _ (own_blk_ne hout3 hgo (by decide))
  · exact ⟨by show (X.pss.set i ps).length = _; rw [List.length_set]; exact hnum, h.num.2⟩
  · obtain ⟨c1, c2, c3, c4⟩ := h.cl p hp
    exact ⟨far _ _ _ c1 (by decide) (by decide), c2, row _ _ _ _ c3 (by decide) (by decide), c4⟩
  · obtain ⟨D, n, hm, h2, h3, h4⟩ := h.map
    have hma : wa.ownsMap Tryz.prog 9 heldE X.m n D := by
      obtain ⟨es, clock, m1, m2⟩ := hm
      exact ⟨es, clock, (hb.block _ (Array.getElem?_eq_some_iff.1 m1).1).trans m1, m2⟩
    have hm3 : w3.ownsMap Tryz.prog 9 heldE X.m n D := hma.kept hg (own_map_ne7 hoi' hm)
    refine ⟨D, n, hm3.kept (grown_setCell w3 _ _) (fun e => blk_map_ne7 hgo hm3 (by simpa using e.symm)), h2, h3, fun k => ?_⟩
    rw [h4 k]
    show _ = DataW.held (match X.ks.findIdx? (· = k) with | some j => cutv ((X.vs.set i (.slice A ps.length c)).getD (2 * X.V + 2 + j) undef) (X.ko j) | none => .slice none 0 0)
    cases X.ks.findIdx? (· = k) with
    | none => rfl
    | some j =>
      dsimp only
      rw [getD_set_other (show i ≠ 2 * X.V + 2 + j by omega)]
  · refine (((hb.mono hbW).grown hg (Nat.le_trans hbW hb.size) fun g hg2 => ?_).setCell hbase _)
    rw [hvi] at hg2; exact (hoi.lt g hg2).1
  · have hma : wa.ownsMap Tryz.prog 9 heldE X.m n D := by
      obtain ⟨es, clock, m1, m2⟩ := hm
      exact ⟨es, clock, (hb.block _ (Array.getElem?_eq_some_iff.1 m1).1).trans m1, m2⟩
    have hm3 : w3.ownsMap Tryz.prog 9 heldE X.m n D := hma.kept hg (own_map_ne7 hoi' hm)
    exact hm3.kept (grown_setCell w3 _ _) (fun e => blk_map_ne7 hgo hm3 (by simpa using e.symm))

end

end Go.Proofs.YthcpfaahcncfjaaGreatDoor

namespace Go.Proofs.YthcpfaahcncfjaaGreatDoor
open Go.RowKit
set_option linter.unusedVariables false
set_option linter.unusedSimpArgs false

theorem keyLit_is (k : List UInt8) : WideAt.IsKeyLit (keyLit k) := by
  first | exact rfl | exact trivial | simp [WideAt.IsKeyLit, keyLit]

theorem keyLit_ne {k k' : List UInt8} (h : k' ≠ k) : keyLit k' ≠ keyLit k := fun e => h (by unfold keyLit at e; injection e)

theorem find_key {ks : List (List UInt8)} {k : List UInt8} {j : Nat} (h : ks.findIdx? (· = k) = some j) : j < ks.length ∧ ks[j]? = some k := by
  obtain ⟨hj, h1, h2⟩ := List.findIdx?_eq_some_iff_getElem.1 h
  exact ⟨hj, by rw [List.getElem?_eq_getElem hj]; simpa using h1⟩

/-- two keys are not found at one place -/
theorem find_apart {ks : List (List UInt8)} {k k' : List UInt8} {i j : Nat} (h : ks.findIdx? (· = k) = some i) (h' : ks.findIdx? (· = k') = some j) (hne : k' ≠ k) : i ≠ j := by
  rintro rfl
  have h1 := (find_key h).2
  have h2 := (find_key h').2
  rw [h1] at h2
  injection h2 with h2
  exact hne h2.symm

section

variable {X : SX} {D : DataW Value} {k : List UInt8} {v : Value} {ps : List Nat}

/-- the store with another pile of a key, of which the first ones are gone -/
def SX.kpile (X : SX) (j : Nat) (v : Value) (ps : List Nat) (d : Nat) : SX := { X with vs := X.vs.set (2 * X.V + 2 + j) v, pss := X.pss.set (2 * X.V + 2 + j) ps, ko := fun i => if i = j then d else X.ko i, tk := X.tk + 1 }

/-- a key that was there has another pile -/
theorem MapIs.put_old {j d : Nat} (h : MapIs X D) (hk : X.ks.findIdx? (· = k) = some j) (hl : 2 * X.V + 2 + j < X.vs.length) : MapIs (X.kpile j v ps d) (D.put (keyLit k) (.held (cutv v d))) := by
  refine ⟨h.1.put _ _, fun k' => ?_⟩
  show _ = DataW.held (match X.ks.findIdx? (· = k') with | some i => cutv ((X.vs.set (2 * X.V + 2 + j) v).getD (2 * X.V + 2 + i) undef) (if i = j then d else X.ko i) | none => .slice none 0 0)
  by_cases e : k' = k
  · subst e
    rw [Maps.atKey_put_same h.1 (keyLit_is _), hk]
    dsimp only
    rw [getD_set_same hl, if_pos rfl]
  · rw [Maps.atKey_put_other (keyLit_ne e), h.2 k']
    cases hf : X.ks.findIdx? (· = k') with
    | none => rfl
    | some i =>
      have hne := find_apart hk hf e
      dsimp only
      rw [getD_set_other (by omega), if_neg (by omega)]

/-- a key that is new -/
def SX.keyed (X : SX) (k : List UInt8) (v : Value) (ps : List Nat) : SX := { X with ks := X.ks ++ [k], vs := X.vs ++ [v], pss := X.pss ++ [ps], ko := fun i => if i = X.ks.length then 0 else X.ko i, tk := X.tk + 1 }

theorem MapIs.put_new (h : MapIs X D) (hk : X.ks.findIdx? (· = k) = none) (hl : X.vs.length = 2 * X.V + 2 + X.ks.length) : MapIs (X.keyed k v ps) (D.put (keyLit k) (.held v)) := by
  refine ⟨h.1.put _ _, fun k' => ?_⟩
  show _ = DataW.held (match (X.ks ++ [k]).findIdx? (· = k') with | some i => cutv ((X.vs ++ [v]).getD (2 * X.V + 2 + i) undef) (if i = X.ks.length then 0 else X.ko i) | none => .slice none 0 0)
  rw [List.findIdx?_append]
  by_cases e : k' = k
  · subst e
    rw [Maps.atKey_put_same h.1 (keyLit_is _), hk]
    simp [List.getD, hl.symm, cutv_zero]
  · rw [Maps.atKey_put_other (keyLit_ne e), h.2 k']
    have e2 : ¬ k = k' := fun h => e h.symm
    cases hf : X.ks.findIdx? (· = k') with
    | none => simp [e2]
    | some i =>
      have := (find_key hf).1
      simp only [Option.or, Option.some_or]
      simp [List.getD, List.getElem?_append_left (show 2 * X.V + 2 + i < X.vs.length by omega), show i ≠ X.ks.length by omega]

end

end Go.Proofs.YthcpfaahcncfjaaGreatDoor

namespace Go.Proofs.YthcpfaahcncfjaaGreatDoor
open Go.RowKit
set_option linter.unusedVariables false
set_option linter.unusedSimpArgs false

/-- a value more behind a row of one's own, where there is room -/
theorem own_room7 {w : World} {base e g n c : Nat} {xs : List Value} (h : w.ownsRow base e 1 (.slice (some ⟨g, 0, none⟩) n c) n xs) (hr : n + 1 ≤ c) (u : Value) :
    (w.setCell ⟨g, n, none⟩ u).ownsRow base e 1 (.slice (some ⟨g, 0, none⟩) (n + 1) c) (n + 1) (xs ++ [u]) ∧ (w.cell? ⟨g, n, none⟩).isSome = true ∧ w.frozen? ⟨g, n, none⟩ = false := by
  rcases h.2 with ⟨hv, _⟩ | ⟨g', cap', cur, hv, hb', hg', hnc, hmx, hcs, htk⟩
  · cases hv
  · injection hv with hA _ hC
    injection hA with hA
    injection hA with hA
    subst hA hC
    have hlt : n < cur.size := by omega
    refine ⟨⟨by simp [h.1], .inr ⟨g, c, cur.setIfInBounds n u, rfl, hb', ?_, hr, hmx, by rw [Array.size_setIfInBounds]; exact hcs, ?_⟩⟩, ?_, ?_⟩
    · simp [World.setCell, Array.getElem?_modify, hg']
    · rw [Array.toList_setIfInBounds, Nat.mul_one, List.take_succ_eq_append_getElem (by simp; exact hlt), List.take_set_of_le (Nat.le_refl _)]
      rw [Nat.mul_one] at htk
      rw [htk]
      simp
    · simp [World.cell?, hg', hlt]
    · simp [World.frozen?, hg']

theorem grown_any7 {w w' : World} (h : w.grownBy w' none) (row : Option Nat) : w.grownBy w' row := ⟨h.os, h.tape, h.output, h.size, fun k hk _ => h.block k hk (by simp)⟩

/-- what an append to a row less its first d leaves: the same row with one more, or a new one -/
def Cut7 (w w' : World) (base : Nat) (v0 : Value) (ps : List Nat) (d q : Nat) (v' : Value) : Prop :=
  ∃ (A' : Option Addr) (c' : Nat) (ps' : List Nat) (d' : Nat), v' = cutv (.slice A' ps'.length c') d' ∧ ps'.drop d' = ps.drop d ++ [q] ∧ d' ≤ ps'.length ∧ ps'.length ≤ ps.length + 1 ∧ (d = 0 → d' = 0) ∧
    w'.ownsRow base 121 1 (.slice A' ps'.length c') ps'.length (ptrs7 ps') ∧ w.grownBy w' v0.ownBlock ∧ ((Value.slice A' ps'.length c').ownBlock = v0.ownBlock ∨ ∀ g, (Value.slice A' ps'.length c').ownBlock = some g → w.heap.size ≤ g)

theorem run_append_cut7 {w : World} {base c d gx q : Nat} {A : Option Addr} {ps : List Nat} (hown : w.ownsRow base 121 1 (.slice A ps.length c) ps.length (ptrs7 ps)) (hd : d ≤ ps.length) (hx : w.cell? ⟨gx, 0, none⟩ = some (.pointer (some ⟨q, 0, none⟩))) (hn : ps.length ≤ 1000000000) (hbase : base ≤ w.heap.size)
    (t ty : TypeId) (ht : Tryz.prog.underlying t = some (.slice 121)) :
    ∃ v' w', (Builtin.append_ #[t, t] ty #[cutv (.slice A ps.length c) d, .slice (some ⟨gx, 0, none⟩) 1 1]).run Tryz.prog w = .ok v' w' ∧ Cut7 w w' base (.slice A ps.length c) ps d q v' := by
  obtain ⟨i0, hi, hz0, hz1, hz2⟩ := info_parts infoPtr7
  have hnews : ∀ j u, [Value.pointer (some ⟨q, 0, none⟩)][j]? = some u → w.cell? ((⟨gx, 0, none⟩ : Addr).add j) = some u := by
    intro j u hu
    match j, hu with
    | 0, hu => simp at hu; subst hu; simpa [Addr.add] using hx
  have h1 : ∀ u ∈ [Value.pointer (some ⟨q, 0, none⟩)], u.oneCell' = true := by intro u hu; simp at hu; subst hu; rfl
  have hpl := ptrs7_len ps
  have hsn : ptrs7 (ps ++ [q]) = ptrs7 ps ++ [.pointer (some ⟨q, 0, none⟩)] := by simp [ptrs7]
  rcases hown.2 with ⟨hv, h0⟩ | ⟨g, cap, cur, hv, hb, hg, hnc, hmx, hcs, htk⟩
  · injection hv with hA _ hC
    subst hA hC
    obtain rfl : ps = [] := List.length_eq_zero_iff.1 h0
    obtain rfl : d = 0 := by simpa using hd
    obtain ⟨v', w', hrun, h2, h3, _, h4⟩ := run_append_own_at (P := Tryz.prog) w base t ty 121 i0 (.pointer none) 1 8 ht hi hz0 hz1 hz2 (by decide) (by decide) _ _ _ hown ⟨gx, 0, none⟩ 1 1 [.pointer (some ⟨q, 0, none⟩)] rfl hnews h1 (by simp [maxLen]) (by simp) hbase
    obtain ⟨A', c', hv', _⟩ := own_slice h2
    subst hv'
    refine ⟨_, w', hrun, A', c', [q], 0, by rw [cutv_zero]; rfl, rfl, Nat.zero_le _, by simp, fun _ => rfl, h2, h3, ?_⟩
    rcases h4 with e | e
    · exact .inl e
    · exact .inr fun g hg => by
        have hg' : (Value.slice A' (([] : List Nat).length + 1) c').ownBlock = some g := hg
        rw [e] at hg'; injection hg' with hg'; omega
  · injection hv with hA _ hC
    subst hA hC
    have hcut : cutv (.slice (some ⟨g, 0, none⟩) ps.length c) d = .slice (some ⟨g, 0 + d, none⟩) (ps.length - d) (c - d) := rfl
    rw [hcut]
    by_cases hroom : ps.length + 1 ≤ c
    · obtain ⟨r1, r2, r3⟩ := own_room7 hown hroom (.pointer (some ⟨q, 0, none⟩))
      have hoff : 0 + d + (ps.length - d) * i0.size = ps.length := by rw [hz1]; omega
      have hrun := run_append_room_cells (P := Tryz.prog) w t ty 121 i0 ht hi g (0 + d) (ps.length - d) (c - d) ⟨gx, 0, none⟩ 1 1 [.pointer (some ⟨q, 0, none⟩)] (by rw [hz1]; rfl) hnews h1 (by omega)
        (fun j hj => by obtain rfl : j = 0 := (by simpa using hj); rw [hoff]; exact r2) (fun j hj => by obtain rfl : j = 0 := (by simpa using hj); rw [hoff]; exact r3)
      rw [hoff] at hrun
      refine ⟨_, _, hrun, some ⟨g, 0, none⟩, c, ps ++ [q], d, ?_, by rw [List.drop_append_of_le_length hd], by simp; omega, by simp, fun e => e, ?_, grown_setCell w ⟨g, ps.length, none⟩ _, .inl rfl⟩
      · show Value.slice _ _ _ = Value.slice _ _ _
        rw [List.length_append, List.length_singleton, show ps.length + 1 - d = ps.length - d + 1 by omega]
      · rw [List.length_append, List.length_singleton, hsn]; exact r1
    · have hlo : ((ptrs7 ps).drop d).length = (ps.length - d) * 1 := by rw [List.length_drop, hpl]; omega
      obtain ⟨v', w', hrun, h2, h3⟩ := run_append_arg_grows (P := Tryz.prog) w t ty 121 i0 (.pointer none) 1 8 ht hi hz0 hz1 hz2 (by decide) (by decide) ⟨g, 0 + d, none⟩ (ps.length - d) (c - d) ((ptrs7 ps).drop d) hlo
        (fun j u hu => by
          have hj : d + j < ps.length := by
            have := (List.getElem?_eq_some_iff.1 hu).1
            rw [hlo] at this; omega
          rw [List.getElem?_drop] at hu
          have := World.ownsRow.cellAt hown (d + j) (by omega)
          rw [hu] at this
          rw [Lib.add_plain, Nat.zero_add]
          exact this)
        ⟨gx, 0, none⟩ 1 1 [.pointer (some ⟨q, 0, none⟩)] rfl hnews (by omega) (by unfold maxLen; omega) (by omega)
      obtain ⟨A', c', hv', _, hp⟩ := own_slice h2
      obtain ⟨g', rfl, hg1, hg2, hg3⟩ := hp (by omega)
      subst hv'
      have hl2 : (ps.drop d ++ [q]).length = ps.length - d + 1 := by simp
      refine ⟨_, w', hrun, some ⟨g', 0, none⟩, c', ps.drop d ++ [q], 0, by rw [cutv_zero, hl2], by simp, Nat.zero_le _, by simp, fun _ => rfl, ?_, grown_any7 h3 _, .inr fun k hk => ?_⟩
      · rw [hl2, show ptrs7 (ps.drop d ++ [q]) = (ptrs7 ps).drop d ++ [.pointer (some ⟨q, 0, none⟩)] by simp [ptrs7, List.map_drop]]
        exact own_more h2 hbase
      · have : g' = k := by simpa [Value.ownBlock] using hk
        omega

end Go.Proofs.YthcpfaahcncfjaaGreatDoor

namespace Go.Proofs.YthcpfaahcncfjaaGreatDoor
open Go.RowKit
set_option linter.unusedVariables false
set_option linter.unusedSimpArgs false

/-- one pile more, in a block of its own -/
theorem Piles.snoc7 {w w' : World} {base : Nat} {vs : List Value} {pss : List (List Nat)} {A : Option Addr} {c : Nat} {ps : List Nat} (h : Piles w base vs pss) (hk : Piles w' base vs pss) (ho : w'.ownsRow base 121 1 (.slice A ps.length c) ps.length (ptrs7 ps)) (hf : ∀ g, (Value.slice A ps.length c).ownBlock = some g → w.heap.size ≤ g) : Piles w' base (vs ++ [.slice A ps.length c]) (pss ++ [ps]) := by
  have hlen := h.len
  have hlt : ∀ i g, i < pss.length → (vs.getD i undef).ownBlock = some g → g < w.heap.size := fun i g hi hg => by
    obtain ⟨Ai, ci, h1, h2⟩ := h.each i hi
    rw [h1] at hg
    exact (h2.lt g hg).2
  have hlow : ∀ i, i < pss.length → (vs ++ [Value.slice A ps.length c]).getD i undef = vs.getD i undef := fun i hi => by
    simp [List.getD, List.getElem?_append_left (show i < vs.length by omega)]
  have hlow2 : ∀ i, i < pss.length → (pss ++ [ps]).getD i [] = pss.getD i [] := fun i hi => by
    simp [List.getD, List.getElem?_append_left hi]
  have htop : (vs ++ [Value.slice A ps.length c]).getD pss.length undef = Value.slice A ps.length c := by
    rw [← hlen]; simp [List.getD]
  refine ⟨by simp [hlen], fun j hj => ?_, fun i j g hij hi hj h1 h2 => ?_⟩
  · simp at hj
    rcases Nat.lt_or_ge j pss.length with h1 | h1
    · rw [hlow j h1, hlow2 j h1]; exact hk.each j h1
    · obtain rfl : j = pss.length := by omega
      rw [htop, show (pss ++ [ps]).getD pss.length [] = ps by simp [List.getD]]
      exact ⟨A, c, rfl, ho⟩
  · simp at hi hj
    rcases Nat.lt_or_ge i pss.length with hi2 | hi2 <;> rcases Nat.lt_or_ge j pss.length with hj2 | hj2
    · rw [hlow i hi2] at h1; rw [hlow j hj2] at h2
      exact h.ne i j g hij hi2 hj2 h1 h2
    · obtain rfl : j = pss.length := by omega
      rw [hlow i hi2] at h1; rw [htop] at h2
      have := hlt i g hi2 h1; have := hf g h2; omega
    · obtain rfl : i = pss.length := by omega
      rw [hlow j hj2] at h2; rw [htop] at h1
      have := hlt j g hj2 h2; have := hf g h1; omega
    · omega

section

variable {W : World} {base : Nat} {X : SX} {fo : List Bool}

/-- the piles of keys are others; all else is what it was -/
theorem Sto.recast {w4 : World} {vs' : List Value} {pss' : List (List Nat)} {ks' : List (List UInt8)} {ko' : Nat → Nat} (h : Sto W base X fo) (k4 : ∀ q t Y, Blk W q t Y → t ≠ 121 → Blk w4 q t Y) (r4 : ∀ (e : TypeId) (v : Value) (n : Nat) (xs : List Value), W.ownsRow base e 1 v n xs → e ≠ 121 → w4.ownsRow base e 1 v n xs)
    (hp : Piles w4 base vs' pss') (hn : pss'.length = 2 * X.V + 2 + ks'.length ∧ ks'.Nodup) (h0 : vs'.getD (2 * X.V) undef = X.vs.getD (2 * X.V) undef) (h1 : vs'.getD (2 * X.V + 1) undef = X.vs.getD (2 * X.V + 1) undef) (ht : vs'.take (2 * X.V) = X.vs.take (2 * X.V))
    (hm : ∃ D n, w4.ownsMap Tryz.prog 9 heldE X.m n D ∧ n ≤ X.tk + 1 ∧ MapIs { X with vs := vs', pss := pss', ks := ks', ko := ko', tk := X.tk + 1 } D) (hb : Below base W w4) (hrc : Recs W w4) :
    Sto w4 base { X with vs := vs', pss := pss', ks := ks', ko := ko', tk := X.tk + 1 } fo ∧ Tn base X W w4 := by
  refine ⟨⟨?_, k4 _ _ _ h.fol (by decide), h.flen, r4 _ _ _ _ h.fnd (by decide), ?_, hp, hn, fun p hp => ?_, hm, h.lo, h.vb⟩, ⟨hb, fun q t Y hq h1 h2 h3 h4 h5 h6 => k4 q t Y hq h3, hrc⟩⟩
  · have := k4 _ _ _ h.st (by decide)
    have e : ({ X with vs := vs', pss := pss', ks := ks', ko := ko', tk := X.tk + 1 } : SX).head = X.head := by
      simp only [SX.head, SX.fv]
      rw [h0, h1]
    rw [e]; exact this
  · show World.ownsRow _ base _ 1 (.slice X.Aw (2 * X.V) X.cw) (2 * X.V) (vs'.take (2 * X.V))
    rw [ht]; exact r4 _ _ _ _ h.out (by decide)
  · obtain ⟨c1, c2, c3, c4⟩ := h.cl p hp
    exact ⟨k4 _ _ _ c1 (by decide), c2, r4 _ _ _ _ c3 (by decide), c4⟩

/-- a key that was there: its pile is another -/
theorem Sto.keyed_old {wa w3 w4 : World} {j d n c : Nat} {k : List UInt8} {A : Option Addr} {ps : List Nat} {D : DataW Value} (h : Sto W base X fo) (hk : X.ks.findIdx? (· = k) = some j) (hb : Below W.heap.size W wa) (hg : wa.grownBy w3 (X.vs.getD (2 * X.V + 2 + j) undef).ownBlock)
    (ho : w3.ownsRow base 121 1 (.slice A ps.length c) ps.length (ptrs7 ps)) (hat : (Value.slice A ps.length c).ownBlock = (X.vs.getD (2 * X.V + 2 + j) undef).ownBlock ∨ ∀ g, (Value.slice A ps.length c).ownBlock = some g → wa.heap.size ≤ g)
    (hn : n ≤ X.tk + 1) (hm4 : w4.ownsMap Tryz.prog 9 heldE X.m n D) (hM : MapIs (X.kpile j (.slice A ps.length c) ps d) D) (hm3 : ∃ n D, w3.ownsMap Tryz.prog 9 heldE X.m n D) (hg4 : w3.grownBy w4 (some X.m)) :
    Sto w4 base (X.kpile j (.slice A ps.length c) ps d) fo ∧ Tn base X W w4 := by
  obtain ⟨i, hi⟩ : ∃ i, i = 2 * X.V + 2 + j := ⟨_, rfl⟩
  obtain ⟨n3, D3, hm3⟩ := hm3
  have hnum := h.num.1
  have hjl := (find_key hk).1
  have hil : i < X.pss.length := by omega
  have hlen := h.pil.len
  unfold SX.kpile at hM ⊢
  rw [← hi] at hg hat hM ⊢
  obtain ⟨Ai, ci, hvi, hoi⟩ := h.pil.each i hil
  have hoi' : W.ownsRow base 121 1 (X.vs.getD i undef) (X.pss.getD i []).length (ptrs7 (X.pss.getD i [])) := by rw [hvi]; exact hoi
  have k3 : ∀ q t Y, Blk W q t Y → t ≠ 121 → Blk w3 q t Y := fun q t Y hq h1 => (hq.below hb hq.lt).grown hg (own_blk_ne hoi' hq (Ne.symm h1))
  have r3 : ∀ (e : TypeId) (v : Value) (n : Nat) (xs : List Value), W.ownsRow base e 1 v n xs → e ≠ 121 → w3.ownsRow base e 1 v n xs := fun e v n xs ho h1 => by
    refine (own_below ho hb fun g hg => (ho.lt g hg).2).kept hg ?_
    rcases own_own_ne ho hoi' h1 with e1 | e1
    · exact .inl e1
    · exact .inr e1
  have g4 : ∀ q t Y, Blk w3 q t Y → Blk w4 q t Y := fun q t Y hq => hq.grown hg4 (fun e => blk_map_ne7 hq hm3 (by simpa using e))
  have o4 : ∀ (e : TypeId) (v : Value) (n : Nat) (xs : List Value), w3.ownsRow base e 1 v n xs → w4.ownsRow base e 1 v n xs := fun e v n xs ho => ho.kept hg4 (.inr (own_map_ne7 ho hm3).symm)
  have hbW : base ≤ W.heap.size := by have := h.lo.1; have := h.st.lt; omega
  have hpil3 : Piles w3 base (X.vs.set i (.slice A ps.length c)) (X.pss.set i ps) := by
    have hpa : Piles wa base X.vs X.pss := h.pil.keep fun q Y hq => hq.below hb hq.lt
    exact hpa.put hil hg ho hat
  refine h.recast (fun q t Y hq h1 => g4 _ _ _ (k3 q t Y hq h1)) (fun e v n xs ho h1 => o4 _ _ _ _ (r3 e v n xs ho h1)) (hpil3.keep fun q Y hq => g4 _ _ _ hq) ⟨by rw [List.length_set]; exact hnum, h.num.2⟩ (getD_set_other (by omega) _) (getD_set_other (by omega) _) (List.take_set_of_le (by omega)) ⟨_, n, hm4, hn, hM⟩ ?_ (((Recs.of_below hb).trans (Recs.grown_row hg (own_below hoi' hb fun g hg2 => by rw [hvi] at hg2; exact (hoi.lt g hg2).2))).trans (Recs.grown_map hg4 hm3))
  exact (((hb.mono hbW).grown hg (Nat.le_trans hbW hb.size) fun g hg2 => by rw [hvi] at hg2; exact (hoi.lt g hg2).1)).grown hg4 (Nat.le_trans hbW (Nat.le_trans hb.size hg.size)) (fun g hg2 => by injection hg2 with hg2; have := h.lo.2.2; omega)

/-- a key that is new: a pile of its own -/
theorem Sto.keyed_new {wa w3 w4 : World} {n c : Nat} {k : List UInt8} {A : Option Addr} {ps : List Nat} {D : DataW Value} (h : Sto W base X fo) (hk : X.ks.findIdx? (· = k) = none) (hb : Below W.heap.size W wa) (hg : wa.grownBy w3 none)
    (ho : w3.ownsRow base 121 1 (.slice A ps.length c) ps.length (ptrs7 ps)) (hat : ∀ g, (Value.slice A ps.length c).ownBlock = some g → W.heap.size ≤ g)
    (hn : n ≤ X.tk) (hM : MapIs X D) (hm3 : w3.ownsMap Tryz.prog 9 heldE X.m n D) (hm4 : w4.ownsMap Tryz.prog 9 heldE X.m (n + 1) (D.put (keyLit k) (.held (.slice A ps.length c)))) (hg4 : w3.grownBy w4 (some X.m)) :
    Sto w4 base (X.keyed k (.slice A ps.length c) ps) fo ∧ Tn base X W w4 := by
  have hnum := h.num.1
  have hlen := h.pil.len
  have hb3 : Below W.heap.size W w3 := hb.grown hg hb.size (fun g hg2 => by cases hg2)
  have g4 : ∀ q t Y, Blk w3 q t Y → Blk w4 q t Y := fun q t Y hq => hq.grown hg4 (fun e => blk_map_ne7 hq hm3 (by simpa using e))
  have o4 : ∀ (e : TypeId) (v : Value) (n : Nat) (xs : List Value), w3.ownsRow base e 1 v n xs → w4.ownsRow base e 1 v n xs := fun e v n xs ho => ho.kept hg4 (.inr (own_map_ne7 ho hm3).symm)
  have hbW : base ≤ W.heap.size := by have := h.lo.1; have := h.st.lt; omega
  have hp3 : Piles w3 base X.vs X.pss := h.pil.keep fun q Y hq => hq.below hb3 hq.lt
  have hkn : k ∉ X.ks := fun hm => by
    have := List.findIdx?_eq_none_iff.1 hk k hm
    simp at this
  refine h.recast (vs' := X.vs ++ [Value.slice A ps.length c]) (pss' := X.pss ++ [ps]) (ks' := X.ks ++ [k]) (fun q t Y hq h1 => g4 _ _ _ (hq.below hb3 hq.lt)) (fun e v n xs ho h1 => o4 _ _ _ _ (own_below ho hb3 fun g hg => (ho.lt g hg).2)) ((h.pil.snoc7 hp3 ho hat).keep fun q Y hq => g4 _ _ _ hq) ⟨by simp; omega, ?_⟩ ?_ ?_ ?_ ⟨_, n + 1, hm4, by omega, MapIs.put_new (v := Value.slice A ps.length c) (ps := ps) hM hk (by omega)⟩ ?_ ((Recs.of_below hb3).trans (Recs.grown_map hg4 hm3))
  · rw [List.nodup_append]
    exact ⟨h.num.2, by simp, fun a ha b hb e => hkn (by rw [List.mem_singleton.1 hb] at e; exact e ▸ ha)⟩
  · simp [List.getD, List.getElem?_append_left (show 2 * X.V < X.vs.length by omega)]
  · simp [List.getD, List.getElem?_append_left (show 2 * X.V + 1 < X.vs.length by omega)]
  · rw [List.take_append_of_le_length (by omega)]
  · exact (hb3.mono hbW).grown hg4 (Nat.le_trans hbW hb3.size) (fun g hg2 => by injection hg2 with hg2; have := h.lo.2.2; omega)

end

end Go.Proofs.YthcpfaahcncfjaaGreatDoor

namespace Go.Proofs.YthcpfaahcncfjaaGreatDoor
open Go.RowKit
set_option linter.unusedVariables false
set_option linter.unusedSimpArgs false

/-- a clause more, and where it has been put -/
structure More7 (X X' : SX) (q : Nat) (L : List Int) : Prop where
  V : X'.V = X.V
  fd : X'.fd = X.fd
  ps : X'.ps = X.ps ++ [q]
  new : q ∉ X.ps
  C : ∀ p, p ≠ q → X'.C p = X.C p
  num : (X'.C q).num = X.added
  lits : (X'.C q).lits = L
  gone : (X'.C q).gone = false
  two : 2 ≤ L.length → (X'.C q).w0 = L.getD 0 0 ∧ (X'.C q).w1 = L.getD 1 0 ∧ (X'.C q).tried = 0
  added : X'.added = X.added + 1
  ng : X'.ng = X.ng
  tk : X'.tk = X.tk + 1
  all : X'.pss.getD (2 * X.V) [] = X.pss.getD (2 * X.V) [] ++ [q]
  short : X'.pss.getD (2 * X.V + 1) [] = if L.length < 2 then X.pss.getD (2 * X.V + 1) [] ++ [q] else X.pss.getD (2 * X.V + 1) []
  wait : ∀ j, j < 2 * X.V → X'.pss.getD j [] = if 2 ≤ L.length ∧ (ix (L.getD 0 0) = j ∨ ix (L.getD 1 0) = j) then X.pss.getD j [] ++ [q] else X.pss.getD j []
  keys : ∃ i : Nat, X'.ks[i]? = some (keyOf L) ∧ (∀ (j : Nat) (k : List UInt8), X.ks[j]? = some k → X'.ks[j]? = some k) ∧ (∀ (j : Nat) (k : List UInt8), X'.ks[j]? = some k → j ≠ i → X.ks[j]? = some k ∧ X'.pss.getD (2 * X.V + 2 + j) [] = X.pss.getD (2 * X.V + 2 + j) [] ∧ X'.ko j = X.ko j) ∧
    ((X.ks[i]? = some (keyOf L) ∧ (X'.pss.getD (2 * X.V + 2 + i) []).drop (X'.ko i) = (X.pss.getD (2 * X.V + 2 + i) []).drop (X.ko i) ++ [q]) ∨ (keyOf L ∉ X.ks ∧ (X'.pss.getD (2 * X.V + 2 + i) []).drop (X'.ko i) = [q])) ∧
    X'.ko i ≤ (X'.pss.getD (2 * X.V + 2 + i) []).length ∧ (X'.pss.getD (2 * X.V + 2 + i) []).length ≤ X.tk + 1

section

variable {W W' : World} {base : Nat} {X X' : SX} {fo : List Bool} {q : Nat} {L : List Int}

theorem More7.live (h : More7 X X' q L) : X'.live = X.live ++ [q] := by
  unfold SX.live
  rw [h.ps, List.filter_append]
  congr 1
  · exact List.filter_congr fun p hp => by rw [h.C p (fun e => h.new (e ▸ hp))]
  · simp [h.gone]

theorem More7.cs (h : More7 X X' q L) : X'.cs = X.cs ++ [L] := by
  unfold SX.cs
  rw [h.live, List.map_append]
  congr 1
  · exact List.map_congr_left fun p hp => by rw [h.C p (fun e => h.new (e ▸ (SX.mem_live.1 hp).1))]
  · simp [h.lits]

theorem More7.pos (h : More7 X X' q L) {p : Nat} (hp : p ∈ X'.ps) : p = q ∨ (p ∈ X.ps ∧ p ≠ q) := by
  rw [h.ps] at hp
  rcases List.mem_append.1 hp with hp | hp
  · exact .inr ⟨hp, fun e => h.new (e ▸ hp)⟩
  · exact .inl (List.mem_singleton.1 hp)

theorem More7.wfs (h : More7 X X' q L) (hw : Wfs X) (hL : ∀ x, x ∈ L → Lt7 X.V x) (hr : Rising L) (hl : L.length ≤ 1000000000) (hp : X.ps.length < 1000000000) : Wfs X' := by
  refine ⟨fun p hp => ?_, by rw [h.ps]; simp; omega, fun j hj => ?_⟩
  · rw [h.V]
    rcases h.pos hp with rfl | ⟨hp, hne⟩
    · refine ⟨fun l hl => hL l (by rw [h.lits] at hl; exact hl), by rw [h.lits]; exact hl, fun h2 => ?_⟩
      rw [h.lits] at h2 ⊢
      obtain ⟨a, b, c⟩ := h.two h2
      rw [a, b, c]
      have e0 : L.getD 0 0 = L[0] := by simp [List.getD, show 0 < L.length by omega]
      have e1 : L.getD 1 0 = L[1] := by simp [List.getD, show 1 < L.length by omega]
      refine ⟨by rw [e0]; exact List.getElem_mem _, by rw [e1]; exact List.getElem_mem _, fun e => ?_, by omega⟩
      have := List.pairwise_iff_getElem.1 hr 0 1 (by omega) (by omega) (by omega)
      rw [← e0, ← e1, e] at this
      omega
    · rw [h.C p hne]; exact hw.cl p hp
  · rw [h.V] at hj
    obtain ⟨q1, q2, q3⟩ := hw.pile j hj
    have hq : q ∉ X.pss.getD j [] := fun hm => h.new (q2 q hm).1
    have hwq : Waits (X'.C q) j ↔ 2 ≤ L.length ∧ (ix (L.getD 0 0) = j ∨ ix (L.getD 1 0) = j) := by
      unfold Waits
      rw [h.lits]
      constructor
      · rintro ⟨a, b⟩
        obtain ⟨c, d, _⟩ := h.two a
        rw [c, d] at b
        exact ⟨a, b⟩
      · rintro ⟨a, b⟩
        obtain ⟨c, d, _⟩ := h.two a
        rw [c, d]
        exact ⟨a, b⟩
    have hold : ∀ p, p ∈ X.pss.getD j [] → p ∈ X'.ps ∧ Waits (X'.C p) j := fun p hp => by
      obtain ⟨a, b⟩ := q2 p hp
      exact ⟨by rw [h.ps]; exact List.mem_append_left _ a, by rw [h.C p (fun e => h.new (e ▸ a))]; exact b⟩
    have hnew : ∀ p, p ∈ X'.ps → (X'.C p).gone = false → Waits (X'.C p) j → p ≠ q → p ∈ X.pss.getD j [] := fun p hp hg hwt hne => by
      rcases h.pos hp with rfl | ⟨hp, _⟩
      · exact absurd rfl hne
      · rw [h.C p hne] at hg hwt; exact q3 p hp hg hwt
    rw [h.wait j hj]
    split
    · next hc =>
      refine ⟨List.nodup_append.2 ⟨q1, by simp, fun a ha b hb e => hq (by rw [List.mem_singleton.1 hb] at e; exact e ▸ ha)⟩, fun p hp => ?_, fun p hp hg hwt => ?_⟩
      · rcases List.mem_append.1 hp with hp | hp
        · exact hold p hp
        · rw [List.mem_singleton.1 hp]; exact ⟨by rw [h.ps]; simp, hwq.2 hc⟩
      · by_cases e : p = q
        · rw [e]; simp
        · exact List.mem_append_left _ (hnew p hp hg hwt e)
    · next hc =>
      refine ⟨q1, hold, fun p hp hg hwt => ?_⟩
      by_cases e : p = q
      · rw [e] at hwt; exact absurd (hwq.1 hwt) hc
      · exact hnew p hp hg hwt e

theorem More7.shortP (h : More7 X X' q L) (hs : Short X) : Short X' := by
  unfold Short
  rw [h.V, h.short]
  refine ⟨fun p hp => ?_, fun p hp hg hl => ?_⟩
  · have old : p ∈ X.pss.getD (2 * X.V + 1) [] → p ∈ X'.ps ∧ (X'.C p).lits.length < 2 := fun hp => by
      obtain ⟨a, b⟩ := hs.1 p hp
      exact ⟨by rw [h.ps]; exact List.mem_append_left _ a, by rw [h.C p (fun e => h.new (e ▸ a))]; exact b⟩
    split at hp
    · next hc =>
      rcases List.mem_append.1 hp with hp | hp
      · exact old hp
      · rw [List.mem_singleton.1 hp]; exact ⟨by rw [h.ps]; simp, by rw [h.lits]; exact hc⟩
    · exact old hp
  · rcases h.pos hp with rfl | ⟨hp, hne⟩
    · rw [h.lits] at hl
      rw [if_pos hl]; simp
    · rw [h.C p hne] at hg hl
      have := hs.2 p hp hg hl
      split
      · exact List.mem_append_left _ this
      · exact this

theorem More7.shelf (h : More7 X X' q L) (hs : Short X) (hS : Shelf7 X) (hr : Rising L) (hnd : X'.ks.Nodup) : Shelf7 X' := by
  obtain ⟨i, k1, k2, k3, k4, k5, k6⟩ := h.keys
  have hlive := h.live
  have hC : ∀ p, p ∈ X.ps → X'.C p = X.C p := fun p hp => h.C p (fun e => h.new (e ▸ hp))
  have hkeyL : ∀ j, X'.ks[j]? = some (keyOf L) → j = i := fun j hj => by
    obtain ⟨a1, a2⟩ := List.getElem?_eq_some_iff.1 hj
    obtain ⟨b1, b2⟩ := List.getElem?_eq_some_iff.1 k1
    exact (List.getElem_inj hnd).1 (a2.trans b2.symm)
  have hfil : ∀ k, (X.live.filter fun p => decide (keyOf (X'.C p).lits = k)) = X.live.filter fun p => decide (keyOf (X.C p).lits = k) := fun k => List.filter_congr fun p hp => by rw [hC p (SX.mem_live.1 hp).1]
  refine ⟨?_, ?_, ?_, fun p hp => ?_, ?_, fun p hp => ?_, fun j k hk => ?_, fun p hp => ?_, fun j hj => ?_⟩
  · rw [h.V, h.short]
    split
    · exact List.nodup_append.2 ⟨hS.shnd, by simp, fun a ha b hb e => h.new (by rw [List.mem_singleton.1 hb] at e; exact e ▸ (hs.1 a ha).1)⟩
    · exact hS.shnd
  · rw [h.V, h.all, h.ps, hS.all]
  · rw [h.ps]
    refine List.pairwise_append.2 ⟨hS.nums.imp_of_mem fun ha hb hlt => by rw [hC _ ha, hC _ hb]; exact hlt, List.pairwise_singleton _ _, fun a ha b hb => ?_⟩
    rw [List.mem_singleton.1 hb, hC a ha, h.num]
    exact hS.numlt a ha
  · rw [h.added]
    rcases h.pos hp with rfl | ⟨hp, _⟩
    · rw [h.num]; omega
    · rw [hC p hp]; have := hS.numlt p hp; omega
  · have := hS.ng
    rw [h.ng, hlive, h.ps, List.length_append, List.length_append, List.length_singleton]
    omega
  · rcases h.pos hp with rfl | ⟨hp, _⟩
    · rw [h.lits]; exact hr
    · rw [hC p hp]; exact hS.norm p hp
  · rw [h.V, hlive, List.filter_append, hfil]
    by_cases e : j = i
    · subst e
      rw [k1] at hk
      injection hk with hk
      subst hk
      have hone : ([q].filter fun p => decide (keyOf (X'.C p).lits = keyOf L)) = [q] := by simp [h.lits]
      rw [hone]
      refine ⟨?_, k5⟩
      rcases k4 with ⟨a, b⟩ | ⟨a, b⟩
      · rw [b, (hS.keys j _ a).1]
      · rw [b]
        have : (X.live.filter fun p => decide (keyOf (X.C p).lits = keyOf L)) = [] := List.filter_eq_nil_iff.2 fun p hp => by
          simp only [decide_eq_true_eq]
          exact fun e => a (e ▸ hS.keyed p hp)
        rw [this]; rfl
    · obtain ⟨a, b, c⟩ := k3 j k hk e
      have hone : ([q].filter fun p => decide (keyOf (X'.C p).lits = k)) = [] := by
        have : keyOf L ≠ k := fun e2 => e (hkeyL j (by rw [e2]; exact hk))
        simp [h.lits, this]
      rw [hone, List.append_nil, b, c]
      exact hS.keys j k a
  · rw [hlive] at hp
    rcases List.mem_append.1 hp with hp | hp
    · rw [hC p (SX.mem_live.1 hp).1]
      obtain ⟨j, hj, he⟩ := List.mem_iff_getElem.1 (hS.keyed p hp)
      exact List.mem_of_getElem? (k2 j _ (by rw [List.getElem?_eq_getElem hj, he]))
    · rw [List.mem_singleton.1 hp, h.lits]
      exact List.mem_of_getElem? k1
  · rw [h.V, h.tk]
    by_cases e : j = i
    · rw [e]; exact k6
    · obtain ⟨a, b, _⟩ := k3 j _ (List.getElem?_eq_getElem hj) e
      rw [b]
      have := hS.klen j (List.getElem?_eq_some_iff.1 a).1
      omega

/-- a store with one clause more is one between calls -/
theorem More7.rest (h : More7 X X' q L) (hR : Rest7 W base X fo) (hS : Sto W' base X' fo) (hL : ∀ x, x ∈ L → Lt7 X.V x) (hr : Rising L) (hl : L.length ≤ 1000000000) (hp : X.ps.length < 1000000000) : Rest7 W' base X' fo := by
  refine ⟨hS, h.wfs hR.wf hL hr hl hp, ⟨?_, ?_, ?_, ?_, ?_⟩, h.fd.trans hR.fd, h.shortP hR.short, h.shelf hR.short hR.shelf hr hS.num.2⟩
  · rw [h.V]; exact hR.fw.flen
  · rw [h.V, h.fd]; exact hR.fw.tie
  · rw [h.fd]; exact hR.fw.nd
  · rw [h.V, h.fd]; exact hR.fw.lt
  · rw [h.fd]; exact hR.fw.con

end

end Go.Proofs.YthcpfaahcncfjaaGreatDoor

namespace Go.Proofs.YthcpfaahcncfjaaGreatDoor
open Go.RowKit
set_option linter.unusedVariables false
set_option linter.unusedSimpArgs false

def decVal (bs : List UInt8) : Nat := bs.foldl (fun a b => a * 10 + (b.toNat - 48)) 0

theorem decVal_dec (u : Nat) : decVal (Lib.decDigits u) = u ∧ (∀ b, b ∈ Lib.decDigits u → 48 ≤ b.toNat ∧ b.toNat ≤ 57) ∧ Lib.decDigits u ≠ [] := by
  induction u using Nat.strongRecOn with
  | ind u ih =>
    rw [Lib.decDigits]
    have hd : ∀ d : Nat, d < 10 → (UInt8.ofNat (48 + d)).toNat = 48 + d := fun d h => by simp [UInt8.toNat_ofNat']; omega
    split
    · next h =>
      refine ⟨?_, fun b hb => ?_, by simp⟩
      · have e := hd u h
        simp only [decVal, List.foldl_cons, List.foldl_nil]
        omega
      · rw [List.mem_singleton.1 hb, hd u h]; omega
    · next h =>
      obtain ⟨a, b, c⟩ := ih (u / 10) (by omega)
      refine ⟨?_, fun x hx => ?_, by simp⟩
      · unfold decVal at a ⊢
        rw [List.foldl_append, a]
        simp only [List.foldl_cons, List.foldl_nil]
        rw [hd _ (Nat.mod_lt _ (by omega))]
        omega
      · rcases List.mem_append.1 hx with hx | hx
        · exact b x hx
        · rw [List.mem_singleton.1 hx, hd _ (Nat.mod_lt _ (by omega))]; omega

theorem itoa_inj7 {a b : Int} (h : Lib.itoa a = Lib.itoa b) : a = b := by
  unfold Lib.itoa at h
  have hne : ∀ (u : Nat) (l : List UInt8), 45 :: l ≠ Lib.decDigits u := fun u l e => by
    have := (decVal_dec u).2.1 45 (by rw [← e]; simp)
    revert this; decide
  have hin : ∀ u v : Nat, Lib.decDigits u = Lib.decDigits v → u = v := fun u v e => by
    have h1 := (decVal_dec u).1
    rw [e, (decVal_dec v).1] at h1
    exact h1.symm
  split at h <;> split at h
  · injection h with _ h
    have := hin _ _ h
    omega
  · exact absurd h (hne _ _)
  · exact absurd h.symm (hne _ _)
  · have := hin _ _ h
    omega

theorem itoa_gap7 (a : Int) : (32 : UInt8) ∉ Lib.itoa a := fun hm => by
  unfold Lib.itoa at hm
  split at hm
  · rcases List.mem_cons.1 hm with e | hm
    · revert e; decide
    · have := (decVal_dec _).2.1 _ hm
      revert this; decide
  · have := (decVal_dec _).2.1 _ hm
    revert this; decide

theorem split_gap7 : ∀ {a b s t : List UInt8}, (32 : UInt8) ∉ a → (32 : UInt8) ∉ b → a ++ 32 :: s = b ++ 32 :: t → a = b ∧ s = t
  | [], [], s, t, _, _, h => ⟨rfl, by injection h⟩
  | [], y :: b, s, t, _, hb, h => by
    injection h with h _
    exact absurd (by rw [h]; simp) hb
  | x :: a, [], s, t, ha, _, h => by
    injection h with h _
    exact absurd (by rw [← h]; simp) ha
  | x :: a, y :: b, s, t, ha, hb, h => by
    injection h with h1 h2
    obtain ⟨e1, e2⟩ := split_gap7 (fun hm => ha (by simp [hm])) (fun hm => hb (by simp [hm])) h2
    exact ⟨by rw [h1, e1], e2⟩

theorem keyOf_inj : ∀ {xs ys : List Int}, keyOf xs = keyOf ys → xs = ys
  | [], [], _ => rfl
  | [], y :: ys, h => by
    have e : keyOf (y :: ys) = Lib.itoa y ++ 32 :: keyOf ys := by simp [keyOf]
    rw [e] at h
    simp [keyOf] at h
  | x :: xs, [], h => by
    have e : keyOf (x :: xs) = Lib.itoa x ++ 32 :: keyOf xs := by simp [keyOf]
    rw [e] at h
    simp [keyOf] at h
  | x :: xs, y :: ys, h => by
    have e : ∀ (z : Int) (zs : List Int), keyOf (z :: zs) = Lib.itoa z ++ 32 :: keyOf zs := fun z zs => by simp [keyOf]
    rw [e, e] at h
    obtain ⟨h1, h2⟩ := split_gap7 (itoa_gap7 x) (itoa_gap7 y) h
    rw [itoa_inj7 h1, keyOf_inj h2]

end Go.Proofs.YthcpfaahcncfjaaGreatDoor

namespace Go.Proofs.YthcpfaahcncfjaaGreatDoor
open Go.RowKit Go.Maps Go.WideMaps
set_option linter.unusedVariables false
set_option linter.unusedSimpArgs false

/-- the library's table of tens is there, whatever turns above B -/
def TabB (B : Nat) (w : World) : Prop := Lib.TabBelow Tryz.prog B w "internal/strconv.uint64pow10" .u64 Lib.pow10Tab

theorem TabB.here {B : Nat} {w : World} (h : TabB B w) : Tab7 w := Lib.TabBelow.here h

theorem TabB.on {B : Nat} {w w' : World} (h : TabB B w) (hb : Below B w w') : TabB B w' := Lib.TabBelow.on h hb

theorem TabB.mono {B B' : Nat} {w : World} (h : TabB B w) (hb : B ≤ B') : TabB B' w := fun w' h' => h w' (h'.mono hb)

theorem Tab7.b {w : World} (h : Tab7 w) : TabB w.heap.size w := Lib.tabBelow_of_tabIs h

/-- the row that the map has for a key -/
def mapVal (X : SX) (k : List UInt8) : Value := match X.ks.findIdx? (· = k) with | some i => cutv (X.vs.getD (2 * X.V + 2 + i) undef) (X.ko i) | none => .slice none 0 0

theorem mapLaw7 : Keyed Tryz.prog 9 := string_keyed Tryz.underlying9

theorem mapKey7 {k : List UInt8} (h : k.length ≤ maxLen) : Go.keyOf Tryz.prog 9 (.string ⟨k.toArray⟩) = some (keyLit k) := by
  have := keyOf_string_mk (P := Tryz.prog) Tryz.underlying9 (s := ⟨k.toArray⟩) (by simpa [ByteArray.size] using h)
  simpa [keyLit] using this

theorem zeroRow7 (W : World) : (zeroValue 113).run Tryz.prog W = .ok (.slice none 0 0) W := by
  obtain ⟨i0, hi, hz0, hz1, hz2⟩ := info_parts infoRow7
  simp [zeroValue, typeInfo, hi, hz0]

theorem held_inj7 {v u : Value} {ps : List MemPlace} (h : heldE v = some (.held u, ps)) : v = u := DataW.held.inj (Prod.mk.inj (Option.some.inj h)).1

theorem Sto.look {W : World} {base : Nat} {X : SX} {fo : List Bool} (h : Sto W base X fo) {k : List UInt8} (hk : k.length ≤ maxLen) :
    (Instr.lookup 115 (.map (some X.m)) (.string ⟨k.toArray⟩) false).run Tryz.prog W = .ok (mapVal X k) W := by
  obtain ⟨D, n, hm, h2, h3, h4⟩ := h.map
  obtain ⟨v, ps, hrun, hv⟩ := hm.lookup mapLaw7 Tryz.underlying115 (zeroRow7 W) (zd := .held (.slice none 0 0)) (zp := []) rfl (mapKey7 hk)
  rw [h4 k] at hv
  have e : v = mapVal X k := held_inj7 hv
  rw [← e]
  exact hrun

/-- the clauses with this key -/
def keyed7 (X : SX) (k : List UInt8) : List Nat := X.live.filter fun p => decide (keyOf (X.C p).lits = k)

theorem mem_keyed7 {X : SX} {M : List Int} : 0 < (keyed7 X (keyOf M)).length ↔ M ∈ X.cs := by
  constructor
  · intro h
    obtain ⟨p, hp⟩ := List.exists_mem_of_length_pos h
    obtain ⟨a, b⟩ := List.mem_filter.1 hp
    have e := keyOf_inj (of_decide_eq_true b)
    exact List.mem_map.2 ⟨p, a, e⟩
  · intro h
    obtain ⟨p, a, b⟩ := List.mem_map.1 h
    exact List.length_pos_of_mem (a := p) (List.mem_filter.2 ⟨a, by simp [b]⟩)

theorem Rest7.row {W : World} {base : Nat} {X : SX} {fo : List Bool} (h : Rest7 W base X fo) (k : List UInt8) :
    ∃ A c, mapVal X k = .slice A (keyed7 X k).length c ∧ (keyed7 X k).length ≤ c ∧ ∀ j, j < (keyed7 X k).length → ∃ g off, A = some ⟨g, off, none⟩ ∧ W.cell? ⟨g, off + j, none⟩ = some (.pointer (some ⟨(keyed7 X k).getD j 0, 0, none⟩)) := by
  unfold mapVal
  cases hf : X.ks.findIdx? (· = k) with
  | none =>
    have : keyed7 X k = [] := List.filter_eq_nil_iff.2 fun p hp => by
      simp only [decide_eq_true_eq]
      intro e
      have := List.findIdx?_eq_none_iff.1 hf _ (h.shelf.keyed p hp)
      simp [e] at this
    rw [this]
    exact ⟨none, 0, rfl, Nat.le_refl _, fun j hj => absurd hj (by simp)⟩
  | some i =>
    obtain ⟨h1, h2⟩ := find_key hf
    obtain ⟨h3, h4⟩ := h.shelf.keys i k h2
    have hnum := h.sto.num.1
    obtain ⟨Aj, cj, hvj, hoj⟩ := h.sto.pil.each (2 * X.V + 2 + i) (by omega)
    have e : keyed7 X k = (X.pss.getD (2 * X.V + 2 + i) []).drop (X.ko i) := h3.symm
    rw [e]
    dsimp only
    rw [hvj]
    obtain ⟨ps, hps⟩ : ∃ ps, ps = X.pss.getD (2 * X.V + 2 + i) [] := ⟨_, rfl⟩
    rw [← hps] at hoj h4 ⊢
    rcases hoj.2 with ⟨hv, h0⟩ | ⟨g, cap, cur, hv, hb, hg, hnc, _⟩
    · injection hv with hA _ hC
      subst hA hC
      obtain rfl : ps = [] := List.length_eq_zero_iff.1 h0
      exact ⟨none, 0, by simp [cutv], by simp, fun j hj => absurd hj (by simp)⟩
    · injection hv with hA _ hC
      subst hA hC
      refine ⟨some ⟨g, 0 + X.ko i, none⟩, cj - X.ko i, by rw [List.length_drop]; rfl, by rw [List.length_drop]; omega, fun j hj => ⟨g, 0 + X.ko i, rfl, ?_⟩⟩
      rw [List.length_drop] at hj
      have := World.ownsRow.cellAt hoj (X.ko i + j) (by omega)
      rw [Nat.zero_add, this]
      simp [ptrs7, List.getD, show X.ko i + j < ps.length by omega]

end Go.Proofs.YthcpfaahcncfjaaGreatDoor

namespace Go.Proofs.YthcpfaahcncfjaaGreatDoor
open Go.RowKit
set_option linter.unusedVariables false
set_option linter.unusedSimpArgs false

structure Half7 (X X' : SX) (q : Nat) (x : CX) (L : List Int) : Prop where
  s : X'.s = X.s
  m : X'.m = X.m
  fb : X'.fb = X.fb
  V : X'.V = X.V
  fd : X'.fd = X.fd
  fv : X'.fv = X.fv
  ps : X'.ps = X.ps ++ [q]
  C : ∀ p, X'.C p = if p = q then x else X.C p
  added : X'.added = X.added + 1
  ng : X'.ng = X.ng
  tk : X'.tk = X.tk + 1
  all : X'.pss.getD (2 * X.V) [] = X.pss.getD (2 * X.V) [] ++ [q]
  low : ∀ j, j ≠ 2 * X.V → j < 2 * X.V + 2 → X'.pss.getD j [] = X.pss.getD j []
  len : 2 * X.V + 2 ≤ X'.pss.length
  keys : ∃ i : Nat, X'.ks[i]? = some (keyOf L) ∧ (∀ (j : Nat) (k : List UInt8), X.ks[j]? = some k → X'.ks[j]? = some k) ∧ (∀ (j : Nat) (k : List UInt8), X'.ks[j]? = some k → j ≠ i → X.ks[j]? = some k ∧ X'.pss.getD (2 * X.V + 2 + j) [] = X.pss.getD (2 * X.V + 2 + j) [] ∧ X'.ko j = X.ko j) ∧
    ((X.ks[i]? = some (keyOf L) ∧ (X'.pss.getD (2 * X.V + 2 + i) []).drop (X'.ko i) = (X.pss.getD (2 * X.V + 2 + i) []).drop (X.ko i) ++ [q]) ∨ (keyOf L ∉ X.ks ∧ (X'.pss.getD (2 * X.V + 2 + i) []).drop (X'.ko i) = [q])) ∧
    X'.ko i ≤ (X'.pss.getD (2 * X.V + 2 + i) []).length ∧ (X'.pss.getD (2 * X.V + 2 + i) []).length ≤ X.tk + 1

/-- listed with all clauses -/
def SX.listed (X : SX) (q : Nat) (x : CX) (v : Value) : SX := (X.born q x).pile (2 * X.V) v (X.pss.getD (2 * X.V) [] ++ [q])

section

variable {X X2 : SX} {q d j : Nat} {x : CX} {L : List Int} {v v2 : Value} {ps : List Nat}

theorem half_old (hn : X.pss.length = 2 * X.V + 2 + X.ks.length) (hk : X.ks.findIdx? (· = keyOf L) = some j) (hd : ps.drop d = (X.pss.getD (2 * X.V + 2 + j) []).drop (X.ko j) ++ [q]) (hd2 : d ≤ ps.length) (hp : ps.length ≤ X.tk + 1) : Half7 X ((X.listed q x v).kpile j v2 ps d) q x L := by
  obtain ⟨k1, k2⟩ := find_key hk
  have e1 : ((X.listed q x v).kpile j v2 ps d).pss = (X.pss.set (2 * X.V) (X.pss.getD (2 * X.V) [] ++ [q])).set (2 * X.V + 2 + j) ps := rfl
  refine ⟨rfl, rfl, rfl, rfl, rfl, rfl, rfl, fun p => ?_, rfl, rfl, rfl, ?_, fun i h1 h2 => ?_, ?_, j, k2, fun i k h => h, fun i k h hne => ⟨h, ?_, ?_⟩, .inl ⟨k2, ?_⟩, ?_, ?_⟩
  · exact SX.born_C X q x p
  · rw [e1, getD_set_other (by omega), getD_set_same (by omega)]
  · rw [e1, getD_set_other (by omega), getD_set_other (by omega)]
  · rw [e1]; simp; omega
  · rw [e1, getD_set_other (by omega), getD_set_other (by omega)]
  · show (if i = j then d else X.ko i) = _
    rw [if_neg hne]
  · rw [e1, getD_set_same (by simp; omega)]
    show ps.drop (if j = j then d else X.ko j) = _
    rw [if_pos rfl]; exact hd
  · rw [e1, getD_set_same (by simp; omega)]
    show (if j = j then d else X.ko j) ≤ _
    rw [if_pos rfl]; exact hd2
  · rw [e1, getD_set_same (by simp; omega)]; exact hp

theorem half_new (hn : X.pss.length = 2 * X.V + 2 + X.ks.length) (hk : X.ks.findIdx? (· = keyOf L) = none) : Half7 X ((X.listed q x v).keyed (keyOf L) v2 [q]) q x L := by
  have hkn : keyOf L ∉ X.ks := fun hm => by
    have := List.findIdx?_eq_none_iff.1 hk _ hm
    simp at this
  have e1 : ((X.listed q x v).keyed (keyOf L) v2 [q]).pss = (X.pss.set (2 * X.V) (X.pss.getD (2 * X.V) [] ++ [q])) ++ [[q]] := rfl
  have e2 : ((X.listed q x v).keyed (keyOf L) v2 [q]).ks = X.ks ++ [keyOf L] := rfl
  have hlow : ∀ i, i < X.pss.length → ((X.pss.set (2 * X.V) (X.pss.getD (2 * X.V) [] ++ [q])) ++ [[q]]).getD i [] = (X.pss.set (2 * X.V) (X.pss.getD (2 * X.V) [] ++ [q])).getD i [] := fun i hi => by
    simp only [List.getD]
    rw [List.getElem?_append_left (by simp; exact hi)]
  have htop : ((X.pss.set (2 * X.V) (X.pss.getD (2 * X.V) [] ++ [q])) ++ [[q]]).getD (2 * X.V + 2 + X.ks.length) [] = [q] := by
    simp only [List.getD]
    rw [List.getElem?_append_right (by simp; omega)]
    simp [show 2 * X.V + 2 + X.ks.length - X.pss.length = 0 by omega]
  refine ⟨rfl, rfl, rfl, rfl, rfl, rfl, rfl, fun p => ?_, rfl, rfl, rfl, ?_, fun i h1 h2 => ?_, ?_, X.ks.length, ?_, fun i k h => ?_, fun i k h hne => ?_, .inr ⟨hkn, ?_⟩, ?_, ?_⟩
  · exact SX.born_C X q x p
  · rw [e1, hlow _ (by omega), getD_set_same (by omega)]
  · rw [e1, hlow _ (by omega), getD_set_other (by omega)]
  · rw [e1]; simp; omega
  · rw [e2]; simp
  · rw [e2, List.getElem?_append_left (List.getElem?_eq_some_iff.1 h).1]; exact h
  · rw [e2] at h
    have hlt : i < X.ks.length := by
      have := (List.getElem?_eq_some_iff.1 h).1
      simp at this; omega
    rw [List.getElem?_append_left hlt] at h
    refine ⟨h, ?_, ?_⟩
    · rw [e1, hlow _ (by omega), getD_set_other (by omega)]
    · show (if i = X.ks.length then 0 else X.ko i) = _
      rw [if_neg hne]
  · rw [e1, htop]
    show [q].drop (if X.ks.length = X.ks.length then 0 else _) = _
    rw [if_pos rfl]; rfl
  · rw [e1, htop]
    show (if X.ks.length = X.ks.length then 0 else _) ≤ _
    rw [if_pos rfl]; simp
  · rw [e1, htop]; simp

theorem Half7.short (h : Half7 X X2 q x L) (hx : x.lits = L ∧ x.gone = false ∧ x.num = X.added) (hl : L.length < 2) (hnew : q ∉ X.ps) : More7 X (X2.pile (2 * X.V + 1) v (X2.pss.getD (2 * X.V + 1) [] ++ [q])) q L := by
  have hlen := h.len
  have e1 : (X2.pile (2 * X.V + 1) v (X2.pss.getD (2 * X.V + 1) [] ++ [q])).pss = X2.pss.set (2 * X.V + 1) (X2.pss.getD (2 * X.V + 1) [] ++ [q]) := rfl
  have hC : ∀ p, (X2.pile (2 * X.V + 1) v (X2.pss.getD (2 * X.V + 1) [] ++ [q])).C p = if p = q then x else X.C p := h.C
  obtain ⟨x1, x2, x3⟩ := hx
  refine ⟨h.V, h.fd, h.ps, hnew, fun p hp => ?_, ?_, ?_, ?_, fun h2 => ?_, h.added, h.ng, h.tk, ?_, ?_, fun j hj => ?_, ?_⟩
  · rw [hC, if_neg hp]
  · rw [hC, if_pos rfl]; exact x3
  · rw [hC, if_pos rfl]; exact x1
  · rw [hC, if_pos rfl]; exact x2
  · omega
  · rw [e1, getD_set_other (by omega)]; exact h.all
  · rw [e1, getD_set_same (by omega), if_pos hl, h.low _ (by omega) (by omega)]
  · rw [e1, getD_set_other (by omega), if_neg (by omega)]; exact h.low _ (by omega) (by omega)
  · obtain ⟨i, k1, k2, k3, k4, k5, k6⟩ := h.keys
    rw [e1]
    refine ⟨i, k1, k2, fun j k hj hne => ?_, ?_, ?_, ?_⟩
    · rw [getD_set_other (by omega)]; exact k3 j k hj hne
    · rw [getD_set_other (by omega)]; exact k4
    · rw [getD_set_other (by omega)]; exact k5
    · rw [getD_set_other (by omega)]; exact k6

theorem Half7.long {a b : Int} {va vb : Value} {P1 P2 : List Nat} (h : Half7 X X2 q x L) (hx : x.lits = L ∧ x.gone = false ∧ x.num = X.added ∧ x.tried = 0) (hl : 2 ≤ L.length) (hnew : q ∉ X.ps) (ea : a = L.getD 0 0) (eb : b = L.getD 1 0) (hne : ix a ≠ ix b) (ha : ix a < 2 * X.V) (hb : ix b < 2 * X.V)
    (h1 : P1 = X.pss.getD (ix a) [] ++ [q]) (h2 : P2 = X.pss.getD (ix b) [] ++ [q]) : More7 X (((X2.cl q { x with w0 := a, w1 := b }).pile (ix a) va P1).pile (ix b) vb P2) q L := by
  have hlen := h.len
  have e1 : (((X2.cl q { x with w0 := a, w1 := b }).pile (ix a) va P1).pile (ix b) vb P2).pss = (X2.pss.set (ix a) P1).set (ix b) P2 := rfl
  have hC : ∀ p, (((X2.cl q { x with w0 := a, w1 := b }).pile (ix a) va P1).pile (ix b) vb P2).C p = if p = q then { x with w0 := a, w1 := b } else X2.C p := fun p => rfl
  obtain ⟨x1, x2, x3, x4⟩ := hx
  refine ⟨h.V, h.fd, h.ps, hnew, fun p hp => ?_, ?_, ?_, ?_, fun _ => ?_, h.added, h.ng, h.tk, ?_, ?_, fun j hj => ?_, ?_⟩
  · rw [hC, if_neg hp, h.C, if_neg hp]
  · rw [hC, if_pos rfl]; exact x3
  · rw [hC, if_pos rfl]; exact x1
  · rw [hC, if_pos rfl]; exact x2
  · rw [hC, if_pos rfl]; exact ⟨ea, eb, x4⟩
  · rw [e1, getD_set_other (by omega), getD_set_other (by omega)]; exact h.all
  · rw [e1, getD_set_other (by omega), getD_set_other (by omega), if_neg (by omega)]; exact h.low _ (by omega) (by omega)
  · rw [e1, ← ea, ← eb]
    by_cases c2 : ix b = j
    · subst c2
      rw [getD_set_same (by simp; omega), if_pos ⟨hl, .inr rfl⟩, h2]
    · rw [getD_set_other c2]
      by_cases c1 : ix a = j
      · subst c1
        rw [getD_set_same (by omega), if_pos ⟨hl, .inl rfl⟩, h1]
      · rw [getD_set_other c1, if_neg (by rintro ⟨_, e | e⟩; exact c1 e; exact c2 e)]
        exact h.low _ (by omega) (by omega)
  · obtain ⟨i, k1, k2, k3, k4, k5, k6⟩ := h.keys
    rw [e1]
    refine ⟨i, k1, k2, fun j k hj hne => ?_, ?_, ?_, ?_⟩
    · rw [getD_set_other (by omega), getD_set_other (by omega)]; exact k3 j k hj hne
    · rw [getD_set_other (by omega), getD_set_other (by omega)]; exact k4
    · rw [getD_set_other (by omega), getD_set_other (by omega)]; exact k5
    · rw [getD_set_other (by omega), getD_set_other (by omega)]; exact k6

end

end Go.Proofs.YthcpfaahcncfjaaGreatDoor

namespace Go.Proofs.YthcpfaahcncfjaaGreatDoor
open Go.RowKit
set_option linter.unusedVariables false
set_option linter.unusedSimpArgs false

/-- the pile behind the row that the map has for a key -/
def Row7 (X : SX) (k : List UInt8) (A : Option Addr) (c : Nat) (ps : List Nat) (d : Nat) : Prop :=
  (∃ j, X.ks.findIdx? (· = k) = some j ∧ X.vs.getD (2 * X.V + 2 + j) undef = .slice A ps.length c ∧ ps = X.pss.getD (2 * X.V + 2 + j) [] ∧ d = X.ko j) ∨ (X.ks.findIdx? (· = k) = none ∧ A = none ∧ c = 0 ∧ ps = [] ∧ d = 0)

section

variable {W : World} {base : Nat} {X : SX} {fo : List Bool}

theorem Sto.row7 (h : Sto W base X fo) (hk : ∀ (i : Nat) (k : List UInt8), X.ks[i]? = some k → X.ko i ≤ (X.pss.getD (2 * X.V + 2 + i) []).length) (hl : ∀ i, i < X.ks.length → (X.pss.getD (2 * X.V + 2 + i) []).length ≤ X.tk) (k : List UInt8) :
    ∃ A c ps d, Row7 X k A c ps d ∧ mapVal X k = cutv (.slice A ps.length c) d ∧ W.ownsRow base 121 1 (.slice A ps.length c) ps.length (ptrs7 ps) ∧ d ≤ ps.length ∧ ps.length ≤ X.tk := by
  unfold mapVal Row7
  cases hf : X.ks.findIdx? (· = k) with
  | none => exact ⟨none, 0, [], 0, .inr ⟨rfl, rfl, rfl, rfl, rfl⟩, rfl, World.ownsRow_nil _ _ _ _, Nat.le_refl _, Nat.zero_le _⟩
  | some j =>
    obtain ⟨h1, h2⟩ := find_key hf
    have hnum := h.num.1
    obtain ⟨Aj, cj, hvj, hoj⟩ := h.pil.each (2 * X.V + 2 + j) (by omega)
    exact ⟨Aj, cj, X.pss.getD (2 * X.V + 2 + j) [], X.ko j, .inl ⟨j, rfl, hvj, rfl, rfl⟩, by dsimp only; rw [hvj], hoj, hk j k h2, hl j h1⟩

theorem Sto.keyput {w8 wa w3 : World} {q c0 d0 : Nat} {x : CX} {L : List Int} {v6 v' : Value} {k : List UInt8} {A0 : Option Addr} {ps0 : List Nat} (h : Sto w8 base (X.listed q x v6) fo) (hrow : Row7 (X.listed q x v6) k A0 c0 ps0 d0) (hown : w8.ownsRow base 121 1 (.slice A0 ps0.length c0) ps0.length (ptrs7 ps0))
    (hk : k = keyOf L) (hkl : k.length ≤ 1000000000) (htk : X.tk ≤ 1000000) (hps : ps0.length ≤ X.tk) (hb : Below w8.heap.size w8 wa) (hc : Cut7 wa w3 base (.slice A0 ps0.length c0) ps0 d0 q v') (hnum : X.pss.length = 2 * X.V + 2 + X.ks.length) :
    ∃ w4, (Instr.mapUpdate 115 (.map (some X.m)) (.string ⟨k.toArray⟩) v').run Tryz.prog w3 = .ok () w4 ∧ ∃ X2, Sto w4 base X2 fo ∧ Half7 X X2 q x L ∧ Tn base (X.listed q x v6) w8 w4 := by
  obtain ⟨A', c', ps', d', rfl, e1, e2, e3, e4, ho3, hg3, hat3⟩ := hc
  obtain ⟨D, n, hm, hn, hM⟩ := h.map
  have hn' : n ≤ X.tk := hn
  have hma : wa.ownsMap Tryz.prog 9 heldE X.m n D := by
    obtain ⟨es, clock, m1, m2⟩ := hm
    exact ⟨es, clock, (hb.block _ (Array.getElem?_eq_some_iff.1 m1).1).trans m1, m2⟩
  have hm3 : w3.ownsMap Tryz.prog 9 heldE X.m n D := hma.kept hg3 (own_map_ne7 hown hm)
  obtain ⟨w4, hrun, hm4, hg4⟩ := hm3.update mapLaw7 Tryz.underlying115 (by unfold maxLen; omega) (mapKey7 (k := k) (by unfold maxLen; omega)) (show heldE (cutv (.slice A' ps'.length c') d') = some (.held (cutv (.slice A' ps'.length c') d'), []) from rfl)
  refine ⟨w4, hrun, ?_⟩
  have hlen := h.pil.len
  have hl1 : (X.listed q x v6).vs.length = X.pss.length := by
    rw [hlen]
    show (X.pss.set _ _).length = _
    simp
  rcases hrow with ⟨j, hf, hv0, hp0, hd0⟩ | ⟨hf, rfl, rfl, rfl, rfl⟩
  · obtain ⟨k1, k2⟩ := find_key hf
    have k1' : j < X.ks.length := k1
    have hv : (X.listed q x v6).V = X.V := rfl
    obtain ⟨p1, p2⟩ := h.keyed_old (j := j) (d := d') (A := A') (c := c') (ps := ps') (n := n + 1) hf hb (by rw [hv0]; exact hg3) ho3 (by rw [hv0]; exact hat3) (by show n + 1 ≤ X.tk + 1; omega) hm4 (hM.put_old hf (by rw [hv, hl1]; omega)) ⟨_, _, hm3⟩ hg4
    have hp9 : (X.listed q x v6).pss.getD (2 * X.V + 2 + j) [] = X.pss.getD (2 * X.V + 2 + j) [] := getD_set_other (by omega) _
    have hp0' : ps0 = X.pss.getD (2 * X.V + 2 + j) [] := hp0.trans hp9
    have hd0' : d0 = X.ko j := hd0
    refine ⟨_, p1, half_old hnum (by rw [← hk]; exact hf) ?_ e2 (by omega), p2⟩
    rw [e1, hp0', hd0']
  · obtain rfl : d' = 0 := e4 rfl
    obtain rfl : ps' = [q] := by simpa using e1
    rw [cutv_zero] at hm4
    subst hk
    obtain ⟨p1, p2⟩ := h.keyed_new (k := keyOf L) (A := A') (c := c') (ps := [q]) hf hb hg3 ho3 (fun g hg => by
      rcases hat3 with e | e
      · rw [e] at hg; simp [Value.ownBlock] at hg
      · have := e g hg; have := hb.size; omega) hn hM hm3 hm4 hg4
    exact ⟨_, p1, half_new hnum hf, p2⟩

end

/-- append to what the map has, as one step of a region that draws -/
theorem step_cut7 {P : Program} {ops : Array Oper} {o : Oper} {a : Act} {w : World} {K : Act → World → Prop} {Q : Exit → Act → World → Prop} {E : Prop}
    (hg : o.guard = none) (s x : Operand) (t : TypeId) (hop : o.op = Op.call { callee := Callee.builtin Builtin.append, args := #[s, x], argTypes := #[t, t] })
    (v y : Value) (hs : a.eval s = v) (hx : a.eval x = y) (C : World → Value → Prop) (hrun : ∃ v' w', (Builtin.append_ #[t, t] o.type #[v, y]).run P w = .ok v' w' ∧ C w' v')
    (hK : ∀ v' w', C w' v' → K (a.put o.dst v') w') :
    if Region.wanted o (yielded ops a.tmps) = true then Oper.wp P o a w K Q else E := by
  have hw : Region.wanted o (yielded ops a.tmps) = true := by simp [Region.wanted, hg]
  rw [if_pos hw]
  obtain ⟨v', w', hrun, h2⟩ := hrun
  unfold Oper.wp
  simp [execOp, hop, resolve, invoke, builtin, hs, hx, hrun, Result.andThen]
  exact hK v' w' h2

end Go.Proofs.YthcpfaahcncfjaaGreatDoor

namespace Go.Proofs.YthcpfaahcncfjaaGreatDoor
open Go.RowKit
set_option linter.unusedVariables false
set_option linter.unusedSimpArgs false

theorem key_short {L : List Int} (hn : L.length ≤ 1000000) (hL : ∀ x, x ∈ L → -1000000 ≤ x ∧ x ≤ 1000000) : (keyOf (normOf L)).length ≤ 1000000000 := by
  have h1 := keyOf_len (normOf L) fun x hx => hL x (mem_normOf.1 hx)
  have h2 := norm_len L
  omega

set_option maxRecDepth 100000 in
theorem len_any7 {W : World} {base : Nat} {X : SX} {fo : List Bool} (h : Rest7 W base X fo) :
    Calls Tryz.prog 84 #[.pointer (some ⟨X.s, 0, none⟩)] W fun e W' => e = .returned (.int .i64 X.cs.length) ∧ ∃ q, W' = W.drewN q := by
  have hps := h.wf.plen
  have hng := h.shelf.ng
  have hcs : X.cs.length = X.live.length := by simp [SX.cs]
  have hnum := h.sto.num.1
  obtain ⟨Aa, ca, hva, hoa⟩ := h.sto.pil.each (2 * X.V) (by omega)
  have hal : (X.pss.getD (2 * X.V) []).length = X.ps.length := by rw [h.shelf.all]
  have s3 : W.cell? ⟨X.s, 3, none⟩ = some (.slice Aa X.ps.length ca) := by rw [← hal, ← hva]; exact h.sto.st.cell 3
  have s2 : W.cell? ⟨X.s, 2, none⟩ = some (.int .i64 X.ng) := h.sto.st.cell 2
  obtain ⟨n, hn⟩ : ∃ n, n = X.ps.length := ⟨_, rfl⟩
  obtain ⟨m, hm⟩ : ∃ m, m = X.ng := ⟨_, rfl⟩
  obtain ⟨k, hk⟩ : ∃ k, k = X.live.length := ⟨_, rfl⟩
  rw [hcs]
  rw [← hn] at s3 hps hng
  rw [← hm] at s2 hng
  rw [← hk] at hng ⊢
  have hw : IntKind.i64.wrap ((n : Int) - (m : Int)) = (k : Int) := by rw [IntWalk.i64_in _ (by omega)]; omega
  clear h hcs hnum hva hoa hal hn hm hk
  go_enter Tryz.func84, Tryz.ntmps84
  go_wp2
  go_quiet (fail)
  go_wp2
  go_ret
  exact ⟨rfl, _, rfl⟩

end Go.Proofs.YthcpfaahcncfjaaGreatDoor

namespace Go.Proofs.YthcpfaahcncfjaaGreatDoor
open Go.RowKit
set_option linter.unusedVariables false
set_option linter.unusedSimpArgs false

/-- Add's answer -/
def AddP (base : Nat) (X : SX) (L : List Int) (W : World) (e : Ending) (W' : World) : Prop :=
  ∃ (X' : SX) (fo' : List Bool) (b : Bool), e = .returned (.bool b) ∧ Rest7 W' base X' fo' ∧ Tn base X W W' ∧ Later7 W X X' ∧ (X'.s = X.s ∧ X'.V = X.V) ∧ (b = true ↔ foreign7 X.V L = false) ∧ (b = true → X'.cs = X.cs ++ [normOf L] ∧ X'.ps.length ≤ X.ps.length + 1 ∧ X'.added ≤ X.added + 1 ∧ X'.tk ≤ X.tk + 1) ∧ (b = false → X' = X)
theorem Half7.later {W : World} {X X' : SX} {q : Nat} {x : CX} {L : List Int} (h : Half7 X X' q x L) : Later7 W X X' := ⟨h.fb, .inl (by rw [h.fv])⟩
set_option maxRecDepth 100000 in
theorem index_two7 (a b : Int) (w : World) : (Instr.index 118 (.agg #[.int .i64 a, .int .i64 b]) (.int .i64 0)).run Tryz.prog w = .ok (.int .i64 a) w ∧ (Instr.index 118 (.agg #[.int .i64 a, .int .i64 b]) (.int .i64 1)).run Tryz.prog w = .ok (.int .i64 b) w := by
  constructor <;> kernel_rfl
/-- while a clause is put where it waits: k of its two literals are done -/
def Put7 (base : Nat) (X X3 : SX) (fo : List Bool) (q : Nat) (a b : Int) (W : World) (k : Nat) (wr : World) : Prop :=
  Tn base X W wr ∧ ((k = 0 ∧ Sto wr base X3 fo) ∨ (k = 1 ∧ ∃ va P1, P1 = X3.pss.getD (ix a) [] ++ [q] ∧ Sto wr base (X3.pile (ix a) va P1) fo) ∨
    (k = 2 ∧ ∃ va vb P1 P2, P1 = X3.pss.getD (ix a) [] ++ [q] ∧ P2 = X3.pss.getD (ix b) [] ++ [q] ∧ Sto wr base ((X3.pile (ix a) va P1).pile (ix b) vb P2) fo))
set_option maxRecDepth 100000 in
set_option maxHeartbeats 1000000 in
theorem add_any7 {W : World} {base b0 c : Nat} {X : SX} {fo : List Bool} {L : List Int} {A : Option Addr} (h : Rest7 W base X fo) (hA : Apart W X b0 A c L) (hx : ∀ x, x ∈ L → -9223372036854775808 ≤ x ∧ x ≤ 9223372036854775807) (hn : L.length ≤ 1000000) (hT : TabB base W) (hps : X.ps.length ≤ 1000000) (hadd : X.added ≤ 1000000) (htk : X.tk ≤ 1000000) :
    Calls Tryz.prog 34 #[.pointer (some ⟨X.s, 0, none⟩), .slice A L.length c] W (AddP base X L W) := by
  have hvb := h.sto.vb
  have hB : base ≤ W.heap.size := by have := h.sto.lo.1; have := h.sto.st.lt; omega
  have HF := Lib.hid (foreign_any h.sto L hx (by omega) W.heap.size A c hA.ints (Nat.le_refl _))
  have H := Lib.hid h
  have HA := Lib.hid hA
  cases hfo : foreign7 X.V L with
  | true =>
    rw [hfo] at HF
    clear h hA hx
    go_enter Tryz.func34, Tryz.ntmps34
    go_wp2_with (go_at_call 61; refine HF.out.mono ?_; rintro e3 w3 ⟨rfl, hb3⟩; have HB3 := Lib.hid hb3; clear hb3)
    go_ret
    exact ⟨X, fo, false, rfl, H.out.below HB3.out, Tn.of_below HB3.out hB, Later7.refl _ _, ⟨rfl, rfl⟩, ⟨fun e => (by cases e), fun e => (by cases e.symm.trans hfo)⟩, fun e => (by cases e), fun _ => rfl⟩
  | false =>
    rw [hfo] at HF
    have HL := Lib.hid (foreign7_no hvb hfo)
    have HFO := Lib.hid hfo
    have hall : (X.pss.getD (2 * X.V) []).length = X.ps.length := by rw [h.shelf.all]
    clear h hA hx hfo
    obtain ⟨M, hMM⟩ : ∃ M, M = normOf L := ⟨_, rfl⟩
    have HMM := Lib.hid hMM
    have hMl : M.length ≤ L.length := by rw [hMM]; exact norm_len L
    have HML : Hid (∀ y, y ∈ M → Lt7 X.V y) := Lib.hid fun y hy => HL.out y (mem_normOf.1 (by rw [← hMM]; exact hy))
    have HMR : Hid (Rising M) := Lib.hid (by rw [hMM]; exact rising_normOf L)
    clear hMM
    go_enter Tryz.func34, Tryz.ntmps34
    go_wp2_with (go_at_call 61; refine HF.out.mono ?_; rintro e3 w3 ⟨rfl, hb3⟩; have HB3 := Lib.hid hb3; have s1 : w3.cell? ⟨X.s, 1, none⟩ = some (.int .i64 X.added) := ((H.out.below hb3).sto.st.cell 1); clear hb3)
    have HNC := Lib.hid (fun w' (h' : Below w3.heap.size w3 w') => norm_clause_of (fun p cap fv w => Tryz.slices_SortFunc_none (α := Int) p cap fv w) L w'.heap.size A c w' ⟨by omega, fun x hx => (by obtain ⟨a1, a2, a3⟩ := HL.out x hx; omega)⟩ ((HA.out.under HB3.out).under h').ints (Nat.le_refl _))
    rw [← HMM.out] at HNC
    have KE := Lib.hid (fun w' (h' : Below w3.heap.size w3 w') => (h'.cell (p := ⟨X.s, 1, none⟩) (by have := (H.out.below HB3.out).sto.st.lt; exact this)).trans s1)
    go_region_held3 (fun w' => w'.cell? ⟨X.s, 1, none⟩ = some (.int .i64 X.added)) (first | exact KK.out | exact s1 | go_keep)
      (first | (go_at_call 59; refine (HNC.out w3.drew (Below.refl _ _).drew).mono ?_; rintro e4 w4 ⟨A4, c4, rfl, hown4, hb4'⟩; have HB4 := Lib.hid (below_undrew hb4'); have KK := Lib.hid (KE.out w4 HB4.out); have HO4 := Lib.hid hown4; clear hown4 hb4'))
    obtain ⟨w5, hw5⟩ : ∃ w5, w5 = w4.alloc (Obj.cells #[Value.int IntKind.i64 (X.added : Int), Value.slice A4 M.length c4, Value.int IntKind.i64 0, Value.int IntKind.i64 0, Value.int IntKind.i64 0, Value.bool false] 120) := ⟨_, rfl⟩
    rw [← hw5]
    obtain ⟨x, hx⟩ : ∃ x : CX, x = ⟨X.added, A4, c4, M, 0, 0, 0, false⟩ := ⟨_, rfl⟩
    have hR3 := H.out.below HB3.out
    have hs34 := HB4.out.size
    have hR4 := hR3.below HB4.out
    have hs5 : w5.heap.size = w4.heap.size + 1 := by rw [hw5]; simp
    have hb45 : Below w4.heap.size w4 w5 := by rw [hw5]; exact (Below.refl _ _).alloc (Nat.le_refl _) _
    have hR5 := hR4.below hb45
    have hq : Blk w5 w4.heap.size 120 x.cells := by rw [hw5, hx]; exact Blk.new w4 _ _
    have hbase4 : base ≤ w4.heap.size := by have := HB3.out.size; omega
    have hrow : w5.ownsRow base 3 1 x.row x.lits.length (x.lits.map (Value.int .i64)) := by
      rw [hw5, hx]
      exact own_more ((HO4.out).alloc _) (by simp; have := HB3.out.size; omega)
    have hne : ∀ g, x.row.ownBlock = some g → X.fv.ownBlock ≠ some g := fun g hg e => by
      have h2 := (hR3.sto.fnd.lt g e).2
      rw [hx] at hg
      have h1 := (HO4.out.lt g hg).1
      simp at h1
      omega
    have hnew : w4.heap.size ∉ X.ps := fun hm => by
      have h1 := (hR4.sto.cl _ hm).1.lt
      omega
    have HNEW := Lib.hid hnew
    have HBO := Lib.hid (hR5.sto.born hq hbase4 (by rw [hx]; show X.added ≤ _; omega) hrow hne hnew)
    rw [show ((X.added + 1 : Nat) : Int) = (X.added : Int) + 1 from by omega] at HBO
    have HR5 := Lib.hid hR5
    have hBW5 : Below W.heap.size W w5 := (HB3.out.trans (HB4.out.mono HB3.out.size)).trans (hb45.mono (by have := HB3.out.size; omega))
    have HBW5 := Lib.hid hBW5
    have s1 : w5.cell? ⟨X.s, 1, none⟩ = some (.int .i64 X.added) := hR5.sto.st.cell 1
    have sf : ∀ j, w5.frozen? ⟨X.s, j, none⟩ = false := fun j => hR5.sto.st.frozen j
    obtain ⟨Aa, ca, hva, hoa⟩ := hR5.sto.pil.each (2 * X.V) (by have := hR5.sto.num.1; omega)
    have s3 : w5.cell? ⟨X.s, 3, none⟩ = some (.slice Aa (X.pss.getD (2 * X.V) []).length ca) := by rw [← hva]; exact hR5.sto.st.cell 3
    have HVA := Lib.hid hva
    obtain ⟨i0, hi, hz0, hz1, hz2⟩ := info_parts infoPtr7
    have HOA := Lib.hid (show (w5.setCell ⟨X.s, 1, none⟩ (.int .i64 ((X.added : Int) + 1))).ownsRow base 121 1 (.slice Aa (X.pss.getD (2 * X.V) []).length ca) (X.pss.getD (2 * X.V) []).length (ptrs7 (X.pss.getD (2 * X.V) [])) from own_setCell hoa _ (own_blk_ne hoa hR5.sto.st (by decide)))
    have hnum5 := hR5.sto.num.1
    have HNUM := Lib.hid hnum5
    obtain ⟨nA, hnA⟩ : ∃ nA, nA = (X.pss.getD (2 * X.V) []).length := ⟨_, rfl⟩
    rw [← hnA] at s3 HOA hall
    have HNN := Lib.hid hnA
    have hnA2 : nA ≤ 1000000 := by omega
    have hwp : IntKind.i64.wrap ((X.added : Int) + 1) = (X.added : Int) + 1 := IntWalk.i64_in _ (by omega)
    have hbase5 : base ≤ w5.heap.size := by omega
    have HS5 := Lib.hid hs5
    have HX := Lib.hid hx
    have HT5 := Lib.hid hT
    clear hs5
    obtain ⟨q, hqq⟩ : ∃ q, q = w4.heap.size := ⟨_, rfl⟩
    have HQQ := Lib.hid hqq
    rw [← hqq] at HBO HNEW ⊢
    have hqs : ¬ q = X.s := by have := hR4.sto.st.lt; omega
    have hsq : ¬ X.s = q := fun e => hqs e.symm
    clear hw5 hx hR3 hR4 hR5 hb45 hq hrow hne hnew hBW5 hva hoa hall hs34 hnA hqq hT hnum5
    go_wp2_with (first
      | (at_builtin; refine wpList_append1 _ rfl _ _ 113 rfl base 121 i0 (.pointer none) 8 Tryz.underlying113 hi hz0 hz1 hz2 rfl _ _ _ rfl (HOA.out.alloc _) (.pointer (some ⟨q, 0, none⟩)) w5.heap.size rfl (by go_cell) rfl (by unfold maxLen; omega) (by omega) (by simp; omega) ?_; intro v6 w6 hown6 hg6 hob6; obtain ⟨A6, c6, hv6, _⟩ := own_slice hown6; subst hv6
         have h1 : Blk (w5.setCell ⟨X.s, 1, none⟩ (.int .i64 ((X.added : Int) + 1))) X.s 117 (X.born q x).head := HBO.out.1.st
         have h2 := own_blk_ne (HOA.out.alloc (Obj.cells #[.pointer (some ⟨q, 0, none⟩)] 121)) (Blk.alloc h1 _) (by decide)
         have h3 : Blk w6 X.s 117 (X.born q x).head := Blk.grown (Blk.alloc h1 _) hg6 h2
         have s3' := (h3.cell 3).trans (congrArg some HVA.out)
         have sf' := h3.frozen 3
         have hqb : Blk (w5.setCell ⟨X.s, 1, none⟩ (.int .i64 ((X.added : Int) + 1))) q 120 ((X.born q x).C q).cells := (HBO.out.1.cl q (by show q ∈ X.ps ++ [q]; simp)).1
         rw [SX.born_C, if_pos rfl] at hqb
         have h4 := own_blk_ne (HOA.out.alloc (Obj.cells #[.pointer (some ⟨q, 0, none⟩)] 121)) (Blk.alloc hqb _) (by decide)
         have h5 : Blk w6 q 120 x.cells := Blk.grown (Blk.alloc hqb _) hg6 h4
         have q1 : w6.cell? ⟨q, 1, none⟩ = some (.slice A4 M.length c4) := by have := h5.cell 1; rw [HX.out] at this; exact this
         have HP := Lib.hid (HBO.out.1.piled_s (wa := (w5.setCell ⟨X.s, 1, none⟩ (.int .i64 ((X.added : Int) + 1))).alloc (Obj.cells #[.pointer (some ⟨q, 0, none⟩)] 121)) (w3 := w6) (i := 2 * X.V) (d := 0) (c := c6) (A := A6) (ps := X.pss.getD (2 * X.V) [] ++ [q]) (by omega) rfl ((Below.refl _ _).alloc (Nat.le_refl _) _) (by show World.grownBy _ _ (X.vs.getD (2 * X.V) undef).ownBlock; rw [HVA.out, ← HNN.out]; exact hg6)
           (by rw [show (X.pss.getD (2 * X.V) [] ++ [q]).length = nA + 1 by rw [HNN.out]; simp, show ptrs7 (X.pss.getD (2 * X.V) [] ++ [q]) = ptrs7 (X.pss.getD (2 * X.V) []) ++ [.pointer (some ⟨q, 0, none⟩)] by simp [ptrs7]]; exact hown6)
           (by show _ = (X.vs.getD (2 * X.V) undef).ownBlock ∨ _; rw [HVA.out, show (X.pss.getD (2 * X.V) [] ++ [q]).length = nA + 1 by rw [HNN.out]; simp, ← HNN.out]; exact hob6))
         rw [show (X.pss.getD (2 * X.V) [] ++ [q]).length = nA + 1 by rw [HNN.out]; simp] at HP
         clear h1 h2 h3 h4 h5 hqb hown6 hg6 hob6))
    obtain ⟨w7, hw7⟩ : ∃ w7, w7 = w6.setCell ⟨X.s, 3, none⟩ (.slice A6 (nA + 1) c6) := ⟨_, rfl⟩
    have hw7b : w7 = w6.setCell ⟨(X.born q x).s, 3 + 0, none⟩ (.slice A6 (nA + 1) c6) := hw7
    rw [← hw7b] at HP
    rw [← hw7]
    clear hw7b
    have HS7 : Hid (Sto w7 base (X.listed q x (.slice A6 (nA + 1) c6)) fo) := Lib.hid HP.out.1
    have HT7 : Hid (Tn base X W w7) := Lib.hid (((Tn.of_below HBW5.out hB).trans HBO.out.2.1 (Later7.refl _ _)).trans HP.out.2.1 ⟨rfl, .inl rfl⟩)
    have HKY := Lib.hid (key_any07 M w7.heap.size A4 c4 w7 (by omega) (fun y hy => by obtain ⟨a1, a2, a3⟩ := HML.out y hy; omega)
      (by
        have h1 := (HS7.out.cl q (by show q ∈ X.ps ++ [q]; simp)).2.2.1
        have h2 : (X.listed q x (.slice A6 (nA + 1) c6)).C q = x := by show (X.born q x).C q = x; rw [SX.born_C, if_pos rfl]
        rw [h2, HX.out] at h1
        exact ints_of_own h1) (Nat.le_refl _) (HT5.out.on HT7.out.below).here)
    clear s1 s3 sf hw7
    refine HKY.out.mono ?_
    rintro e8 w8 ⟨rfl, hb8⟩
    have hS8 := HS7.out.below hb8
    have HS8 := Lib.hid hS8
    have HT8 : Hid (Tn base X W w8) := Lib.hid (HT7.out.trans (Tn.of_below hb8 (by have := HS7.out.lo.1; have := HS7.out.st.lt; omega)) ⟨rfl, .inl rfl⟩)
    obtain ⟨kk, hkk⟩ : ∃ kk, kk = keyOf M := ⟨_, rfl⟩
    have hkl : kk.length ≤ 1000000000 := by rw [hkk]; have := keyOf_len M (fun y hy => by obtain ⟨a1, a2, a3⟩ := HML.out y hy; omega); omega
    rw [← hkk]
    have HKK := Lib.hid hkk
    clear hb8 hkk
    go_upto_region 7 with fail
    go_cut [6] (fun k9 w9 => k9 = .string ⟨kk.toArray⟩ ∧ ∃ X2, Sto w9 base X2 fo ∧ Half7 X X2 q x M ∧ Tn base (X.listed q x (.slice A6 (nA + 1) c6)) w8 w9)
    case first =>
      have hidx : ∀ i, (X.listed q x (.slice A6 (nA + 1) c6)).pss.getD (2 * X.V + 2 + i) [] = X.pss.getD (2 * X.V + 2 + i) [] := fun i => getD_set_other (by omega) _
      obtain ⟨A0, c0, ps0, d0, hrow, hmv, hown0, hd0, hps0⟩ := hS8.row7 (fun i k hk => by rw [show (X.listed q x (.slice A6 (nA + 1) c6)).V = X.V from rfl, hidx]; exact (H.out.shelf.keys i k hk).2) (fun i hi => by rw [show (X.listed q x (.slice A6 (nA + 1) c6)).V = X.V from rfl, hidx]; exact H.out.shelf.klen i hi) kk
      have hps0' : ps0.length ≤ X.tk := hps0
      obtain ⟨wa, hwa⟩ : ∃ wa, wa = (w8.alloc (.cells #[.pointer (some ⟨q, 0, none⟩)] 121)).drew := ⟨_, rfl⟩
      have hba : Below w8.heap.size w8 wa := by rw [hwa]; exact ((Below.refl _ _).alloc (Nat.le_refl _) _).drew
      have hbd : Below w8.heap.size w8 w8.drew := (Below.refl _ _).drew
      have hac : wa.cell? ⟨w8.heap.size, 0, none⟩ = some (.pointer (some ⟨q, 0, none⟩)) := by rw [hwa]; exact ((Blk.new w8 121 #[.pointer (some ⟨q, 0, none⟩)]).drew_).cell 0
      have hb8 : base ≤ w8.heap.size := by have := hS8.lo.1; have := hS8.st.lt; omega
      have hown0a := own_below hown0 hba fun g hg => (hown0.lt g hg).2
      have HRUN := Lib.hid (run_append_cut7 (gx := w8.heap.size) (q := q) hown0a hd0 hac (by omega) (Nat.le_trans hb8 hba.size) 113 113 Tryz.underlying113)
      have HKP := Lib.hid (fun (v' : Value) (w3 : World) hc => hS8.keyput (wa := wa) (w3 := w3) (v' := v') hrow hown0 HKK.out hkl htk hps0' hba hc H.out.sto.num.1)
      have HC6 := Lib.hid (fun (v' : Value) (w3 : World) (hc : Cut7 wa w3 base (.slice A0 ps0.length c0) ps0 d0 q v') => (show w3.cell? ⟨X.s, 6, none⟩ = some (.map (some X.m)) by
        obtain ⟨_, _, _, _, _, _, _, _, _, _, hg3, _⟩ := hc
        have hblk : Blk wa X.s 117 _ := hS8.st.below hba hS8.st.lt
        exact (hblk.grown hg3 (own_blk_ne hown0a hblk (by decide))).cell 6))
      have s6 : w8.cell? ⟨X.s, 6, none⟩ = some (.map (some X.m)) := hS8.st.cell 6
      have HK0 : Hid (w8.drew.cell? ⟨X.s, 6, none⟩ = some (.map (some X.m))) := Lib.hid s6
      have HKA : Hid (wa.cell? ⟨X.s, 6, none⟩ = some (.map (some X.m))) := Lib.hid ((hS8.below hba).st.cell 6)
      obtain ⟨vm, hvm⟩ : ∃ vm, vm = cutv (.slice A0 ps0.length c0) d0 := ⟨_, rfl⟩
      have l0 : (Instr.lookup 115 (.map (some X.m)) (.string ⟨kk.toArray⟩) false).run Tryz.prog w8.drew = .ok vm w8.drew := by rw [hvm, ← hmv]; exact (hS8.below hbd).look (by unfold maxLen; omega)
      have l1 : (Instr.lookup 115 (.map (some X.m)) (.string ⟨kk.toArray⟩) false).run Tryz.prog (w8.alloc (.cells #[.pointer (some ⟨q, 0, none⟩)] 121)).drew = .ok vm (w8.alloc (.cells #[.pointer (some ⟨q, 0, none⟩)] 121)).drew := by rw [← hwa, hvm, ← hmv]; exact (hS8.below hba).look (by unfold maxLen; omega)
      rw [← hvm] at HRUN
      rw [hwa] at HRUN HKP HC6 HKA
      have HS8' := HS8
      clear hS8 hrow hmv hown0 hd0 hps0 hps0' hwa hba hbd hac hown0a hvm hidx
      go_region_held3 (fun w' => w'.cell? ⟨X.s, 6, none⟩ = some (.map (some X.m))) (first | exact KK2.out | exact KK1.out | exact HKA.out | exact HK0.out | go_keep)
        (first | (refine step_cut7 rfl (.tmp 52) (.tmp 54) 113 rfl vm (.slice (some ⟨w8.heap.size, 0, none⟩) 1 1) rfl rfl _ HRUN.out ?_; intro v9 w9 hc9; have KK1 := Lib.hid (HC6.out v9 w9 hc9); obtain ⟨w10, hup, hfin⟩ := HKP.out v9 w9 hc9; have HFIN := Lib.hid hfin; have KK2 : Hid (w10.cell? ⟨X.s, 6, none⟩ = some (.map (some X.m))) := Lib.hid (by obtain ⟨X2, f1, f2, _⟩ := hfin; rw [← f2.s, ← f2.m]; exact f1.st.cell 6); clear hc9 hfin))
      all_goals
        go_wp2_with fail
        go_meet
        exact ⟨rfl, HFIN.out⟩
    case rest =>
      obtain ⟨rfl, X2, hS9, hHf, hT9⟩ := hcut
      have hCq : X2.C q = x := by rw [hHf.C, if_pos rfl]
      have hV2 := hHf.V
      have hs2 := hHf.s
      have hqm : q ∈ X2.ps := by rw [hHf.ps]; simp
      have hqb : Blk wc q 120 x.cells := by have := (hS9.cl q hqm).1; rw [hCq] at this; exact this
      have q1 : wc.cell? ⟨q, 1, none⟩ = some (.slice A4 M.length c4) := by have := hqb.cell 1; rw [HX.out] at this; exact this
      have HTW : Hid (Tn base X W wc) := Lib.hid (HT8.out.trans hT9 ⟨rfl, .inl rfl⟩)
      have HH := Lib.hid hHf
      have HS9 := Lib.hid hS9
      by_cases h2 : M.length < 2
      · obtain ⟨As, cs, hvs, hos⟩ := hS9.pil.each (2 * X.V + 1) (by have := hHf.len; omega)
        have s4 : wc.cell? ⟨X.s, 4, none⟩ = some (.slice As (X2.pss.getD (2 * X.V + 1) []).length cs) := by rw [← hvs, ← hs2, ← hV2]; exact hS9.st.cell 4
        have hsh : (X2.pss.getD (2 * X.V + 1) []).length ≤ 1000000 := by
          rw [hHf.low _ (by omega) (by omega)]
          exact Nat.le_trans (nodup_len7 H.out.shelf.shnd fun p hp => (H.out.short.1 p hp).1) hps
        have HSST := Lib.hid (show Blk wc X.s 117 X2.head by rw [← hs2]; exact hS9.st)
        have HOS := Lib.hid hos
        have HVS := Lib.hid hvs
        obtain ⟨nS, hnS⟩ : ∃ nS, nS = (X2.pss.getD (2 * X.V + 1) []).length := ⟨_, rfl⟩
        rw [← hnS] at s4 HOS hsh
        have HNS := Lib.hid hnS
        have hbc : base ≤ wc.heap.size := by have := hS9.lo.1; have := hS9.st.lt; omega
        have HH2 := Lib.hid h2
        have hlt2 : ((M.length : Nat) : Int) < 2 := by omega
        clear hCq hqm hqb hHf hS9 hT9 hos hvs hnS h2
        go_wp2_with (first
        | (at_builtin; refine wpList_append1 _ rfl _ _ 113 rfl base 121 i0 (.pointer none) 8 Tryz.underlying113 hi hz0 hz1 hz2 rfl _ _ _ rfl (HOS.out.alloc _) (.pointer (some ⟨q, 0, none⟩)) wc.heap.size rfl (by go_cell) rfl (by unfold maxLen; omega) (by omega) (by simp; omega) ?_; intro v11 w11 hown11 hg11 hob11; obtain ⟨A11, c11, hv11, _⟩ := own_slice hown11; subst hv11
           have h4 := own_blk_ne (HOS.out.alloc (Obj.cells #[.pointer (some ⟨q, 0, none⟩)] 121)) (Blk.alloc HSST.out _) (by decide)
           have h3 : Blk w11 X.s 117 X2.head := Blk.grown (Blk.alloc HSST.out _) hg11 h4
           have s4' := (h3.cell 4).trans (show _ = some (Value.slice As nS cs) by simp only [SX.head]; rw [hV2, HVS.out, HNS.out]; rfl)
           have sf' := h3.frozen 4
           have HP := Lib.hid (HS9.out.piled_s (wa := wc.alloc (Obj.cells #[.pointer (some ⟨q, 0, none⟩)] 121)) (w3 := w11) (i := 2 * X.V + 1) (d := 1) (c := c11) (A := A11) (ps := X2.pss.getD (2 * X.V + 1) [] ++ [q]) (by omega) (by rw [hV2]) ((Below.refl _ _).alloc (Nat.le_refl _) _) (by rw [HVS.out, ← HNS.out]; exact hg11)
           (by rw [show (X2.pss.getD (2 * X.V + 1) [] ++ [q]).length = nS + 1 by rw [HNS.out]; simp, show ptrs7 (X2.pss.getD (2 * X.V + 1) [] ++ [q]) = ptrs7 (X2.pss.getD (2 * X.V + 1) []) ++ [.pointer (some ⟨q, 0, none⟩)] by simp [ptrs7]]; exact hown11)
           (by rw [HVS.out, show (X2.pss.getD (2 * X.V + 1) [] ++ [q]).length = nS + 1 by rw [HNS.out]; simp, ← HNS.out]; exact hob11))
           rw [show (X2.pss.getD (2 * X.V + 1) [] ++ [q]).length = nS + 1 by rw [HNS.out]; simp, hs2] at HP
           clear h3 h4 hown11 hg11 hob11))
        go_ret
        have hmore := HH.out.short (v := .slice A11 (nS + 1) c11) ⟨by rw [HX.out], by rw [HX.out], by rw [HX.out]⟩ HH2.out HNEW.out
        refine ⟨_, fo, true, rfl, hmore.rest H.out HP.out.1 HML.out HMR.out (by omega) (by omega), HTW.out.trans HP.out.2.1 HH.out.later, ⟨HH.out.fb, .inl (by show X2.fv.ownBlock = _; rw [HH.out.fv])⟩, ⟨hs2, hV2⟩, ⟨fun _ => HFO.out, fun _ => rfl⟩, fun _ => ⟨by rw [hmore.cs, HMM.out], by rw [hmore.ps]; simp, by rw [hmore.added]; omega, by rw [hmore.tk]; omega⟩, fun e => (by cases e)⟩
      · have h2' : 2 ≤ M.length := by omega
        obtain ⟨p1, p2, p3, p4⟩ := hS9.cl q hqm
        rw [hCq, HX.out] at p3
        have p3' : wc.ownsRow base 3 1 (.slice A4 M.length c4) M.length (M.map (Value.int .i64)) := p3
        obtain ⟨g4, rfl, hg4, -⟩ := own_addr p3' (by omega)
        obtain ⟨Yl, hYl⟩ := own_blk7 p3'
        have hgq : ¬ g4 = q := hYl.ne_ hqb (by decide)
        have hqg : ¬ q = g4 := fun e => hgq e.symm
        have hcap : M.length ≤ c4 := by
          obtain ⟨A', c', e, hc, _⟩ := own_slice p3'
          injection e with _ _ e3
          omega
        have l0 : wc.cell? ⟨g4, 0, none⟩ = some (.int .i64 (M.getD 0 0)) := by rw [World.ownsRow.cellAt p3' 0 (by omega)]; simp [List.getD, show 0 < M.length by omega]
        have l1 : wc.cell? ⟨g4, 1, none⟩ = some (.int .i64 (M.getD 1 0)) := by rw [World.ownsRow.cellAt p3' 1 (by omega)]; simp [List.getD, show 1 < M.length by omega]
        have hne01 : M.getD 0 0 ≠ M.getD 1 0 := fun e => by
          have := List.pairwise_iff_getElem.1 HMR.out 0 1 (by omega) (by omega) (by omega)
          simp only [List.getD, List.getElem?_eq_getElem (show 0 < M.length by omega), List.getElem?_eq_getElem (show 1 < M.length by omega), Option.getD_some] at e
          rw [e] at this
          omega
        have ha := HML.out _ (take_snoc7 (xs := M) (k := 0) (by omega)).2
        have hb := HML.out _ (take_snoc7 (xs := M) (k := 1) (by omega)).2
        obtain ⟨a, haa⟩ : ∃ a, a = M.getD 0 0 := ⟨_, rfl⟩
        obtain ⟨b, hbb⟩ : ∃ b, b = M.getD 1 0 := ⟨_, rfl⟩
        rw [← haa] at l0 ha hne01
        rw [← hbb] at l1 hb hne01
        have f2 := hqb.frozen 2
        have f3 := hqb.frozen 3
        have q2 : wc.cell? ⟨q, 2, none⟩ = some (.int .i64 0) := by have := hqb.cell 2; rw [HX.out] at this; exact this
        have q3 : wc.cell? ⟨q, 3, none⟩ = some (.int .i64 0) := by have := hqb.cell 3; rw [HX.out] at this; exact this
        have hst : Sto ((wc.setCell ⟨q, 2, none⟩ (.int .i64 a)).setCell ⟨q, 3, none⟩ (.int .i64 b)) base (X2.cl q { x with w0 := a, w1 := b }) fo ∧ Tn base X2 wc ((wc.setCell ⟨q, 2, none⟩ (.int .i64 a)).setCell ⟨q, 3, none⟩ (.int .i64 b)) := by
          obtain ⟨a1, a2⟩ := hS9.clauseSet hqm { x with w0 := a } 2 (.int .i64 a) (by rw [hCq, HX.out]; rfl) (by rw [hCq]; rfl) (by rw [hCq])
          obtain ⟨b1, b2⟩ := a1.clauseSet (p := q) hqm { x with w0 := a, w1 := b } 3 (.int .i64 b) (by rw [SX.cl_same, HX.out]; rfl) (by rw [SX.cl_same]; rfl) (by rw [SX.cl_same])
          rw [SX.cl_cl] at b1
          exact ⟨b1, a2.trans b2.cl (Later7.refl _ _)⟩
        have HST := Lib.hid hst
        have HPUT : Hid (Put7 base X (X2.cl q { x with w0 := a, w1 := b }) fo q a b W 0 ((wc.setCell ⟨q, 2, none⟩ (.int .i64 a)).setCell ⟨q, 3, none⟩ (.int .i64 b))) := Lib.hid ⟨HTW.out.trans hst.2 HH.out.later, .inl ⟨rfl, hst.1⟩⟩
        have hpile : ∀ j, j < 2 * X.V → (X2.pss.getD j []).length ≤ 1000000 := fun j hj => by
          rw [HH.out.low j (by omega) (by omega)]
          exact Nat.le_trans (nodup_len7 (H.out.wf.pile j hj).1 fun p hp => ((H.out.wf.pile j hj).2.1 p hp).1) hps
        have HPL := Lib.hid hpile
        have HAB := Lib.hid (⟨ha, hb, hne01, haa, hbb⟩ : Lt7 X.V a ∧ Lt7 X.V b ∧ a ≠ b ∧ a = M.getD 0 0 ∧ b = M.getD 1 0)
        have HIX := Lib.hid (⟨(ix_eq ha).2, (ix_eq hb).2, fun e => hne01 (ix_inj ha hb e)⟩ : ix a < 2 * X.V ∧ ix b < 2 * X.V ∧ ix a ≠ ix b)
        have HH2 := Lib.hid h2'
        have hlt2 : ¬ ((M.length : Nat) : Int) < 2 := by omega
        have hat : ∀ w, (Instr.arrayAt 118 (.slice (some ⟨g4, 0, none⟩) M.length c4)).run Tryz.prog w = .ok (.pointer (some ⟨g4, 0, none⟩)) w := fun w => run_arrayAt w 118 _ 2 _ _ _ Tryz.underlying118 h2'
        have hge2 : (2 : Int) ≤ ((M.length : Nat) : Int) := by omega
        clear hCq hqm hqb hHf hS9 hT9 p1 p2 p3 p3' p4 hYl hst ha hb hne01 haa hbb hpile h2
        go_wp2
        go_loopg [85] 3 (fun gk i wr => ∃ k : Nat, k ≤ 2 ∧ gk = 3 - k ∧ i = .int .i64 k ∧ Hid (Put7 base X (X2.cl q { x with w0 := a, w1 := b }) fo q a b W k wr))
        case atStart => exact ⟨0, by omega, by omega, rfl, HPUT⟩
        case round =>
          obtain ⟨k, hk, rfl, rfl, HP⟩ := hrel
          clear l0 l1 f2 f3 q1 q2 q3 hat
          obtain ⟨ix0, ix1⟩ := index_two7 a b wr
          obtain ⟨hA1, hA2, hA3, hA4, hA5⟩ := HAB.out
          obtain ⟨hI1, hI2, hI3⟩ := HIX.out
          rcases (by omega : k = 0 ∨ k = 1 ∨ k = 2) with rfl | rfl | rfl
          · obtain ⟨hT, ⟨_, hS⟩ | ⟨e, _⟩ | ⟨e, _⟩⟩ := HP.out
            rotate_left
            · omega
            · omega
            have HEN := Lib.hid (enlist_any hS q a (by show Lt7 X2.V a; rw [hV2]; exact hA1) (Nat.le_trans (HPL.out _ hI1) (by omega)))
            rw [show (X2.cl q { x with w0 := a, w1 := b }).s = X.s from hs2] at HEN
            have HTT := Lib.hid hT
            clear hA1 hA2 hA3 hA4 hA5 hI1 hI2 hI3 hS hT
            go_wp2_with (go_at_call 62; refine HEN.out.mono ?_; rintro e3 w3 ⟨rfl, A3, c3, k1, k2⟩; have HE1 := Lib.hid k1; have HE2 := Lib.hid k2; clear k1 k2)
            go_roundg 2
            case measure => omega
            case rel => exact ⟨1, by omega, by omega, by go_num, Lib.hid ⟨HTT.out.trans HE2.out ⟨HH.out.fb, .inl (by show X2.fv.ownBlock = _; rw [HH.out.fv])⟩, .inr (.inl ⟨rfl, _, _, rfl, HE1.out⟩)⟩⟩
          · obtain ⟨hT, ⟨e, _⟩ | ⟨_, va, P1, hP1, hS⟩ | ⟨e, _⟩⟩ := HP.out
            · omega
            rotate_left
            · omega
            have hoth : ((X2.cl q { x with w0 := a, w1 := b }).pile (ix a) va P1).pss.getD (ix b) [] = X2.pss.getD (ix b) [] := getD_set_other hI3 _
            have HEN := Lib.hid (enlist_any hS q b (by show Lt7 X2.V b; rw [hV2]; exact hA2) (by rw [hoth]; exact Nat.le_trans (HPL.out _ hI2) (by omega)))
            rw [show ((X2.cl q { x with w0 := a, w1 := b }).pile (ix a) va P1).s = X.s from hs2] at HEN
            have HTT := Lib.hid hT
            have HP1 := Lib.hid hP1
            have HOTH := Lib.hid hoth
            clear hA1 hA2 hA3 hA4 hA5 hI1 hI2 hI3 hS hT hP1 hoth
            go_wp2_with (go_at_call 62; refine HEN.out.mono ?_; rintro e3 w3 ⟨rfl, A3, c3, k1, k2⟩; have HE1 := Lib.hid k1; have HE2 := Lib.hid k2; clear k1 k2)
            go_roundg 1
            case measure => omega
            case rel => exact ⟨2, by omega, by omega, by go_num, Lib.hid ⟨HTT.out.trans HE2.out ⟨HH.out.fb, .inl (by show X2.fv.ownBlock = _; rw [HH.out.fv])⟩, .inr (.inr ⟨rfl, _, _, _, _, HP1.out, HOTH.out ▸ rfl, HE1.out⟩)⟩⟩
          · obtain ⟨hT, ⟨e, _⟩ | ⟨e, _⟩ | ⟨_, va, vb, P1, P2, hP1, hP2, hS⟩⟩ := HP.out
            · omega
            · omega
            have hmore := HH.out.long (va := va) (vb := vb) (P1 := P1) (P2 := P2) ⟨by rw [HX.out], by rw [HX.out], by rw [HX.out], by rw [HX.out]⟩ HH2.out HNEW.out hA4 hA5 hI3 hI1 hI2 (hP1.trans (by show X2.pss.getD _ _ ++ _ = _; rw [HH.out.low _ (by omega) (by omega)])) (hP2.trans (by show X2.pss.getD _ _ ++ _ = _; rw [HH.out.low _ (by omega) (by omega)]))
            have HFIN := Lib.hid (⟨hT, hS, hmore⟩ : _ ∧ _ ∧ _)
            clear hA1 hA2 hA3 hA4 hA5 hI1 hI2 hI3 hS hT hP1 hP2 hmore
            go_wp2
            go_ret
            obtain ⟨hT, hS, hmore⟩ := HFIN.out
            exact ⟨_, fo, true, rfl, hmore.rest H.out hS HML.out HMR.out (by omega) (by omega), hT, ⟨HH.out.fb, .inl (by show X2.fv.ownBlock = _; rw [HH.out.fv])⟩, ⟨hs2, hV2⟩, ⟨fun _ => HFO.out, fun _ => rfl⟩, fun _ => ⟨by rw [hmore.cs, HMM.out], by rw [hmore.ps]; simp, by rw [hmore.added]; omega, by rw [hmore.tk]; omega⟩, fun e => (by cases e)⟩
end Go.Proofs.YthcpfaahcncfjaaGreatDoor

namespace Go.Proofs.YthcpfaahcncfjaaGreatDoor
open Go.RowKit
set_option linter.unusedVariables false
set_option linter.unusedSimpArgs false

/-- a store at s, of V variables, with the clauses cs; N: no more than so many were added or removed -/
def Sx (w : World) (base s V : Nat) (cs : List (List Int)) (N : Nat) (X : SX) : Prop := X.s = s ∧ X.V = V ∧ X.cs = cs ∧ X.ps.length ≤ N ∧ X.added ≤ N ∧ X.tk ≤ N ∧ ∃ fo, Rest7 w base X fo

section

variable {w w' : World} {base s V N b0 c : Nat} {cs : List (List Int)} {X X' : SX} {A : Option Addr} {L : List Int}

theorem Sx.below (h : Sx w base s V cs N X) (hb : Below w.heap.size w w') : Sx w' base s V cs N X := by
  obtain ⟨h1, h2, h3, h4, h5, h6, fo, h7⟩ := h
  exact ⟨h1, h2, h3, h4, h5, h6, fo, h7.below hb⟩

theorem Sx.lt (h : Sx w base s V cs N X) : base ≤ s ∧ s < w.heap.size ∧ V ≤ 100000 := by
  obtain ⟨rfl, rfl, h3, h4, h5, h6, fo, h7⟩ := h
  exact ⟨h7.sto.lo.1, h7.sto.st.lt, h7.sto.vb⟩

theorem Sx.more {N' : Nat} (h : Sx w base s V cs N X) (hn : N ≤ N') : Sx w base s V cs N' X := by
  obtain ⟨h1, h2, h3, h4, h5, h6, h7⟩ := h
  exact ⟨h1, h2, h3, by omega, by omega, by omega, h7⟩

theorem SameR.sx {fo : List Bool} (hs : SameR X X') (h : Sx w base s V cs N X) (hr : Rest7 w' base X' fo) : Sx w' base s V cs N X' := by
  obtain ⟨h1, h2, h3, h4, h5, h6, _⟩ := h
  exact ⟨hs.s.trans h1, hs.V.trans h2, hs.cs.trans h3, by rw [hs.ps]; exact h4, by rw [hs.more.1]; exact h5, by rw [hs.more.2.2.2]; exact h6, fo, hr⟩

/-- a row that is none of the store's, since it is new -/
theorem Sx.apart_new (h : Sx w base s V cs N X) (L : List Int) (hl : L.length ≤ 1000000000) : Apart (w.alloc (.cells (L.map (Value.int .i64)).toArray 3)) X w.heap.size (some ⟨w.heap.size, 0, none⟩) L.length L := by
  obtain ⟨h1, h2, h3, h4, h5, h6, fo, h7⟩ := h
  refine ⟨⟨by simp, .inr ⟨w.heap.size, L.length, _, rfl, Nat.le_refl _, heap_alloc_new w _, Nat.le_refl _, ?_, by simp, by simp [List.take_of_length_le]⟩⟩, fun g hg e => ?_⟩
  · unfold maxLen; omega
  · have h1 : w.heap.size = g := by simpa [Value.ownBlock] using hg
    have h2 := (h7.sto.fnd.lt g e).2
    omega

theorem Sx.apart_high (h : Sx w base s V cs N X) (hb : Below w.heap.size w w') (ho : w'.ownsRow w.heap.size 3 1 (.slice A L.length c) L.length (L.map (Value.int .i64))) : Apart w' X w.heap.size A c L := by
  obtain ⟨h1, h2, h3, h4, h5, h6, fo, h7⟩ := h
  refine ⟨ho, fun g hg e => ?_⟩
  have h1 := (ho.lt g hg).1
  have h2 := (h7.sto.fnd.lt g e).2
  omega

theorem Sx.apart_low (h : Sx w base s V cs N X) (ho : w.ownsRow b0 3 1 (.slice A L.length c) L.length (L.map (Value.int .i64))) (hl : ∀ g, (Value.slice A L.length c).ownBlock = some g → g < base) : Apart w X b0 A c L := by
  obtain ⟨h1, h2, h3, h4, h5, h6, fo, h7⟩ := h
  exact ⟨ho, fun g hg e => by have h1 := (h7.sto.fnd.lt g e).1; have h2 := hl g hg; omega⟩

theorem Sx.turn (h : Sx w base s V cs N X) (hA : Apart w X b0 A c L) (ht : Tn base X w w') (hl : Later7 w X X') : Apart w' X' b0 A c L := by
  obtain ⟨h1, h2, h3, h4, h5, h6, fo, h7⟩ := h
  exact hA.turn h7.sto ht hl

theorem lt7_wide (hV : V ≤ 100000) (hL : ∀ x, x ∈ L → Lt7 V x) : ∀ x, x ∈ L → -9223372036854775808 ≤ x ∧ x ≤ 9223372036854775807 := fun x hx => by obtain ⟨a1, a2, a3⟩ := hL x hx; omega

theorem implied_sx (h : Sx w base s V cs N X) (hA : Apart w X b0 A c L) (hL : ∀ x, x ∈ L → Lt7 V x) (hn : L.length ≤ 1000000000) :
    Calls Tryz.prog 45 #[.pointer (some ⟨s, 0, none⟩), .slice A L.length c] w fun e w' => ∃ (X' : SX) (b : Bool), e = .returned (.bool b) ∧ Sx w' base s V cs N X' ∧ Tn base X w w' ∧ Later7 w X X' ∧ (b = true ↔ Clash cs (negs L)) := by
  have h' := h
  obtain ⟨rfl, rfl, rfl, h4, h5, h6, fo, h7⟩ := h
  refine (implied_any7 h7 hA (lt7_wide h7.sto.vb hL) hn).mono ?_
  rintro e w' ⟨X', fo', b, rfl, r1, r2, r3, r4, r5⟩
  exact ⟨X', b, rfl, r4.sx h' r1, r2, r3, r5.trans ⟨fun e => e.2, fun e => ⟨(foreign7_yes h7.sto.vb).2 hL, e⟩⟩⟩

theorem add_sx (h : Sx w base s V cs N X) (hA : Apart w X b0 A c L) (hL : ∀ x, x ∈ L → Lt7 V x) (hn : L.length ≤ 1000000) (hN : N ≤ 1000000) (hT : TabB base w) :
    Calls Tryz.prog 34 #[.pointer (some ⟨s, 0, none⟩), .slice A L.length c] w fun e w' => ∃ X' : SX, e = .returned (.bool true) ∧ Sx w' base s V (cs ++ [normOf L]) (N + 1) X' ∧ Tn base X w w' ∧ Later7 w X X' := by
  obtain ⟨rfl, rfl, rfl, h4, h5, h6, fo, h7⟩ := h
  refine (add_any7 h7 hA (lt7_wide h7.sto.vb hL) hn hT (by omega) (by omega) (by omega)).mono ?_
  rintro e w' ⟨X', fo', b, rfl, r1, r2, r3, ⟨r4, r5⟩, r6, r7, _⟩
  obtain rfl := r6.2 ((foreign7_yes h7.sto.vb).2 hL)
  obtain ⟨p1, p2, p3, p4⟩ := r7 rfl
  exact ⟨X', rfl, ⟨r4, r5, p1, by omega, by omega, by omega, fo', r1⟩, r2, r3⟩

theorem add_sx_no (h : Sx w base s V cs N X) (hA : Apart w X b0 A c L) (hx : ∀ x, x ∈ L → -9223372036854775808 ≤ x ∧ x ≤ 9223372036854775807) (hL : ∃ x, x ∈ L ∧ ¬ Lt7 V x) (hn : L.length ≤ 1000000) (hN : N ≤ 1000000) (hT : TabB base w) :
    Calls Tryz.prog 34 #[.pointer (some ⟨s, 0, none⟩), .slice A L.length c] w fun e w' => e = .returned (.bool false) ∧ Sx w' base s V cs N X ∧ Tn base X w w' := by
  obtain ⟨rfl, rfl, rfl, h4, h5, h6, fo, h7⟩ := h
  refine (add_any7 h7 hA hx hn hT (by omega) (by omega) (by omega)).mono ?_
  rintro e w' ⟨X', fo', b, rfl, r1, r2, r3, ⟨r4, r5⟩, r6, r7, r8⟩
  have hb : b = false := by
    cases hbb : b with
    | false => rfl
    | true =>
      obtain ⟨x, hx1, hx2⟩ := hL
      exact absurd ((foreign7_yes h7.sto.vb).1 (r6.1 hbb) x hx1) hx2
  subst hb
  obtain rfl := r8 rfl
  exact ⟨rfl, ⟨rfl, rfl, rfl, h4, h5, h6, fo', r1⟩, r2⟩

theorem len_sx (h : Sx w base s V cs N X) : Calls Tryz.prog 84 #[.pointer (some ⟨s, 0, none⟩)] w fun e w' => e = .returned (.int .i64 cs.length) ∧ ∃ q, w' = w.drewN q := by
  obtain ⟨rfl, rfl, rfl, h4, h5, h6, fo, h7⟩ := h
  exact len_any7 h7

theorem new_sx (V : Nat) (hV : V ≤ 100000) (w : World) :
    Calls Tryz.prog 42 #[.int .i64 V] w fun e w' => ∃ (s : Nat) (X : SX), e = .returned (.pointer (some ⟨s, 0, none⟩)) ∧ Sx w' w.heap.size s V [] 0 X ∧ Below w.heap.size w w' := by
  refine (new_any7 V hV w).mono ?_
  rintro e w' ⟨s, m, fb, wb, rfl, h1, h2⟩
  exact ⟨s, _, rfl, ⟨rfl, rfl, rfl, Nat.le_refl _, Nat.le_refl _, Nat.le_refl _, _, h1⟩, h2⟩

end

end Go.Proofs.YthcpfaahcncfjaaGreatDoor

namespace Go.Proofs.YthcpfaahcncfjaaGreatDoor
open Go.RowKit
set_option linter.unusedVariables false
set_option linter.unusedSimpArgs false

theorem Sto.apart_low {W : World} {base b0 c : Nat} {X : SX} {fo : List Bool} {A : Option Addr} {L : List Int} (h : Sto W base X fo) (ho : W.ownsRow b0 3 1 (.slice A L.length c) L.length (L.map (Value.int .i64))) (hl : ∀ g, (Value.slice A L.length c).ownBlock = some g → g < base) : Apart W X b0 A c L :=
  ⟨ho, fun g hg e => by have h1 := (h.fnd.lt g e).1; have h2 := hl g hg; omega⟩

/-- a store that has a formula's clauses -/
def StoreP (V : Nat) (cs : List (List Int)) (w : World) (e : Ending) (w' : World) : Prop :=
  ∃ (base : Nat) (X : SX) (fo : List Bool), e = .returned (.pointer (some ⟨X.s, 0, none⟩)) ∧ w.heap.size ≤ base ∧ Rest7 w' base X fo ∧ Below w.heap.size w w' ∧ X.V = V ∧ X.cs = cs.map normOf ∧ X.ps.length ≤ cs.length ∧ X.added ≤ cs.length ∧ X.tk ≤ cs.length

set_option maxRecDepth 100000 in
set_option maxHeartbeats 1000000 in
theorem store_any07 (V : Nat) (cs : List (List Int)) (vs : List Value) (b0 b1 : Nat) (A : Option Addr) (c : Nat) (w : World) (hV : V ≤ 100000) (hn : cs.length ≤ 1000000) (hl : ∀ d, d ∈ cs → d.length ≤ 1000000 ∧ ∀ x, x ∈ d → Lt7 V x)
    (ho : w.ownsRow b1 55 1 (.slice A cs.length c) cs.length vs) (hr : OwnList w b0 3 vs cs) (hT : Tab7 w) :
    Calls Tryz.prog 22 #[.agg #[.int .i64 V, .slice A cs.length c]] w (StoreP V cs w) := by
  have HO := Lib.hid ho
  have HR := Lib.hid hr
  have HL := Lib.hid hl
  have HT := Lib.hid hT.b
  obtain ⟨n, hnn⟩ : ∃ n, n = cs.length := ⟨_, rfl⟩
  have HN := Lib.hid hnn
  rw [← hnn] at hn ⊢
  obtain ⟨w1, hw1⟩ : ∃ w1, w1 = w.alloc (.cells #[.int .i64 V, .slice A n c] 31) := ⟨_, rfl⟩
  have hB1 : Below w.heap.size w w1 := by rw [hw1]; exact (Below.refl _ _).alloc (Nat.le_refl _) _
  have hs1 : w1.heap.size = w.heap.size + 1 := by rw [hw1]; simp
  have hf1 : Blk w1 w.heap.size 31 #[.int .i64 V, .slice A n c] := by rw [hw1]; exact Blk.new w _ _
  have HB1 := Lib.hid hB1
  have HF1 := Lib.hid hf1
  have HNEW := Lib.hid (new_any7 V hV w1)
  have HW1 := Lib.hid hw1
  clear ho hr hl hT hnn hB1 hf1 hw1
  go_enter Tryz.func22, Tryz.ntmps22
  go_wp2_with (go_at_call 42; rw [← HW1.out]; refine HNEW.out.mono ?_; rintro e2 w2 ⟨s, m, fb, wb, rfl, hrest, hb2⟩; have f1 := (HF1.out.below hb2 (by omega)).cell 1; have HB2 := Lib.hid hb2; have HRE := Lib.hid hrest; clear hrest hb2)
  go_loopg [12] (n + 1) (fun gk i wr => ∃ (k : Nat) (Y : SX) (fy : List Bool), k ≤ n ∧ gk = n - k + 1 ∧ i = .int .i64 k ∧ Hid (Rest7 wr w1.heap.size Y fy) ∧ Hid (Y.s = s ∧ Y.V = V ∧ Y.cs = (cs.take k).map normOf ∧ Y.ps.length ≤ k ∧ Y.added ≤ k ∧ Y.tk ≤ k) ∧ Hid (Below w1.heap.size w1 wr))
  case atStart => exact ⟨0, _, _, by omega, by omega, rfl, HRE, Lib.hid ⟨rfl, rfl, rfl, Nat.le_refl _, Nat.le_refl _, Nat.le_refl _⟩, HB2⟩
  case round =>
    obtain ⟨k, Y, fy, hk, rfl, rfl, HY, HQ, HB⟩ := hrel
    have HBW := Lib.hid (HB1.out.trans (HB.out.mono (by omega)))
    by_cases hlt : k < n
    · obtain ⟨Aj, cj, hvj, hoj⟩ := HR.out.each k (by rw [← HN.out]; exact hlt)
      have hob := own_below HO.out HBW.out fun g hg => (HO.out.lt g hg).2
      have hcell : ∃ g, A = some ⟨g, 0, none⟩ ∧ wr.cell? ⟨g, k, none⟩ = some (.slice Aj (cs.getD k []).length cj) := by
        obtain ⟨g, rfl, _, _⟩ := own_addr hob (by have := HN.out; omega)
        exact ⟨g, rfl, by rw [World.ownsRow.cellAt hob k (by have := HN.out; omega)]; exact hvj⟩
      obtain ⟨g, rfl, hc⟩ := hcell
      have hmem : cs.getD k [] ∈ cs := rows_row (by rw [← HN.out]; exact hlt)
      obtain ⟨hd1, hd2⟩ := HL.out _ hmem
      have htk : cs.take (k + 1) = cs.take k ++ [cs.getD k []] := by
        have h2 : k < cs.length := by rw [← HN.out]; exact hlt
        rw [List.take_succ_eq_append_getElem h2]; simp [List.getD, h2]
      obtain ⟨d, hdd⟩ : ∃ d, d = cs.getD k [] := ⟨_, rfl⟩
      rw [← hdd] at hc hoj hd1 hd2 htk
      obtain ⟨q1, q2, q3, q4, q5, q6⟩ := HQ.out
      have hap : Apart wr Y b0 Aj cj d := HY.out.sto.apart_low (own_below hoj HBW.out fun g hg => (hoj.lt g hg).2) fun g hg => by have := (hoj.lt g hg).2; omega
      have HAD := Lib.hid (add_any7 HY.out hap (fun x hx => by obtain ⟨a1, a2, a3⟩ := hd2 x hx; omega) hd1 ((HT.out.on HBW.out).mono (by omega)) (by omega) (by omega) (by omega))
      have HFO : Hid (foreign7 Y.V d = false) := Lib.hid ((foreign7_yes (by omega)).2 (by rw [q2]; exact hd2))
      rw [q1] at HAD
      have HTK := Lib.hid htk
      clear hvj hoj hob hmem hd2 htk hdd hap q1 q2 q3 q4 q5 q6
      go_wp2_with (go_at_call 34; refine HAD.out.mono ?_; rintro e3 w3 ⟨X', fo', b, rfl, hr3, ht3, hl3, hs3, hb3, hy3, -⟩; obtain rfl := hb3.2 HFO.out; have HR3 := Lib.hid hr3; have HT3 := Lib.hid ht3; have HS3 := Lib.hid hs3; have HY3 := Lib.hid (hy3 rfl); clear hr3 ht3 hl3 hs3 hb3 hy3)
      go_roundg (n - k)
      case measure => omega
      case rel =>
        obtain ⟨q1, q2, q3, q4, q5, q6⟩ := HQ.out
        obtain ⟨p1, p2⟩ := HS3.out
        obtain ⟨r1, r2, r3, r4⟩ := HY3.out
        refine ⟨k + 1, X', fo', by omega, by omega, by go_num, HR3, Lib.hid ⟨p1.trans q1, p2.trans q2, ?_, by omega, by omega, by omega⟩, Lib.hid (HB.out.trans HT3.out.below)⟩
        rw [r1, q3, HTK.out, List.map_append]
        rfl
    · obtain rfl : k = n := by omega
      go_wp2
      go_ret
      obtain ⟨q1, q2, q3, q4, q5, q6⟩ := HQ.out
      rw [HN.out, List.take_length] at q3
      exact ⟨w1.heap.size, Y, fy, by rw [q1]; rfl, by omega, HY.out, HBW.out, q2, q3, by rw [← HN.out]; exact q4, by rw [← HN.out]; exact q5, by rw [← HN.out]; exact q6⟩

end Go.Proofs.YthcpfaahcncfjaaGreatDoor

namespace Go.Proofs.YthcpfaahcncfjaaGreatDoor
open Go.RowKit
set_option linter.unusedVariables false
set_option linter.unusedSimpArgs false

def cs2 : List (List Int) := [[1, 2], [-1, 2]]

theorem norm_a : normOf [1, 2] = [1, 2] := by decide

theorem norm_b : normOf [-1, 2] = [-1, 2] := by decide

theorem fol2_one (x : Int) : Fol cs2 [1] x ↔ x = 1 ∨ x = 2 := by
  constructor
  · intro h
    refine h.least (K := fun x => x = 1 ∨ x = 2) (fun y hy => by simp at hy; exact .inl hy) fun c hc x hx hall => ?_
    simp [cs2] at hc
    rcases hc with rfl | rfl
    · simp at hx; exact hx
    · simp at hx
      rcases hx with rfl | rfl
      · have := hall 2 (by simp) (by decide)
        omega
      · exact .inr rfl
  · rintro (rfl | rfl)
    · exact .given (by simp)
    · exact Fol.closed [-1, 2] (by simp [cs2]) 2 (by simp) fun y hy hne => by
        simp at hy
        rcases hy with rfl | rfl
        · exact .given (by simp)
        · exact absurd rfl hne

theorem clash2_one : ¬ Clash cs2 [1] := by
  rintro (⟨x, h1, h2⟩ | ⟨c, hc, h⟩)
  · rw [fol2_one] at h1 h2; omega
  · simp [cs2] at hc
    rcases hc with rfl | rfl
    · have := h 1 (by simp); rw [fol2_one] at this; omega
    · have := h 2 (by simp); rw [fol2_one] at this; omega

theorem clash2_neg : Clash cs2 [-2] := by
  have h2 : Fol cs2 [-2] (-2) := .given (by simp)
  refine .inr ⟨[-1, 2], by simp [cs2], fun y hy => ?_⟩
  simp at hy
  rcases hy with rfl | rfl
  · exact Fol.closed [1, 2] (by simp [cs2]) 1 (by simp) fun y hy hne => by
      simp at hy
      rcases hy with rfl | rfl
      · exact absurd rfl hne
      · exact h2
  · exact h2

theorem clash2_nil : ¬ Clash cs2 [] := by
  have hno : ∀ x, ¬ Fol cs2 [] x := fun x h => h.least (K := fun _ => False) (fun y hy => by simp at hy) fun c hc x hx hall => by
    simp [cs2] at hc
    rcases hc with rfl | rfl
    · simp at hx
      rcases hx with rfl | rfl
      · exact hall 2 (by simp) (by decide)
      · exact hall 1 (by simp) (by decide)
    · simp at hx
      rcases hx with rfl | rfl
      · exact hall 2 (by simp) (by decide)
      · exact hall (-1) (by simp) (by decide)
  rintro (⟨x, h1, h2⟩ | ⟨c, hc, h⟩)
  · exact hno _ h1
  · simp [cs2] at hc
    rcases hc with rfl | rfl
    · exact hno _ (h 1 (by simp))
    · exact hno _ (h 2 (by simp))

theorem told2_one {r : List Int} {ok : Bool} (h : Told cs2 [1] r ok) (hr : Rising r) : ok = true ∧ r = [1, 2] := by
  have hok : ok = true := by
    cases hk : ok with
    | true => rfl
    | false => exact absurd (h.no hk).1 clash2_one
  refine ⟨hok, rising_unique hr (by simp [Rising, litIndex]) fun y => ?_⟩
  rw [(h.yes hok).2 y, fol2_one]
  simp

theorem told2_neg {r : List Int} {ok : Bool} (h : Told cs2 [-2] r ok) : ok = false ∧ r = [] := by
  have hok : ok = false := by
    cases hk : ok with
    | false => rfl
    | true => exact absurd clash2_neg (h.yes hk).1
  exact ⟨hok, (h.no hok).2⟩

end Go.Proofs.YthcpfaahcncfjaaGreatDoor

namespace Go.Proofs.YthcpfaahcncfjaaGreatDoor
open Go.RowKit
set_option linter.unusedVariables false
set_option linter.unusedSimpArgs false

theorem store_sx (V : Nat) (cs : List (List Int)) (vs : List Value) (b0 b1 : Nat) (A : Option Addr) (c : Nat) (w : World) (hV : V ≤ 100000) (hn : cs.length ≤ 1000000) (hl : ∀ d, d ∈ cs → d.length ≤ 1000000 ∧ ∀ x, x ∈ d → Lt7 V x)
    (ho : w.ownsRow b1 55 1 (.slice A cs.length c) cs.length vs) (hr : OwnList w b0 3 vs cs) (hT : Tab7 w) :
    Calls Tryz.prog 22 #[.agg #[.int .i64 V, .slice A cs.length c]] w fun e w' => ∃ (base s : Nat) (X : SX), e = .returned (.pointer (some ⟨s, 0, none⟩)) ∧ w.heap.size ≤ base ∧ Sx w' base s V (cs.map normOf) cs.length X ∧ Below w.heap.size w w' := by
  refine (store_any07 V cs vs b0 b1 A c w hV hn hl ho hr hT).mono ?_
  rintro e w' ⟨base, X, fo, rfl, h1, h2, h3, h4, h5, h6, h7, h8⟩
  exact ⟨base, X.s, X, rfl, h1, ⟨rfl, h4, h5, h6, h7, h8, fo, h2⟩, h3⟩

/-- clauses in normal form are alike -/
theorem alike_norm (cs : List (List Int)) : Alike cs (cs.map normOf) := by
  refine ⟨fun c hc => ⟨normOf c, List.mem_map_of_mem hc, fun y => mem_normOf.symm⟩, fun d hd => ?_⟩
  obtain ⟨c, hc, rfl⟩ := List.mem_map.1 hd
  exact ⟨c, hc, fun y => mem_normOf.symm⟩

theorem rows_light7 {nss : List (List Int)} {k : Nat} (h : light nss k = true) (hk : k ≤ 1000) : nss.length ≤ 1099511627776 ∧ ∀ j, (nss.getD j []).length ≤ 1099511627776 := by
  obtain ⟨h1, h2⟩ := light_iff.1 h
  refine ⟨by omega, fun j => ?_⟩
  by_cases hj : j < nss.length
  · have h3 := litCount_take hj
    have h4 := litCount_take_le nss (j + 1)
    omega
  · simp [List.getD, List.getElem?_eq_none (Nat.le_of_not_lt hj)]

/-- few clauses, of few literals each, all of F variables -/
structure Form7 (F : Nat) (cs : List (List Int)) : Prop where
  few : cs.length ≤ 1000
  each : ∀ d, d ∈ cs → d.length ≤ 100 ∧ ∀ x, x ∈ d → Lt7 F x

theorem form7_raw {F k width : Nat} {nss : List (List Int)} (h : light nss k = true) (hk : k ≤ 1000) (hw : width ≤ 100) : Form7 F (rawForm F width nss) := by
  obtain ⟨h1, h2⟩ := light_iff.1 h
  refine ⟨by rw [rawForm_len]; omega, fun d hd => ?_⟩
  obtain ⟨c, _, rfl⟩ := List.mem_map.1 hd
  refine ⟨Nat.le_trans (rawClause_len F width c).2 hw, fun x hx => ?_⟩
  obtain ⟨_, a, b, e⟩ := rawClause_bd hx
  exact ⟨a, b, e⟩

section

variable {F : Nat} {cs : List (List Int)}

theorem Form7.flat (h : Form7 F cs) : cs.flatten.length ≤ 100000 := by
  have : ∀ ds : List (List Int), (∀ d, d ∈ ds → d.length ≤ 100) → ds.flatten.length ≤ 100 * ds.length := by
    intro ds
    induction ds with
    | nil => intro _; simp
    | cons d r ih =>
      intro hd
      have h1 := hd d (by simp)
      have h2 := ih fun e he => hd e (by simp [he])
      simp only [List.flatten_cons, List.length_append, List.length_cons]
      omega
  have h1 := this cs fun d hd => (h.each d hd).1
  have h2 := h.few
  omega

theorem Form7.mid (h : Form7 F cs) (hF : F ≤ 1000) : ∀ d, d ∈ cs → Mid d := fun d hd => by
  obtain ⟨a, b⟩ := h.each d hd
  exact ⟨by omega, fun x hx => by obtain ⟨c1, c2, c3⟩ := b x hx; omega⟩

theorem Form7.big (h : Form7 F cs) : ∀ d, d ∈ cs → d.length ≤ 1000000 ∧ ∀ x, x ∈ d → Lt7 F x := fun d hd => by
  obtain ⟨a, b⟩ := h.each d hd
  exact ⟨by omega, b⟩

end

theorem lits07_lt {F : Nat} {ns : List Int} : ∀ x, x ∈ lits07 F ns → Lt7 F x := fun x hx => lits07_bd hx

theorem mid_lt7 {F : Nat} {L : List Int} (hF : F ≤ 1000) (hl : L.length ≤ 1000000000) (h : ∀ x, x ∈ L → Lt7 F x) : Mid L := ⟨by omega, fun x hx => by obtain ⟨a, b, c⟩ := h x hx; omega⟩

end Go.Proofs.YthcpfaahcncfjaaGreatDoor
