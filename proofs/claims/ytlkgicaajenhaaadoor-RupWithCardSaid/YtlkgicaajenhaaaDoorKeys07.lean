/- A clause that is new: its struct stands, the store counts it. The map of keys behind a store. append to a row of pointers whose first ones are cut off. A clause is put into the map of keys. A store that has one clause more: what holds of it. Two clauses have one key only if they are one. What the map of keys tells. A clause that is born, listed with all others and under its key. s.same[k] = append(s.same[k], x): the map's part. Has, Len. -/
import Derived.Test.YtlkgicaajenhaaaDoorNew07
import Derived.ArgAppend
import Derived.Test.YtlkgicaajenhaaaDoorKey07
import Derived.Deep.RegionHeld3
namespace Go.Proofs.YtlkgicaajenhaaaDoor
open Go.RowKit
set_option linter.unusedVariables false
set_option linter.unusedSimpArgs false

/-- one clause more -/
def SX.born (X : SX) (q : Nat) (x : CX) : SX := { X.cl q x with ps := X.ps ++ [q], added := X.added + 1 }
theorem SX.born_C (X : SX) (q : Nat) (x : CX) (p : Nat) : (X.born q x).C p = if p = q then x else X.C p := by
  show (X.cl q x).C p = _
  unfold SX.cl
  rfl
/-- the struct of a new clause lies in a block of its own: the store is one clause richer as soon as it counts it -/
theorem Sto.born {W : World} {base : Nat} {X : SX} {fo : List Bool} {q : Nat} {x : CX} (h : Sto W base X fo) (hq : Blk W q 73 x.cells) (hqb : base ≤ q) (hnum : x.num ≤ 9223372036854775807) (hrow : W.ownsRow base 3 1 x.row x.lits.length (x.lits.map (Value.int .i64))) (hne : ∀ g, x.row.ownBlock = some g → X.fv.ownBlock ≠ some g) (hnew : q ∉ X.ps) :
    Sto (W.setCell ⟨X.s, 1, none⟩ (.int .i64 (X.added + 1 : Nat))) base (X.born q x) fo ∧ Tn base X W (W.setCell ⟨X.s, 1, none⟩ (.int .i64 (X.added + 1 : Nat))) ∧ Later7 W X (X.born q x) ∧ ∀ D n, W.ownsMap Tryd.prog 9 heldE X.m n D → (W.setCell ⟨X.s, 1, none⟩ (.int .i64 (X.added + 1 : Nat))).ownsMap Tryd.prog 9 heldE X.m n D := by
  have far : ∀ q t Y, Blk W q t Y → t ≠ 66 → Blk (W.setCell ⟨X.s, 1, none⟩ (.int .i64 (X.added + 1 : Nat))) q t Y := fun q t Y hq h2 => hq.far (hq.ne_ h.st h2) _
  have row : ∀ (e : TypeId) (v : Value) (n : Nat) (xs : List Value), W.ownsRow base e 1 v n xs → e ≠ 66 → (W.setCell ⟨X.s, 1, none⟩ (.int .i64 (X.added + 1 : Nat))).ownsRow base e 1 v n xs := fun e v n xs ho h2 => own_setCell ho _ (own_blk_ne ho h.st h2)
  refine ⟨⟨?_, far _ _ _ h.fol (by decide), h.flen, row _ _ _ _ h.fnd (by decide), row _ _ _ _ h.out (by decide), h.pil.keep fun q Y hq => far _ _ _ hq (by decide), h.num, fun p hp => ?_, ?_, h.lo, h.vb⟩, ⟨(Below.refl _ _).setCell h.lo.1 _, fun q t Y hq h1 h2 h3 h4 h5 h6 => far q t Y hq h1, Recs.set _ _ _⟩, ⟨rfl, .inl rfl⟩, fun D n hm => hm.kept (grown_setCell W _ _) (fun e => blk_map_ne7 h.st hm (by simpa using e.symm))⟩
  · have := h.st.set_ 1 (.int .i64 (X.added + 1 : Nat))
    have e : (X.born q x).head = X.head.setIfInBounds 1 (.int .i64 (X.added + 1 : Nat)) := by simp [SX.head, SX.fv, SX.born, SX.cl]
    rw [e]; exact this
  · rw [SX.born_C]
    split
    · next e =>
      subst e
      exact ⟨far _ _ _ hq (by decide), hqb, row _ _ _ _ hrow (by decide), hne⟩
    · next e =>
      have hp2 : p ∈ X.ps := by
        have h2 : p ∈ X.ps ++ [q] := hp
        rcases List.mem_append.1 h2 with h3 | h3
        · exact h3
        · exact absurd (List.mem_singleton.1 h3) e
      obtain ⟨c1, c2, c3, c4⟩ := h.cl p hp2
      exact ⟨far _ _ _ c1 (by decide), c2, row _ _ _ _ c3 (by decide), c4⟩
  · obtain ⟨D, n, hm, hn, h2⟩ := h.map
    exact ⟨D, n, hm.kept (grown_setCell W _ _) (fun e => blk_map_ne7 h.st hm (by simpa using e.symm)), hn, h2⟩
section
variable {W : World} {base : Nat} {X : SX} {fo : List Bool}
/-- a pile whose header lies in the store's struct is another: all clauses (0), the short ones (1) -/
theorem Sto.piled_s {wa w3 : World} {i d c : Nat} {A : Option Addr} {ps : List Nat} (h : Sto W base X fo) (hd : d < 2) (hi : i = 2 * X.V + d) (hb : Below W.heap.size W wa) (hg : wa.grownBy w3 (X.vs.getD i undef).ownBlock)
    (ho : w3.ownsRow base 74 1 (.slice A ps.length c) ps.length (ptrs7 ps)) (hat : (Value.slice A ps.length c).ownBlock = (X.vs.getD i undef).ownBlock ∨ (Value.slice A ps.length c).ownBlock = some wa.heap.size) :
    Sto (w3.setCell ⟨X.s, 3 + d, none⟩ (.slice A ps.length c)) base (X.pile i (.slice A ps.length c) ps) fo ∧ Tn base X W (w3.setCell ⟨X.s, 3 + d, none⟩ (.slice A ps.length c)) ∧ ∀ D n, W.ownsMap Tryd.prog 9 heldE X.m n D → (w3.setCell ⟨X.s, 3 + d, none⟩ (.slice A ps.length c)).ownsMap Tryd.prog 9 heldE X.m n D := by
  have hnum := h.num.1
  have hil : i < X.pss.length := by omega
  obtain ⟨Ai, ci, hvi, hoi⟩ := h.pil.each i hil
  have hlt : ∀ g, (X.vs.getD i undef).ownBlock = some g → g < W.heap.size := fun g hg => by rw [hvi] at hg; exact (hoi.lt g hg).2
  have hoi' : W.ownsRow base 74 1 (X.vs.getD i undef) (X.pss.getD i []).length (ptrs7 (X.pss.getD i [])) := by rw [hvi]; exact hoi
  have k3 : ∀ q t Y, Blk W q t Y → t ≠ 74 → Blk w3 q t Y := fun q t Y hq h1 => (hq.below hb hq.lt).grown hg (own_blk_ne hoi' hq (Ne.symm h1))
  have r3 : ∀ (e : TypeId) (v : Value) (n : Nat) (xs : List Value), W.ownsRow base e 1 v n xs → e ≠ 74 → w3.ownsRow base e 1 v n xs := fun e v n xs ho h1 => by
    refine (own_below ho hb fun g hg => (ho.lt g hg).2).kept hg ?_
    rcases own_own_ne ho hoi' h1 with e1 | e1
    · exact .inl e1
    · exact .inr e1
  have hout3 := r3 _ _ _ _ h.out (by decide)
  have hgo : Blk w3 X.s 66 X.head := k3 _ _ _ h.st (by decide)
  have far : ∀ q t Y, Blk W q t Y → t ≠ 74 → t ≠ 66 → Blk (w3.setCell ⟨X.s, 3 + d, none⟩ (.slice A ps.length c)) q t Y := fun q t Y hq h1 h2 => (k3 q t Y hq h1).far ((k3 q t Y hq h1).ne_ hgo h2) _
  have row : ∀ (e : TypeId) (v : Value) (n : Nat) (xs : List Value), W.ownsRow base e 1 v n xs → e ≠ 74 → e ≠ 66 → (w3.setCell ⟨X.s, 3 + d, none⟩ (.slice A ps.length c)).ownsRow base e 1 v n xs := fun e v n xs ho h1 h2 =>
    own_setCell (r3 e v n xs ho h1) _ (own_blk_ne (r3 e v n xs ho h1) hgo h2)
  have hbase : base ≤ X.s := h.lo.1
  have hbW : base ≤ W.heap.size := by have := h.lo.1; have := h.st.lt; omega
  have hpil3 : Piles w3 base (X.vs.set i (.slice A ps.length c)) (X.pss.set i ps) := by
    have hpa : Piles wa base X.vs X.pss := h.pil.keep fun q Y hq => hq.below hb hq.lt
    refine hpa.put hil hg ho ?_
    rcases hat with e | e
    · exact .inl e
    · exact .inr fun g hg2 => by rw [e] at hg2; injection hg2 with hg2; omega
  have hlen := h.pil.len
  refine ⟨⟨?_, far _ _ _ h.fol (by decide) (by decide), h.flen, row _ _ _ _ h.fnd (by decide) (by decide), ?_, hpil3.keep fun q Y hq => hq.far (hq.ne_ hgo (by decide)) _, ?_, fun p hp => ?_, ?_, h.lo, h.vb⟩, ⟨?_, fun q t Y hq h1 h2 h3 h4 h5 h6 => far q t Y hq h3 h1, ((Recs.of_below hb).trans (Recs.grown_row hg (own_below hoi' hb hlt))).trans (Recs.set _ _ _)⟩, fun D n hm => ?_⟩
  · have := hgo.set_ (3 + d) (.slice A ps.length c)
    have e : (X.pile i (.slice A ps.length c) ps).head = X.head.setIfInBounds (3 + d) (.slice A ps.length c) := by
      simp only [SX.head, SX.pile, SX.fv]
      subst hi
      rcases (by omega : d = 0 ∨ d = 1) with rfl | rfl
      · simp only [Nat.add_zero]; rw [getD_set_same (by omega), getD_set_other (show 2 * X.V ≠ 2 * X.V + 1 by omega)]; rfl
      · rw [getD_set_same (by omega), getD_set_other (show 2 * X.V + 1 ≠ 2 * X.V by omega)]; rfl
    rw [e]; exact this
  · show World.ownsRow _ base _ 1 (.slice X.Aw (2 * X.V) X.cw) (2 * X.V) ((X.vs.set i (.slice A ps.length c)).take (2 * X.V))
    rw [List.take_set_of_le (by omega)]
    exact own_setCell hout3 _ (own_blk_ne hout3 hgo (by decide))
  · exact ⟨by show (X.pss.set i ps).length = _; rw [List.length_set]; exact hnum, h.num.2⟩
  · obtain ⟨c1, c2, c3, c4⟩ := h.cl p hp
    exact ⟨far _ _ _ c1 (by decide) (by decide), c2, row _ _ _ _ c3 (by decide) (by decide), c4⟩
  · obtain ⟨D, n, hm, h2, h3, h4⟩ := h.map
    have hma : wa.ownsMap Tryd.prog 9 heldE X.m n D := by
      obtain ⟨es, clock, m1, m2⟩ := hm
      exact ⟨es, clock, (hb.block _ (Array.getElem?_eq_some_iff.1 m1).1).trans m1, m2⟩
    have hm3 : w3.ownsMap Tryd.prog 9 heldE X.m n D := hma.kept hg (own_map_ne7 hoi' hm)
    refine ⟨D, n, hm3.kept (grown_setCell w3 _ _) (fun e => blk_map_ne7 hgo hm3 (by simpa using e.symm)), h2, h3, fun k => ?_⟩
    rw [h4 k]
    show _ = DataW.held (match X.ks.findIdx? (· = k) with | some j => cutv ((X.vs.set i (.slice A ps.length c)).getD (2 * X.V + 2 + j) undef) (X.ko j) | none => .slice none 0 0)
    cases X.ks.findIdx? (· = k) with
    | none => rfl
    | some j =>
      dsimp only
      rw [getD_set_other (show i ≠ 2 * X.V + 2 + j by omega)]
  · refine (((hb.mono hbW).grown hg (Nat.le_trans hbW hb.size) fun g hg2 => ?_).setCell hbase _)
    rw [hvi] at hg2; exact (hoi.lt g hg2).1
  · have hma : wa.ownsMap Tryd.prog 9 heldE X.m n D := by
      obtain ⟨es, clock, m1, m2⟩ := hm
      exact ⟨es, clock, (hb.block _ (Array.getElem?_eq_some_iff.1 m1).1).trans m1, m2⟩
    have hm3 : w3.ownsMap Tryd.prog 9 heldE X.m n D := hma.kept hg (own_map_ne7 hoi' hm)
    exact hm3.kept (grown_setCell w3 _ _) (fun e => blk_map_ne7 hgo hm3 (by simpa using e.symm))
end
end Go.Proofs.YtlkgicaajenhaaaDoor

namespace Go.Proofs.YtlkgicaajenhaaaDoor
open Go.RowKit
set_option linter.unusedVariables false
set_option linter.unusedSimpArgs false

theorem keyLit_is (k : List UInt8) : WideAt.IsKeyLit (keyLit k) := by
  first | exact rfl | exact trivial | simp [WideAt.IsKeyLit, keyLit]
theorem keyLit_ne {k k' : List UInt8} (h : k' ≠ k) : keyLit k' ≠ keyLit k := fun e => h (by unfold keyLit at e; injection e)
theorem find_key {ks : List (List UInt8)} {k : List UInt8} {j : Nat} (h : ks.findIdx? (· = k) = some j) : j < ks.length ∧ ks[j]? = some k := by
  obtain ⟨hj, h1, h2⟩ := List.findIdx?_eq_some_iff_getElem.1 h
  exact ⟨hj, by rw [List.getElem?_eq_getElem hj]; simpa using h1⟩
/-- two keys are not found at one place -/
theorem find_apart {ks : List (List UInt8)} {k k' : List UInt8} {i j : Nat} (h : ks.findIdx? (· = k) = some i) (h' : ks.findIdx? (· = k') = some j) (hne : k' ≠ k) : i ≠ j := by
  rintro rfl
  have h1 := (find_key h).2
  have h2 := (find_key h').2
  rw [h1] at h2
  injection h2 with h2
  exact hne h2.symm
section
variable {X : SX} {D : DataW Value} {k : List UInt8} {v : Value} {ps : List Nat}
/-- the store with another pile of a key, of which the first ones are gone -/
def SX.kpile (X : SX) (j : Nat) (v : Value) (ps : List Nat) (d : Nat) : SX := { X with vs := X.vs.set (2 * X.V + 2 + j) v, pss := X.pss.set (2 * X.V + 2 + j) ps, ko := fun i => if i = j then d else X.ko i, tk := X.tk + 1 }
/-- a key that was there has another pile -/
theorem MapIs.put_old {j d : Nat} (h : MapIs X D) (hk : X.ks.findIdx? (· = k) = some j) (hl : 2 * X.V + 2 + j < X.vs.length) : MapIs (X.kpile j v ps d) (D.put (keyLit k) (.held (cutv v d))) := by
  refine ⟨h.1.put _ _, fun k' => ?_⟩
  show _ = DataW.held (match X.ks.findIdx? (· = k') with | some i => cutv ((X.vs.set (2 * X.V + 2 + j) v).getD (2 * X.V + 2 + i) undef) (if i = j then d else X.ko i) | none => .slice none 0 0)
  by_cases e : k' = k
  · subst e
    rw [Maps.atKey_put_same h.1 (keyLit_is _), hk]
    dsimp only
    rw [getD_set_same hl, if_pos rfl]
  · rw [Maps.atKey_put_other (keyLit_ne e), h.2 k']
    cases hf : X.ks.findIdx? (· = k') with
    | none => rfl
    | some i =>
      have hne := find_apart hk hf e
      dsimp only
      rw [getD_set_other (by omega), if_neg (by omega)]
/-- a key that is new -/
def SX.keyed (X : SX) (k : List UInt8) (v : Value) (ps : List Nat) : SX := { X with ks := X.ks ++ [k], vs := X.vs ++ [v], pss := X.pss ++ [ps], ko := fun i => if i = X.ks.length then 0 else X.ko i, tk := X.tk + 1 }
theorem MapIs.put_new (h : MapIs X D) (hk : X.ks.findIdx? (· = k) = none) (hl : X.vs.length = 2 * X.V + 2 + X.ks.length) : MapIs (X.keyed k v ps) (D.put (keyLit k) (.held v)) := by
  refine ⟨h.1.put _ _, fun k' => ?_⟩
  show _ = DataW.held (match (X.ks ++ [k]).findIdx? (· = k') with | some i => cutv ((X.vs ++ [v]).getD (2 * X.V + 2 + i) undef) (if i = X.ks.length then 0 else X.ko i) | none => .slice none 0 0)
  rw [List.findIdx?_append]
  by_cases e : k' = k
  · subst e
    rw [Maps.atKey_put_same h.1 (keyLit_is _), hk]
    simp [List.getD, hl.symm, cutv_zero]
  · rw [Maps.atKey_put_other (keyLit_ne e), h.2 k']
    have e2 : ¬ k = k' := fun h => e h.symm
    cases hf : X.ks.findIdx? (· = k') with
    | none => simp [e2]
    | some i =>
      have := (find_key hf).1
      simp only [Option.or, Option.some_or]
      simp [List.getD, List.getElem?_append_left (show 2 * X.V + 2 + i < X.vs.length by omega), show i ≠ X.ks.length by omega]
end
end Go.Proofs.YtlkgicaajenhaaaDoor

namespace Go.Proofs.YtlkgicaajenhaaaDoor
open Go.RowKit
set_option linter.unusedVariables false
set_option linter.unusedSimpArgs false

/-- a value more behind a row of one's own, where there is room -/
theorem own_room7 {w : World} {base e g n c : Nat} {xs : List Value} (h : w.ownsRow base e 1 (.slice (some ⟨g, 0, none⟩) n c) n xs) (hr : n + 1 ≤ c) (u : Value) :
    (w.setCell ⟨g, n, none⟩ u).ownsRow base e 1 (.slice (some ⟨g, 0, none⟩) (n + 1) c) (n + 1) (xs ++ [u]) ∧ (w.cell? ⟨g, n, none⟩).isSome = true ∧ w.frozen? ⟨g, n, none⟩ = false := by
  rcases h.2 with ⟨hv, _⟩ | ⟨g', cap', cur, hv, hb', hg', hnc, hmx, hcs, htk⟩
  · cases hv
  · injection hv with hA _ hC
    injection hA with hA
    injection hA with hA
    subst hA hC
    have hlt : n < cur.size := by omega
    refine ⟨⟨by simp [h.1], .inr ⟨g, c, cur.setIfInBounds n u, rfl, hb', ?_, hr, hmx, by rw [Array.size_setIfInBounds]; exact hcs, ?_⟩⟩, ?_, ?_⟩
    · simp [World.setCell, Array.getElem?_modify, hg']
    · rw [Array.toList_setIfInBounds, Nat.mul_one, List.take_succ_eq_append_getElem (by simp; exact hlt), List.take_set_of_le (Nat.le_refl _)]
      rw [Nat.mul_one] at htk
      rw [htk]
      simp
    · simp [World.cell?, hg', hlt]
    · simp [World.frozen?, hg']
theorem grown_any7 {w w' : World} (h : w.grownBy w' none) (row : Option Nat) : w.grownBy w' row := ⟨h.os, h.tape, h.output, h.size, fun k hk _ => h.block k hk (by simp)⟩
/-- what an append to a row less its first d leaves: the same row with one more, or a new one -/
def Cut7 (w w' : World) (base : Nat) (v0 : Value) (ps : List Nat) (d q : Nat) (v' : Value) : Prop :=
  ∃ (A' : Option Addr) (c' : Nat) (ps' : List Nat) (d' : Nat), v' = cutv (.slice A' ps'.length c') d' ∧ ps'.drop d' = ps.drop d ++ [q] ∧ d' ≤ ps'.length ∧ ps'.length ≤ ps.length + 1 ∧ (d = 0 → d' = 0) ∧
    w'.ownsRow base 74 1 (.slice A' ps'.length c') ps'.length (ptrs7 ps') ∧ w.grownBy w' v0.ownBlock ∧ ((Value.slice A' ps'.length c').ownBlock = v0.ownBlock ∨ ∀ g, (Value.slice A' ps'.length c').ownBlock = some g → w.heap.size ≤ g)
theorem run_append_cut7 {w : World} {base c d gx q : Nat} {A : Option Addr} {ps : List Nat} (hown : w.ownsRow base 74 1 (.slice A ps.length c) ps.length (ptrs7 ps)) (hd : d ≤ ps.length) (hx : w.cell? ⟨gx, 0, none⟩ = some (.pointer (some ⟨q, 0, none⟩))) (hn : ps.length ≤ 1000000000) (hbase : base ≤ w.heap.size)
    (t ty : TypeId) (ht : Tryd.prog.underlying t = some (.slice 74)) :
    ∃ v' w', (Builtin.append_ #[t, t] ty #[cutv (.slice A ps.length c) d, .slice (some ⟨gx, 0, none⟩) 1 1]).run Tryd.prog w = .ok v' w' ∧ Cut7 w w' base (.slice A ps.length c) ps d q v' := by
  obtain ⟨i0, hi, hz0, hz1, hz2⟩ := info_parts infoPtr7
  have hnews : ∀ j u, [Value.pointer (some ⟨q, 0, none⟩)][j]? = some u → w.cell? ((⟨gx, 0, none⟩ : Addr).add j) = some u := by
    intro j u hu
    match j, hu with
    | 0, hu => simp at hu; subst hu; simpa [Addr.add] using hx
  have h1 : ∀ u ∈ [Value.pointer (some ⟨q, 0, none⟩)], u.oneCell' = true := by intro u hu; simp at hu; subst hu; rfl
  have hpl := ptrs7_len ps
  have hsn : ptrs7 (ps ++ [q]) = ptrs7 ps ++ [.pointer (some ⟨q, 0, none⟩)] := by simp [ptrs7]
  rcases hown.2 with ⟨hv, h0⟩ | ⟨g, cap, cur, hv, hb, hg, hnc, hmx, hcs, htk⟩
  · injection hv with hA _ hC
    subst hA hC
    obtain rfl : ps = [] := List.length_eq_zero_iff.1 h0
    obtain rfl : d = 0 := by simpa using hd
    obtain ⟨v', w', hrun, h2, h3, _, h4⟩ := run_append_own_at (P := Tryd.prog) w base t ty 74 i0 (.pointer none) 1 8 ht hi hz0 hz1 hz2 (by decide) (by decide) _ _ _ hown ⟨gx, 0, none⟩ 1 1 [.pointer (some ⟨q, 0, none⟩)] rfl hnews h1 (by simp [maxLen]) (by simp) hbase
    obtain ⟨A', c', hv', _⟩ := own_slice h2
    subst hv'
    refine ⟨_, w', hrun, A', c', [q], 0, by rw [cutv_zero]; rfl, rfl, Nat.zero_le _, by simp, fun _ => rfl, h2, h3, ?_⟩
    rcases h4 with e | e
    · exact .inl e
    · exact .inr fun g hg => by
        have hg' : (Value.slice A' (([] : List Nat).length + 1) c').ownBlock = some g := hg
        rw [e] at hg'; injection hg' with hg'; omega
  · injection hv with hA _ hC
    subst hA hC
    have hcut : cutv (.slice (some ⟨g, 0, none⟩) ps.length c) d = .slice (some ⟨g, 0 + d, none⟩) (ps.length - d) (c - d) := rfl
    rw [hcut]
    by_cases hroom : ps.length + 1 ≤ c
    · obtain ⟨r1, r2, r3⟩ := own_room7 hown hroom (.pointer (some ⟨q, 0, none⟩))
      have hoff : 0 + d + (ps.length - d) * i0.size = ps.length := by rw [hz1]; omega
      have hrun := run_append_room_cells (P := Tryd.prog) w t ty 74 i0 ht hi g (0 + d) (ps.length - d) (c - d) ⟨gx, 0, none⟩ 1 1 [.pointer (some ⟨q, 0, none⟩)] (by rw [hz1]; rfl) hnews h1 (by omega)
        (fun j hj => by obtain rfl : j = 0 := (by simpa using hj); rw [hoff]; exact r2) (fun j hj => by obtain rfl : j = 0 := (by simpa using hj); rw [hoff]; exact r3)
      rw [hoff] at hrun
      refine ⟨_, _, hrun, some ⟨g, 0, none⟩, c, ps ++ [q], d, ?_, by rw [List.drop_append_of_le_length hd], by simp; omega, by simp, fun e => e, ?_, grown_setCell w ⟨g, ps.length, none⟩ _, .inl rfl⟩
      · show Value.slice _ _ _ = Value.slice _ _ _
        rw [List.length_append, List.length_singleton, show ps.length + 1 - d = ps.length - d + 1 by omega]
      · rw [List.length_append, List.length_singleton, hsn]; exact r1
    · have hlo : ((ptrs7 ps).drop d).length = (ps.length - d) * 1 := by rw [List.length_drop, hpl]; omega
      obtain ⟨v', w', hrun, h2, h3⟩ := run_append_arg_grows (P := Tryd.prog) w t ty 74 i0 (.pointer none) 1 8 ht hi hz0 hz1 hz2 (by decide) (by decide) ⟨g, 0 + d, none⟩ (ps.length - d) (c - d) ((ptrs7 ps).drop d) hlo
        (fun j u hu => by
          have hj : d + j < ps.length := by
            have := (List.getElem?_eq_some_iff.1 hu).1
            rw [hlo] at this; omega
          rw [List.getElem?_drop] at hu
          have := World.ownsRow.cellAt hown (d + j) (by omega)
          rw [hu] at this
          rw [Lib.add_plain, Nat.zero_add]
          exact this)
        ⟨gx, 0, none⟩ 1 1 [.pointer (some ⟨q, 0, none⟩)] rfl hnews (by omega) (by unfold maxLen; omega) (by omega)
      obtain ⟨A', c', hv', _, hp⟩ := own_slice h2
      obtain ⟨g', rfl, hg1, hg2, hg3⟩ := hp (by omega)
      subst hv'
      have hl2 : (ps.drop d ++ [q]).length = ps.length - d + 1 := by simp
      refine ⟨_, w', hrun, some ⟨g', 0, none⟩, c', ps.drop d ++ [q], 0, by rw [cutv_zero, hl2], by simp, Nat.zero_le _, by simp, fun _ => rfl, ?_, grown_any7 h3 _, .inr fun k hk => ?_⟩
      · rw [hl2, show ptrs7 (ps.drop d ++ [q]) = (ptrs7 ps).drop d ++ [.pointer (some ⟨q, 0, none⟩)] by simp [ptrs7, List.map_drop]]
        exact own_more h2 hbase
      · have : g' = k := by simpa [Value.ownBlock] using hk
        omega
end Go.Proofs.YtlkgicaajenhaaaDoor

namespace Go.Proofs.YtlkgicaajenhaaaDoor
open Go.RowKit
set_option linter.unusedVariables false
set_option linter.unusedSimpArgs false

/-- one pile more, in a block of its own -/
theorem Piles.snoc7 {w w' : World} {base : Nat} {vs : List Value} {pss : List (List Nat)} {A : Option Addr} {c : Nat} {ps : List Nat} (h : Piles w base vs pss) (hk : Piles w' base vs pss) (ho : w'.ownsRow base 74 1 (.slice A ps.length c) ps.length (ptrs7 ps)) (hf : ∀ g, (Value.slice A ps.length c).ownBlock = some g → w.heap.size ≤ g) : Piles w' base (vs ++ [.slice A ps.length c]) (pss ++ [ps]) := by
  have hlen := h.len
  have hlt : ∀ i g, i < pss.length → (vs.getD i undef).ownBlock = some g → g < w.heap.size := fun i g hi hg => by
    obtain ⟨Ai, ci, h1, h2⟩ := h.each i hi
    rw [h1] at hg
    exact (h2.lt g hg).2
  have hlow : ∀ i, i < pss.length → (vs ++ [Value.slice A ps.length c]).getD i undef = vs.getD i undef := fun i hi => by
    simp [List.getD, List.getElem?_append_left (show i < vs.length by omega)]
  have hlow2 : ∀ i, i < pss.length → (pss ++ [ps]).getD i [] = pss.getD i [] := fun i hi => by
    simp [List.getD, List.getElem?_append_left hi]
  have htop : (vs ++ [Value.slice A ps.length c]).getD pss.length undef = Value.slice A ps.length c := by
    rw [← hlen]; simp [List.getD]
  refine ⟨by simp [hlen], fun j hj => ?_, fun i j g hij hi hj h1 h2 => ?_⟩
  · simp at hj
    rcases Nat.lt_or_ge j pss.length with h1 | h1
    · rw [hlow j h1, hlow2 j h1]; exact hk.each j h1
    · obtain rfl : j = pss.length := by omega
      rw [htop, show (pss ++ [ps]).getD pss.length [] = ps by simp [List.getD]]
      exact ⟨A, c, rfl, ho⟩
  · simp at hi hj
    rcases Nat.lt_or_ge i pss.length with hi2 | hi2 <;> rcases Nat.lt_or_ge j pss.length with hj2 | hj2
    · rw [hlow i hi2] at h1; rw [hlow j hj2] at h2
      exact h.ne i j g hij hi2 hj2 h1 h2
    · obtain rfl : j = pss.length := by omega
      rw [hlow i hi2] at h1; rw [htop] at h2
      have := hlt i g hi2 h1; have := hf g h2; omega
    · obtain rfl : i = pss.length := by omega
      rw [hlow j hj2] at h2; rw [htop] at h1
      have := hlt j g hj2 h2; have := hf g h1; omega
    · omega
section
variable {W : World} {base : Nat} {X : SX} {fo : List Bool}
/-- the piles of keys are others; all else is what it was -/
theorem Sto.recast {w4 : World} {vs' : List Value} {pss' : List (List Nat)} {ks' : List (List UInt8)} {ko' : Nat → Nat} (h : Sto W base X fo) (k4 : ∀ q t Y, Blk W q t Y → t ≠ 74 → Blk w4 q t Y) (r4 : ∀ (e : TypeId) (v : Value) (n : Nat) (xs : List Value), W.ownsRow base e 1 v n xs → e ≠ 74 → w4.ownsRow base e 1 v n xs)
    (hp : Piles w4 base vs' pss') (hn : pss'.length = 2 * X.V + 2 + ks'.length ∧ ks'.Nodup) (h0 : vs'.getD (2 * X.V) undef = X.vs.getD (2 * X.V) undef) (h1 : vs'.getD (2 * X.V + 1) undef = X.vs.getD (2 * X.V + 1) undef) (ht : vs'.take (2 * X.V) = X.vs.take (2 * X.V))
    (hm : ∃ D n, w4.ownsMap Tryd.prog 9 heldE X.m n D ∧ n ≤ X.tk + 1 ∧ MapIs { X with vs := vs', pss := pss', ks := ks', ko := ko', tk := X.tk + 1 } D) (hb : Below base W w4) (hrc : Recs W w4) :
    Sto w4 base { X with vs := vs', pss := pss', ks := ks', ko := ko', tk := X.tk + 1 } fo ∧ Tn base X W w4 := by
  refine ⟨⟨?_, k4 _ _ _ h.fol (by decide), h.flen, r4 _ _ _ _ h.fnd (by decide), ?_, hp, hn, fun p hp => ?_, hm, h.lo, h.vb⟩, ⟨hb, fun q t Y hq h1 h2 h3 h4 h5 h6 => k4 q t Y hq h3, hrc⟩⟩
  · have := k4 _ _ _ h.st (by decide)
    have e : ({ X with vs := vs', pss := pss', ks := ks', ko := ko', tk := X.tk + 1 } : SX).head = X.head := by
      simp only [SX.head, SX.fv]
      rw [h0, h1]
    rw [e]; exact this
  · show World.ownsRow _ base _ 1 (.slice X.Aw (2 * X.V) X.cw) (2 * X.V) (vs'.take (2 * X.V))
    rw [ht]; exact r4 _ _ _ _ h.out (by decide)
  · obtain ⟨c1, c2, c3, c4⟩ := h.cl p hp
    exact ⟨k4 _ _ _ c1 (by decide), c2, r4 _ _ _ _ c3 (by decide), c4⟩
/-- a key that was there: its pile is another -/
theorem Sto.keyed_old {wa w3 w4 : World} {j d n c : Nat} {k : List UInt8} {A : Option Addr} {ps : List Nat} {D : DataW Value} (h : Sto W base X fo) (hk : X.ks.findIdx? (· = k) = some j) (hb : Below W.heap.size W wa) (hg : wa.grownBy w3 (X.vs.getD (2 * X.V + 2 + j) undef).ownBlock)
    (ho : w3.ownsRow base 74 1 (.slice A ps.length c) ps.length (ptrs7 ps)) (hat : (Value.slice A ps.length c).ownBlock = (X.vs.getD (2 * X.V + 2 + j) undef).ownBlock ∨ ∀ g, (Value.slice A ps.length c).ownBlock = some g → wa.heap.size ≤ g)
    (hn : n ≤ X.tk + 1) (hm4 : w4.ownsMap Tryd.prog 9 heldE X.m n D) (hM : MapIs (X.kpile j (.slice A ps.length c) ps d) D) (hm3 : ∃ n D, w3.ownsMap Tryd.prog 9 heldE X.m n D) (hg4 : w3.grownBy w4 (some X.m)) :
    Sto w4 base (X.kpile j (.slice A ps.length c) ps d) fo ∧ Tn base X W w4 := by
  obtain ⟨i, hi⟩ : ∃ i, i = 2 * X.V + 2 + j := ⟨_, rfl⟩
  obtain ⟨n3, D3, hm3⟩ := hm3
  have hnum := h.num.1
  have hjl := (find_key hk).1
  have hil : i < X.pss.length := by omega
  have hlen := h.pil.len
  unfold SX.kpile at hM ⊢
  rw [← hi] at hg hat hM ⊢
  obtain ⟨Ai, ci, hvi, hoi⟩ := h.pil.each i hil
  have hoi' : W.ownsRow base 74 1 (X.vs.getD i undef) (X.pss.getD i []).length (ptrs7 (X.pss.getD i [])) := by rw [hvi]; exact hoi
  have k3 : ∀ q t Y, Blk W q t Y → t ≠ 74 → Blk w3 q t Y := fun q t Y hq h1 => (hq.below hb hq.lt).grown hg (own_blk_ne hoi' hq (Ne.symm h1))
  have r3 : ∀ (e : TypeId) (v : Value) (n : Nat) (xs : List Value), W.ownsRow base e 1 v n xs → e ≠ 74 → w3.ownsRow base e 1 v n xs := fun e v n xs ho h1 => by
    refine (own_below ho hb fun g hg => (ho.lt g hg).2).kept hg ?_
    rcases own_own_ne ho hoi' h1 with e1 | e1
    · exact .inl e1
    · exact .inr e1
  have g4 : ∀ q t Y, Blk w3 q t Y → Blk w4 q t Y := fun q t Y hq => hq.grown hg4 (fun e => blk_map_ne7 hq hm3 (by simpa using e))
  have o4 : ∀ (e : TypeId) (v : Value) (n : Nat) (xs : List Value), w3.ownsRow base e 1 v n xs → w4.ownsRow base e 1 v n xs := fun e v n xs ho => ho.kept hg4 (.inr (own_map_ne7 ho hm3).symm)
  have hbW : base ≤ W.heap.size := by have := h.lo.1; have := h.st.lt; omega
  have hpil3 : Piles w3 base (X.vs.set i (.slice A ps.length c)) (X.pss.set i ps) := by
    have hpa : Piles wa base X.vs X.pss := h.pil.keep fun q Y hq => hq.below hb hq.lt
    exact hpa.put hil hg ho hat
  refine h.recast (fun q t Y hq h1 => g4 _ _ _ (k3 q t Y hq h1)) (fun e v n xs ho h1 => o4 _ _ _ _ (r3 e v n xs ho h1)) (hpil3.keep fun q Y hq => g4 _ _ _ hq) ⟨by rw [List.length_set]; exact hnum, h.num.2⟩ (getD_set_other (by omega) _) (getD_set_other (by omega) _) (List.take_set_of_le (by omega)) ⟨_, n, hm4, hn, hM⟩ ?_ (((Recs.of_below hb).trans (Recs.grown_row hg (own_below hoi' hb fun g hg2 => by rw [hvi] at hg2; exact (hoi.lt g hg2).2))).trans (Recs.grown_map hg4 hm3))
  exact (((hb.mono hbW).grown hg (Nat.le_trans hbW hb.size) fun g hg2 => by rw [hvi] at hg2; exact (hoi.lt g hg2).1)).grown hg4 (Nat.le_trans hbW (Nat.le_trans hb.size hg.size)) (fun g hg2 => by injection hg2 with hg2; have := h.lo.2.2; omega)
/-- a key that is new: a pile of its own -/
theorem Sto.keyed_new {wa w3 w4 : World} {n c : Nat} {k : List UInt8} {A : Option Addr} {ps : List Nat} {D : DataW Value} (h : Sto W base X fo) (hk : X.ks.findIdx? (· = k) = none) (hb : Below W.heap.size W wa) (hg : wa.grownBy w3 none)
    (ho : w3.ownsRow base 74 1 (.slice A ps.length c) ps.length (ptrs7 ps)) (hat : ∀ g, (Value.slice A ps.length c).ownBlock = some g → W.heap.size ≤ g)
    (hn : n ≤ X.tk) (hM : MapIs X D) (hm3 : w3.ownsMap Tryd.prog 9 heldE X.m n D) (hm4 : w4.ownsMap Tryd.prog 9 heldE X.m (n + 1) (D.put (keyLit k) (.held (.slice A ps.length c)))) (hg4 : w3.grownBy w4 (some X.m)) :
    Sto w4 base (X.keyed k (.slice A ps.length c) ps) fo ∧ Tn base X W w4 := by
  have hnum := h.num.1
  have hlen := h.pil.len
  have hb3 : Below W.heap.size W w3 := hb.grown hg hb.size (fun g hg2 => by cases hg2)
  have g4 : ∀ q t Y, Blk w3 q t Y → Blk w4 q t Y := fun q t Y hq => hq.grown hg4 (fun e => blk_map_ne7 hq hm3 (by simpa using e))
  have o4 : ∀ (e : TypeId) (v : Value) (n : Nat) (xs : List Value), w3.ownsRow base e 1 v n xs → w4.ownsRow base e 1 v n xs := fun e v n xs ho => ho.kept hg4 (.inr (own_map_ne7 ho hm3).symm)
  have hbW : base ≤ W.heap.size := by have := h.lo.1; have := h.st.lt; omega
  have hp3 : Piles w3 base X.vs X.pss := h.pil.keep fun q Y hq => hq.below hb3 hq.lt
  have hkn : k ∉ X.ks := fun hm => by
    have := List.findIdx?_eq_none_iff.1 hk k hm
    simp at this
  refine h.recast (vs' := X.vs ++ [Value.slice A ps.length c]) (pss' := X.pss ++ [ps]) (ks' := X.ks ++ [k]) (fun q t Y hq h1 => g4 _ _ _ (hq.below hb3 hq.lt)) (fun e v n xs ho h1 => o4 _ _ _ _ (own_below ho hb3 fun g hg => (ho.lt g hg).2)) ((h.pil.snoc7 hp3 ho hat).keep fun q Y hq => g4 _ _ _ hq) ⟨by simp; omega, ?_⟩ ?_ ?_ ?_ ⟨_, n + 1, hm4, by omega, MapIs.put_new (v := Value.slice A ps.length c) (ps := ps) hM hk (by omega)⟩ ?_ ((Recs.of_below hb3).trans (Recs.grown_map hg4 hm3))
  · rw [List.nodup_append]
    exact ⟨h.num.2, by simp, fun a ha b hb e => hkn (by rw [List.mem_singleton.1 hb] at e; exact e ▸ ha)⟩
  · simp [List.getD, List.getElem?_append_left (show 2 * X.V < X.vs.length by omega)]
  · simp [List.getD, List.getElem?_append_left (show 2 * X.V + 1 < X.vs.length by omega)]
  · rw [List.take_append_of_le_length (by omega)]
  · exact (hb3.mono hbW).grown hg4 (Nat.le_trans hbW hb3.size) (fun g hg2 => by injection hg2 with hg2; have := h.lo.2.2; omega)
end
end Go.Proofs.YtlkgicaajenhaaaDoor

namespace Go.Proofs.YtlkgicaajenhaaaDoor
open Go.RowKit
set_option linter.unusedVariables false
set_option linter.unusedSimpArgs false

/-- a clause more, and where it has been put -/
structure More7 (X X' : SX) (q : Nat) (L : List Int) : Prop where
  V : X'.V = X.V
  fd : X'.fd = X.fd
  ps : X'.ps = X.ps ++ [q]
  new : q ∉ X.ps
  C : ∀ p, p ≠ q → X'.C p = X.C p
  num : (X'.C q).num = X.added
  lits : (X'.C q).lits = L
  gone : (X'.C q).gone = false
  two : 2 ≤ L.length → (X'.C q).w0 = L.getD 0 0 ∧ (X'.C q).w1 = L.getD 1 0 ∧ (X'.C q).tried = 0
  added : X'.added = X.added + 1
  ng : X'.ng = X.ng
  tk : X'.tk = X.tk + 1
  all : X'.pss.getD (2 * X.V) [] = X.pss.getD (2 * X.V) [] ++ [q]
  short : X'.pss.getD (2 * X.V + 1) [] = if L.length < 2 then X.pss.getD (2 * X.V + 1) [] ++ [q] else X.pss.getD (2 * X.V + 1) []
  wait : ∀ j, j < 2 * X.V → X'.pss.getD j [] = if 2 ≤ L.length ∧ (ix (L.getD 0 0) = j ∨ ix (L.getD 1 0) = j) then X.pss.getD j [] ++ [q] else X.pss.getD j []
  keys : ∃ i : Nat, X'.ks[i]? = some (keyOf L) ∧ (∀ (j : Nat) (k : List UInt8), X.ks[j]? = some k → X'.ks[j]? = some k) ∧ (∀ (j : Nat) (k : List UInt8), X'.ks[j]? = some k → j ≠ i → X.ks[j]? = some k ∧ X'.pss.getD (2 * X.V + 2 + j) [] = X.pss.getD (2 * X.V + 2 + j) [] ∧ X'.ko j = X.ko j) ∧
    ((X.ks[i]? = some (keyOf L) ∧ (X'.pss.getD (2 * X.V + 2 + i) []).drop (X'.ko i) = (X.pss.getD (2 * X.V + 2 + i) []).drop (X.ko i) ++ [q]) ∨ (keyOf L ∉ X.ks ∧ (X'.pss.getD (2 * X.V + 2 + i) []).drop (X'.ko i) = [q])) ∧
    X'.ko i ≤ (X'.pss.getD (2 * X.V + 2 + i) []).length ∧ (X'.pss.getD (2 * X.V + 2 + i) []).length ≤ X.tk + 1
section
variable {W W' : World} {base : Nat} {X X' : SX} {fo : List Bool} {q : Nat} {L : List Int}
theorem More7.live (h : More7 X X' q L) : X'.live = X.live ++ [q] := by
  unfold SX.live
  rw [h.ps, List.filter_append]
  congr 1
  · exact List.filter_congr fun p hp => by rw [h.C p (fun e => h.new (e ▸ hp))]
  · simp [h.gone]
theorem More7.cs (h : More7 X X' q L) : X'.cs = X.cs ++ [L] := by
  unfold SX.cs
  rw [h.live, List.map_append]
  congr 1
  · exact List.map_congr_left fun p hp => by rw [h.C p (fun e => h.new (e ▸ (SX.mem_live.1 hp).1))]
  · simp [h.lits]
theorem More7.pos (h : More7 X X' q L) {p : Nat} (hp : p ∈ X'.ps) : p = q ∨ (p ∈ X.ps ∧ p ≠ q) := by
  rw [h.ps] at hp
  rcases List.mem_append.1 hp with hp | hp
  · exact .inr ⟨hp, fun e => h.new (e ▸ hp)⟩
  · exact .inl (List.mem_singleton.1 hp)
theorem More7.wfs (h : More7 X X' q L) (hw : Wfs X) (hL : ∀ x, x ∈ L → Lt7 X.V x) (hr : Rising L) (hl : L.length ≤ 1000000000) (hp : X.ps.length < 1000000000) : Wfs X' := by
  refine ⟨fun p hp => ?_, by rw [h.ps]; simp; omega, fun j hj => ?_⟩
  · rw [h.V]
    rcases h.pos hp with rfl | ⟨hp, hne⟩
    · refine ⟨fun l hl => hL l (by rw [h.lits] at hl; exact hl), by rw [h.lits]; exact hl, fun h2 => ?_⟩
      rw [h.lits] at h2 ⊢
      obtain ⟨a, b, c⟩ := h.two h2
      rw [a, b, c]
      have e0 : L.getD 0 0 = L[0] := by simp [List.getD, show 0 < L.length by omega]
      have e1 : L.getD 1 0 = L[1] := by simp [List.getD, show 1 < L.length by omega]
      refine ⟨by rw [e0]; exact List.getElem_mem _, by rw [e1]; exact List.getElem_mem _, fun e => ?_, by omega⟩
      have := List.pairwise_iff_getElem.1 hr 0 1 (by omega) (by omega) (by omega)
      rw [← e0, ← e1, e] at this
      omega
    · rw [h.C p hne]; exact hw.cl p hp
  · rw [h.V] at hj
    obtain ⟨q1, q2, q3⟩ := hw.pile j hj
    have hq : q ∉ X.pss.getD j [] := fun hm => h.new (q2 q hm).1
    have hwq : Waits (X'.C q) j ↔ 2 ≤ L.length ∧ (ix (L.getD 0 0) = j ∨ ix (L.getD 1 0) = j) := by
      unfold Waits
      rw [h.lits]
      constructor
      · rintro ⟨a, b⟩
        obtain ⟨c, d, _⟩ := h.two a
        rw [c, d] at b
        exact ⟨a, b⟩
      · rintro ⟨a, b⟩
        obtain ⟨c, d, _⟩ := h.two a
        rw [c, d]
        exact ⟨a, b⟩
    have hold : ∀ p, p ∈ X.pss.getD j [] → p ∈ X'.ps ∧ Waits (X'.C p) j := fun p hp => by
      obtain ⟨a, b⟩ := q2 p hp
      exact ⟨by rw [h.ps]; exact List.mem_append_left _ a, by rw [h.C p (fun e => h.new (e ▸ a))]; exact b⟩
    have hnew : ∀ p, p ∈ X'.ps → (X'.C p).gone = false → Waits (X'.C p) j → p ≠ q → p ∈ X.pss.getD j [] := fun p hp hg hwt hne => by
      rcases h.pos hp with rfl | ⟨hp, _⟩
      · exact absurd rfl hne
      · rw [h.C p hne] at hg hwt; exact q3 p hp hg hwt
    rw [h.wait j hj]
    split
    · next hc =>
      refine ⟨List.nodup_append.2 ⟨q1, by simp, fun a ha b hb e => hq (by rw [List.mem_singleton.1 hb] at e; exact e ▸ ha)⟩, fun p hp => ?_, fun p hp hg hwt => ?_⟩
      · rcases List.mem_append.1 hp with hp | hp
        · exact hold p hp
        · rw [List.mem_singleton.1 hp]; exact ⟨by rw [h.ps]; simp, hwq.2 hc⟩
      · by_cases e : p = q
        · rw [e]; simp
        · exact List.mem_append_left _ (hnew p hp hg hwt e)
    · next hc =>
      refine ⟨q1, hold, fun p hp hg hwt => ?_⟩
      by_cases e : p = q
      · rw [e] at hwt; exact absurd (hwq.1 hwt) hc
      · exact hnew p hp hg hwt e
theorem More7.shortP (h : More7 X X' q L) (hs : Short X) : Short X' := by
  unfold Short
  rw [h.V, h.short]
  refine ⟨fun p hp => ?_, fun p hp hg hl => ?_⟩
  · have old : p ∈ X.pss.getD (2 * X.V + 1) [] → p ∈ X'.ps ∧ (X'.C p).lits.length < 2 := fun hp => by
      obtain ⟨a, b⟩ := hs.1 p hp
      exact ⟨by rw [h.ps]; exact List.mem_append_left _ a, by rw [h.C p (fun e => h.new (e ▸ a))]; exact b⟩
    split at hp
    · next hc =>
      rcases List.mem_append.1 hp with hp | hp
      · exact old hp
      · rw [List.mem_singleton.1 hp]; exact ⟨by rw [h.ps]; simp, by rw [h.lits]; exact hc⟩
    · exact old hp
  · rcases h.pos hp with rfl | ⟨hp, hne⟩
    · rw [h.lits] at hl
      rw [if_pos hl]; simp
    · rw [h.C p hne] at hg hl
      have := hs.2 p hp hg hl
      split
      · exact List.mem_append_left _ this
      · exact this
theorem More7.shelf (h : More7 X X' q L) (hs : Short X) (hS : Shelf7 X) (hr : Rising L) (hnd : X'.ks.Nodup) : Shelf7 X' := by
  obtain ⟨i, k1, k2, k3, k4, k5, k6⟩ := h.keys
  have hlive := h.live
  have hC : ∀ p, p ∈ X.ps → X'.C p = X.C p := fun p hp => h.C p (fun e => h.new (e ▸ hp))
  have hkeyL : ∀ j, X'.ks[j]? = some (keyOf L) → j = i := fun j hj => by
    obtain ⟨a1, a2⟩ := List.getElem?_eq_some_iff.1 hj
    obtain ⟨b1, b2⟩ := List.getElem?_eq_some_iff.1 k1
    exact (List.getElem_inj hnd).1 (a2.trans b2.symm)
  have hfil : ∀ k, (X.live.filter fun p => decide (keyOf (X'.C p).lits = k)) = X.live.filter fun p => decide (keyOf (X.C p).lits = k) := fun k => List.filter_congr fun p hp => by rw [hC p (SX.mem_live.1 hp).1]
  refine ⟨?_, ?_, ?_, fun p hp => ?_, ?_, fun p hp => ?_, fun j k hk => ?_, fun p hp => ?_, fun j hj => ?_⟩
  · rw [h.V, h.short]
    split
    · exact List.nodup_append.2 ⟨hS.shnd, by simp, fun a ha b hb e => h.new (by rw [List.mem_singleton.1 hb] at e; exact e ▸ (hs.1 a ha).1)⟩
    · exact hS.shnd
  · rw [h.V, h.all, h.ps, hS.all]
  · rw [h.ps]
    refine List.pairwise_append.2 ⟨hS.nums.imp_of_mem fun ha hb hlt => by rw [hC _ ha, hC _ hb]; exact hlt, List.pairwise_singleton _ _, fun a ha b hb => ?_⟩
    rw [List.mem_singleton.1 hb, hC a ha, h.num]
    exact hS.numlt a ha
  · rw [h.added]
    rcases h.pos hp with rfl | ⟨hp, _⟩
    · rw [h.num]; omega
    · rw [hC p hp]; have := hS.numlt p hp; omega
  · have := hS.ng
    rw [h.ng, hlive, h.ps, List.length_append, List.length_append, List.length_singleton]
    omega
  · rcases h.pos hp with rfl | ⟨hp, _⟩
    · rw [h.lits]; exact hr
    · rw [hC p hp]; exact hS.norm p hp
  · rw [h.V, hlive, List.filter_append, hfil]
    by_cases e : j = i
    · subst e
      rw [k1] at hk
      injection hk with hk
      subst hk
      have hone : ([q].filter fun p => decide (keyOf (X'.C p).lits = keyOf L)) = [q] := by simp [h.lits]
      rw [hone]
      refine ⟨?_, k5⟩
      rcases k4 with ⟨a, b⟩ | ⟨a, b⟩
      · rw [b, (hS.keys j _ a).1]
      · rw [b]
        have : (X.live.filter fun p => decide (keyOf (X.C p).lits = keyOf L)) = [] := List.filter_eq_nil_iff.2 fun p hp => by
          simp only [decide_eq_true_eq]
          exact fun e => a (e ▸ hS.keyed p hp)
        rw [this]; rfl
    · obtain ⟨a, b, c⟩ := k3 j k hk e
      have hone : ([q].filter fun p => decide (keyOf (X'.C p).lits = k)) = [] := by
        have : keyOf L ≠ k := fun e2 => e (hkeyL j (by rw [e2]; exact hk))
        simp [h.lits, this]
      rw [hone, List.append_nil, b, c]
      exact hS.keys j k a
  · rw [hlive] at hp
    rcases List.mem_append.1 hp with hp | hp
    · rw [hC p (SX.mem_live.1 hp).1]
      obtain ⟨j, hj, he⟩ := List.mem_iff_getElem.1 (hS.keyed p hp)
      exact List.mem_of_getElem? (k2 j _ (by rw [List.getElem?_eq_getElem hj, he]))
    · rw [List.mem_singleton.1 hp, h.lits]
      exact List.mem_of_getElem? k1
  · rw [h.V, h.tk]
    by_cases e : j = i
    · rw [e]; exact k6
    · obtain ⟨a, b, _⟩ := k3 j _ (List.getElem?_eq_getElem hj) e
      rw [b]
      have := hS.klen j (List.getElem?_eq_some_iff.1 a).1
      omega
/-- a store with one clause more is one between calls -/
theorem More7.rest (h : More7 X X' q L) (hR : Rest7 W base X fo) (hS : Sto W' base X' fo) (hL : ∀ x, x ∈ L → Lt7 X.V x) (hr : Rising L) (hl : L.length ≤ 1000000000) (hp : X.ps.length < 1000000000) : Rest7 W' base X' fo := by
  refine ⟨hS, h.wfs hR.wf hL hr hl hp, ⟨?_, ?_, ?_, ?_, ?_⟩, h.fd.trans hR.fd, h.shortP hR.short, h.shelf hR.short hR.shelf hr hS.num.2⟩
  · rw [h.V]; exact hR.fw.flen
  · rw [h.V, h.fd]; exact hR.fw.tie
  · rw [h.fd]; exact hR.fw.nd
  · rw [h.V, h.fd]; exact hR.fw.lt
  · rw [h.fd]; exact hR.fw.con
end
end Go.Proofs.YtlkgicaajenhaaaDoor

namespace Go.Proofs.YtlkgicaajenhaaaDoor
open Go.RowKit
set_option linter.unusedVariables false
set_option linter.unusedSimpArgs false

def decVal (bs : List UInt8) : Nat := bs.foldl (fun a b => a * 10 + (b.toNat - 48)) 0
theorem decVal_dec (u : Nat) : decVal (Lib.decDigits u) = u ∧ (∀ b, b ∈ Lib.decDigits u → 48 ≤ b.toNat ∧ b.toNat ≤ 57) ∧ Lib.decDigits u ≠ [] := by
  induction u using Nat.strongRecOn with
  | ind u ih =>
    rw [Lib.decDigits]
    have hd : ∀ d : Nat, d < 10 → (UInt8.ofNat (48 + d)).toNat = 48 + d := fun d h => by simp [UInt8.toNat_ofNat']; omega
    split
    · next h =>
      refine ⟨?_, fun b hb => ?_, by simp⟩
      · have e := hd u h
        simp only [decVal, List.foldl_cons, List.foldl_nil]
        omega
      · rw [List.mem_singleton.1 hb, hd u h]; omega
    · next h =>
      obtain ⟨a, b, c⟩ := ih (u / 10) (by omega)
      refine ⟨?_, fun x hx => ?_, by simp⟩
      · unfold decVal at a ⊢
        rw [List.foldl_append, a]
        simp only [List.foldl_cons, List.foldl_nil]
        rw [hd _ (Nat.mod_lt _ (by omega))]
        omega
      · rcases List.mem_append.1 hx with hx | hx
        · exact b x hx
        · rw [List.mem_singleton.1 hx, hd _ (Nat.mod_lt _ (by omega))]; omega
theorem itoa_inj7 {a b : Int} (h : Lib.itoa a = Lib.itoa b) : a = b := by
  unfold Lib.itoa at h
  have hne : ∀ (u : Nat) (l : List UInt8), 45 :: l ≠ Lib.decDigits u := fun u l e => by
    have := (decVal_dec u).2.1 45 (by rw [← e]; simp)
    revert this; decide
  have hin : ∀ u v : Nat, Lib.decDigits u = Lib.decDigits v → u = v := fun u v e => by
    have h1 := (decVal_dec u).1
    rw [e, (decVal_dec v).1] at h1
    exact h1.symm
  split at h <;> split at h
  · injection h with _ h
    have := hin _ _ h
    omega
  · exact absurd h (hne _ _)
  · exact absurd h.symm (hne _ _)
  · have := hin _ _ h
    omega
theorem itoa_gap7 (a : Int) : (32 : UInt8) ∉ Lib.itoa a := fun hm => by
  unfold Lib.itoa at hm
  split at hm
  · rcases List.mem_cons.1 hm with e | hm
    · revert e; decide
    · have := (decVal_dec _).2.1 _ hm
      revert this; decide
  · have := (decVal_dec _).2.1 _ hm
    revert this; decide
theorem split_gap7 : ∀ {a b s t : List UInt8}, (32 : UInt8) ∉ a → (32 : UInt8) ∉ b → a ++ 32 :: s = b ++ 32 :: t → a = b ∧ s = t
  | [], [], s, t, _, _, h => ⟨rfl, by injection h⟩
  | [], y :: b, s, t, _, hb, h => by
    injection h with h _
    exact absurd (by rw [h]; simp) hb
  | x :: a, [], s, t, ha, _, h => by
    injection h with h _
    exact absurd (by rw [← h]; simp) ha
  | x :: a, y :: b, s, t, ha, hb, h => by
    injection h with h1 h2
    obtain ⟨e1, e2⟩ := split_gap7 (fun hm => ha (by simp [hm])) (fun hm => hb (by simp [hm])) h2
    exact ⟨by rw [h1, e1], e2⟩
theorem keyOf_inj : ∀ {xs ys : List Int}, keyOf xs = keyOf ys → xs = ys
  | [], [], _ => rfl
  | [], y :: ys, h => by
    have e : keyOf (y :: ys) = Lib.itoa y ++ 32 :: keyOf ys := by simp [keyOf]
    rw [e] at h
    simp [keyOf] at h
  | x :: xs, [], h => by
    have e : keyOf (x :: xs) = Lib.itoa x ++ 32 :: keyOf xs := by simp [keyOf]
    rw [e] at h
    simp [keyOf] at h
  | x :: xs, y :: ys, h => by
    have e : ∀ (z : Int) (zs : List Int), keyOf (z :: zs) = Lib.itoa z ++ 32 :: keyOf zs := fun z zs => by simp [keyOf]
    rw [e, e] at h
    obtain ⟨h1, h2⟩ := split_gap7 (itoa_gap7 x) (itoa_gap7 y) h
    rw [itoa_inj7 h1, keyOf_inj h2]
end Go.Proofs.YtlkgicaajenhaaaDoor

namespace Go.Proofs.YtlkgicaajenhaaaDoor
open Go.RowKit Go.Maps Go.WideMaps
set_option linter.unusedVariables false
set_option linter.unusedSimpArgs false

/-- the library's table of tens is there, whatever turns above B -/
def TabB (B : Nat) (w : World) : Prop := Lib.TabBelow Tryd.prog B w "internal/strconv.uint64pow10" .u64 Lib.pow10Tab
theorem TabB.here {B : Nat} {w : World} (h : TabB B w) : Tab7 w := Lib.TabBelow.here h
theorem TabB.on {B : Nat} {w w' : World} (h : TabB B w) (hb : Below B w w') : TabB B w' := Lib.TabBelow.on h hb
theorem TabB.mono {B B' : Nat} {w : World} (h : TabB B w) (hb : B ≤ B') : TabB B' w := fun w' h' => h w' (h'.mono hb)
theorem Tab7.b {w : World} (h : Tab7 w) : TabB w.heap.size w := Lib.tabBelow_of_tabIs h
/-- the row that the map has for a key -/
def mapVal (X : SX) (k : List UInt8) : Value := match X.ks.findIdx? (· = k) with | some i => cutv (X.vs.getD (2 * X.V + 2 + i) undef) (X.ko i) | none => .slice none 0 0
theorem mapLaw7 : Keyed Tryd.prog 9 := string_keyed Tryd.underlying9
theorem mapKey7 {k : List UInt8} (h : k.length ≤ maxLen) : Go.keyOf Tryd.prog 9 (.string ⟨k.toArray⟩) = some (keyLit k) := by
  have := keyOf_string_mk (P := Tryd.prog) Tryd.underlying9 (s := ⟨k.toArray⟩) (by simpa [ByteArray.size] using h)
  simpa [keyLit] using this
theorem zeroRow7 (W : World) : (zeroValue 62).run Tryd.prog W = .ok (.slice none 0 0) W := by
  obtain ⟨i0, hi, hz0, hz1, hz2⟩ := info_parts infoRow7
  simp [zeroValue, typeInfo, hi, hz0]
theorem held_inj7 {v u : Value} {ps : List MemPlace} (h : heldE v = some (.held u, ps)) : v = u := DataW.held.inj (Prod.mk.inj (Option.some.inj h)).1
theorem Sto.look {W : World} {base : Nat} {X : SX} {fo : List Bool} (h : Sto W base X fo) {k : List UInt8} (hk : k.length ≤ maxLen) :
    (Instr.lookup 64 (.map (some X.m)) (.string ⟨k.toArray⟩) false).run Tryd.prog W = .ok (mapVal X k) W := by
  obtain ⟨D, n, hm, h2, h3, h4⟩ := h.map
  obtain ⟨v, ps, hrun, hv⟩ := hm.lookup mapLaw7 Tryd.underlying64 (zeroRow7 W) (zd := .held (.slice none 0 0)) (zp := []) rfl (mapKey7 hk)
  rw [h4 k] at hv
  have e : v = mapVal X k := held_inj7 hv
  rw [← e]
  exact hrun
/-- the clauses with this key -/
def keyed7 (X : SX) (k : List UInt8) : List Nat := X.live.filter fun p => decide (keyOf (X.C p).lits = k)
theorem mem_keyed7 {X : SX} {M : List Int} : 0 < (keyed7 X (keyOf M)).length ↔ M ∈ X.cs := by
  constructor
  · intro h
    obtain ⟨p, hp⟩ := List.exists_mem_of_length_pos h
    obtain ⟨a, b⟩ := List.mem_filter.1 hp
    have e := keyOf_inj (of_decide_eq_true b)
    exact List.mem_map.2 ⟨p, a, e⟩
  · intro h
    obtain ⟨p, a, b⟩ := List.mem_map.1 h
    exact List.length_pos_of_mem (a := p) (List.mem_filter.2 ⟨a, by simp [b]⟩)
theorem Rest7.row {W : World} {base : Nat} {X : SX} {fo : List Bool} (h : Rest7 W base X fo) (k : List UInt8) :
    ∃ A c, mapVal X k = .slice A (keyed7 X k).length c ∧ (keyed7 X k).length ≤ c ∧ ∀ j, j < (keyed7 X k).length → ∃ g off, A = some ⟨g, off, none⟩ ∧ W.cell? ⟨g, off + j, none⟩ = some (.pointer (some ⟨(keyed7 X k).getD j 0, 0, none⟩)) := by
  unfold mapVal
  cases hf : X.ks.findIdx? (· = k) with
  | none =>
    have : keyed7 X k = [] := List.filter_eq_nil_iff.2 fun p hp => by
      simp only [decide_eq_true_eq]
      intro e
      have := List.findIdx?_eq_none_iff.1 hf _ (h.shelf.keyed p hp)
      simp [e] at this
    rw [this]
    exact ⟨none, 0, rfl, Nat.le_refl _, fun j hj => absurd hj (by simp)⟩
  | some i =>
    obtain ⟨h1, h2⟩ := find_key hf
    obtain ⟨h3, h4⟩ := h.shelf.keys i k h2
    have hnum := h.sto.num.1
    obtain ⟨Aj, cj, hvj, hoj⟩ := h.sto.pil.each (2 * X.V + 2 + i) (by omega)
    have e : keyed7 X k = (X.pss.getD (2 * X.V + 2 + i) []).drop (X.ko i) := h3.symm
    rw [e]
    dsimp only
    rw [hvj]
    obtain ⟨ps, hps⟩ : ∃ ps, ps = X.pss.getD (2 * X.V + 2 + i) [] := ⟨_, rfl⟩
    rw [← hps] at hoj h4 ⊢
    rcases hoj.2 with ⟨hv, h0⟩ | ⟨g, cap, cur, hv, hb, hg, hnc, _⟩
    · injection hv with hA _ hC
      subst hA hC
      obtain rfl : ps = [] := List.length_eq_zero_iff.1 h0
      exact ⟨none, 0, by simp [cutv], by simp, fun j hj => absurd hj (by simp)⟩
    · injection hv with hA _ hC
      subst hA hC
      refine ⟨some ⟨g, 0 + X.ko i, none⟩, cj - X.ko i, by rw [List.length_drop]; rfl, by rw [List.length_drop]; omega, fun j hj => ⟨g, 0 + X.ko i, rfl, ?_⟩⟩
      rw [List.length_drop] at hj
      have := World.ownsRow.cellAt hoj (X.ko i + j) (by omega)
      rw [Nat.zero_add, this]
      simp [ptrs7, List.getD, show X.ko i + j < ps.length by omega]
end Go.Proofs.YtlkgicaajenhaaaDoor

namespace Go.Proofs.YtlkgicaajenhaaaDoor
open Go.RowKit
set_option linter.unusedVariables false
set_option linter.unusedSimpArgs false

structure Half7 (X X' : SX) (q : Nat) (x : CX) (L : List Int) : Prop where
  s : X'.s = X.s
  m : X'.m = X.m
  fb : X'.fb = X.fb
  V : X'.V = X.V
  fd : X'.fd = X.fd
  fv : X'.fv = X.fv
  ps : X'.ps = X.ps ++ [q]
  C : ∀ p, X'.C p = if p = q then x else X.C p
  added : X'.added = X.added + 1
  ng : X'.ng = X.ng
  tk : X'.tk = X.tk + 1
  all : X'.pss.getD (2 * X.V) [] = X.pss.getD (2 * X.V) [] ++ [q]
  low : ∀ j, j ≠ 2 * X.V → j < 2 * X.V + 2 → X'.pss.getD j [] = X.pss.getD j []
  len : 2 * X.V + 2 ≤ X'.pss.length
  keys : ∃ i : Nat, X'.ks[i]? = some (keyOf L) ∧ (∀ (j : Nat) (k : List UInt8), X.ks[j]? = some k → X'.ks[j]? = some k) ∧ (∀ (j : Nat) (k : List UInt8), X'.ks[j]? = some k → j ≠ i → X.ks[j]? = some k ∧ X'.pss.getD (2 * X.V + 2 + j) [] = X.pss.getD (2 * X.V + 2 + j) [] ∧ X'.ko j = X.ko j) ∧
    ((X.ks[i]? = some (keyOf L) ∧ (X'.pss.getD (2 * X.V + 2 + i) []).drop (X'.ko i) = (X.pss.getD (2 * X.V + 2 + i) []).drop (X.ko i) ++ [q]) ∨ (keyOf L ∉ X.ks ∧ (X'.pss.getD (2 * X.V + 2 + i) []).drop (X'.ko i) = [q])) ∧
    X'.ko i ≤ (X'.pss.getD (2 * X.V + 2 + i) []).length ∧ (X'.pss.getD (2 * X.V + 2 + i) []).length ≤ X.tk + 1
/-- listed with all clauses -/
def SX.listed (X : SX) (q : Nat) (x : CX) (v : Value) : SX := (X.born q x).pile (2 * X.V) v (X.pss.getD (2 * X.V) [] ++ [q])
section
variable {X X2 : SX} {q d j : Nat} {x : CX} {L : List Int} {v v2 : Value} {ps : List Nat}
theorem half_old (hn : X.pss.length = 2 * X.V + 2 + X.ks.length) (hk : X.ks.findIdx? (· = keyOf L) = some j) (hd : ps.drop d = (X.pss.getD (2 * X.V + 2 + j) []).drop (X.ko j) ++ [q]) (hd2 : d ≤ ps.length) (hp : ps.length ≤ X.tk + 1) : Half7 X ((X.listed q x v).kpile j v2 ps d) q x L := by
  obtain ⟨k1, k2⟩ := find_key hk
  have e1 : ((X.listed q x v).kpile j v2 ps d).pss = (X.pss.set (2 * X.V) (X.pss.getD (2 * X.V) [] ++ [q])).set (2 * X.V + 2 + j) ps := rfl
  refine ⟨rfl, rfl, rfl, rfl, rfl, rfl, rfl, fun p => ?_, rfl, rfl, rfl, ?_, fun i h1 h2 => ?_, ?_, j, k2, fun i k h => h, fun i k h hne => ⟨h, ?_, ?_⟩, .inl ⟨k2, ?_⟩, ?_, ?_⟩
  · exact SX.born_C X q x p
  · rw [e1, getD_set_other (by omega), getD_set_same (by omega)]
  · rw [e1, getD_set_other (by omega), getD_set_other (by omega)]
  · rw [e1]; simp; omega
  · rw [e1, getD_set_other (by omega), getD_set_other (by omega)]
  · show (if i = j then d else X.ko i) = _
    rw [if_neg hne]
  · rw [e1, getD_set_same (by simp; omega)]
    show ps.drop (if j = j then d else X.ko j) = _
    rw [if_pos rfl]; exact hd
  · rw [e1, getD_set_same (by simp; omega)]
    show (if j = j then d else X.ko j) ≤ _
    rw [if_pos rfl]; exact hd2
  · rw [e1, getD_set_same (by simp; omega)]; exact hp
theorem half_new (hn : X.pss.length = 2 * X.V + 2 + X.ks.length) (hk : X.ks.findIdx? (· = keyOf L) = none) : Half7 X ((X.listed q x v).keyed (keyOf L) v2 [q]) q x L := by
  have hkn : keyOf L ∉ X.ks := fun hm => by
    have := List.findIdx?_eq_none_iff.1 hk _ hm
    simp at this
  have e1 : ((X.listed q x v).keyed (keyOf L) v2 [q]).pss = (X.pss.set (2 * X.V) (X.pss.getD (2 * X.V) [] ++ [q])) ++ [[q]] := rfl
  have e2 : ((X.listed q x v).keyed (keyOf L) v2 [q]).ks = X.ks ++ [keyOf L] := rfl
  have hlow : ∀ i, i < X.pss.length → ((X.pss.set (2 * X.V) (X.pss.getD (2 * X.V) [] ++ [q])) ++ [[q]]).getD i [] = (X.pss.set (2 * X.V) (X.pss.getD (2 * X.V) [] ++ [q])).getD i [] := fun i hi => by
    simp only [List.getD]
    rw [List.getElem?_append_left (by simp; exact hi)]
  have htop : ((X.pss.set (2 * X.V) (X.pss.getD (2 * X.V) [] ++ [q])) ++ [[q]]).getD (2 * X.V + 2 + X.ks.length) [] = [q] := by
    simp only [List.getD]
    rw [List.getElem?_append_right (by simp; omega)]
    simp [show 2 * X.V + 2 + X.ks.length - X.pss.length = 0 by omega]
  refine ⟨rfl, rfl, rfl, rfl, rfl, rfl, rfl, fun p => ?_, rfl, rfl, rfl, ?_, fun i h1 h2 => ?_, ?_, X.ks.length, ?_, fun i k h => ?_, fun i k h hne => ?_, .inr ⟨hkn, ?_⟩, ?_, ?_⟩
  · exact SX.born_C X q x p
  · rw [e1, hlow _ (by omega), getD_set_same (by omega)]
  · rw [e1, hlow _ (by omega), getD_set_other (by omega)]
  · rw [e1]; simp; omega
  · rw [e2]; simp
  · rw [e2, List.getElem?_append_left (List.getElem?_eq_some_iff.1 h).1]; exact h
  · rw [e2] at h
    have hlt : i < X.ks.length := by
      have := (List.getElem?_eq_some_iff.1 h).1
      simp at this; omega
    rw [List.getElem?_append_left hlt] at h
    refine ⟨h, ?_, ?_⟩
    · rw [e1, hlow _ (by omega), getD_set_other (by omega)]
    · show (if i = X.ks.length then 0 else X.ko i) = _
      rw [if_neg hne]
  · rw [e1, htop]
    show [q].drop (if X.ks.length = X.ks.length then 0 else _) = _
    rw [if_pos rfl]; rfl
  · rw [e1, htop]
    show (if X.ks.length = X.ks.length then 0 else _) ≤ _
    rw [if_pos rfl]; simp
  · rw [e1, htop]; simp
theorem Half7.short (h : Half7 X X2 q x L) (hx : x.lits = L ∧ x.gone = false ∧ x.num = X.added) (hl : L.length < 2) (hnew : q ∉ X.ps) : More7 X (X2.pile (2 * X.V + 1) v (X2.pss.getD (2 * X.V + 1) [] ++ [q])) q L := by
  have hlen := h.len
  have e1 : (X2.pile (2 * X.V + 1) v (X2.pss.getD (2 * X.V + 1) [] ++ [q])).pss = X2.pss.set (2 * X.V + 1) (X2.pss.getD (2 * X.V + 1) [] ++ [q]) := rfl
  have hC : ∀ p, (X2.pile (2 * X.V + 1) v (X2.pss.getD (2 * X.V + 1) [] ++ [q])).C p = if p = q then x else X.C p := h.C
  obtain ⟨x1, x2, x3⟩ := hx
  refine ⟨h.V, h.fd, h.ps, hnew, fun p hp => ?_, ?_, ?_, ?_, fun h2 => ?_, h.added, h.ng, h.tk, ?_, ?_, fun j hj => ?_, ?_⟩
  · rw [hC, if_neg hp]
  · rw [hC, if_pos rfl]; exact x3
  · rw [hC, if_pos rfl]; exact x1
  · rw [hC, if_pos rfl]; exact x2
  · omega
  · rw [e1, getD_set_other (by omega)]; exact h.all
  · rw [e1, getD_set_same (by omega), if_pos hl, h.low _ (by omega) (by omega)]
  · rw [e1, getD_set_other (by omega), if_neg (by omega)]; exact h.low _ (by omega) (by omega)
  · obtain ⟨i, k1, k2, k3, k4, k5, k6⟩ := h.keys
    rw [e1]
    refine ⟨i, k1, k2, fun j k hj hne => ?_, ?_, ?_, ?_⟩
    · rw [getD_set_other (by omega)]; exact k3 j k hj hne
    · rw [getD_set_other (by omega)]; exact k4
    · rw [getD_set_other (by omega)]; exact k5
    · rw [getD_set_other (by omega)]; exact k6
theorem Half7.long {a b : Int} {va vb : Value} {P1 P2 : List Nat} (h : Half7 X X2 q x L) (hx : x.lits = L ∧ x.gone = false ∧ x.num = X.added ∧ x.tried = 0) (hl : 2 ≤ L.length) (hnew : q ∉ X.ps) (ea : a = L.getD 0 0) (eb : b = L.getD 1 0) (hne : ix a ≠ ix b) (ha : ix a < 2 * X.V) (hb : ix b < 2 * X.V)
    (h1 : P1 = X.pss.getD (ix a) [] ++ [q]) (h2 : P2 = X.pss.getD (ix b) [] ++ [q]) : More7 X (((X2.cl q { x with w0 := a, w1 := b }).pile (ix a) va P1).pile (ix b) vb P2) q L := by
  have hlen := h.len
  have e1 : (((X2.cl q { x with w0 := a, w1 := b }).pile (ix a) va P1).pile (ix b) vb P2).pss = (X2.pss.set (ix a) P1).set (ix b) P2 := rfl
  have hC : ∀ p, (((X2.cl q { x with w0 := a, w1 := b }).pile (ix a) va P1).pile (ix b) vb P2).C p = if p = q then { x with w0 := a, w1 := b } else X2.C p := fun p => rfl
  obtain ⟨x1, x2, x3, x4⟩ := hx
  refine ⟨h.V, h.fd, h.ps, hnew, fun p hp => ?_, ?_, ?_, ?_, fun _ => ?_, h.added, h.ng, h.tk, ?_, ?_, fun j hj => ?_, ?_⟩
  · rw [hC, if_neg hp, h.C, if_neg hp]
  · rw [hC, if_pos rfl]; exact x3
  · rw [hC, if_pos rfl]; exact x1
  · rw [hC, if_pos rfl]; exact x2
  · rw [hC, if_pos rfl]; exact ⟨ea, eb, x4⟩
  · rw [e1, getD_set_other (by omega), getD_set_other (by omega)]; exact h.all
  · rw [e1, getD_set_other (by omega), getD_set_other (by omega), if_neg (by omega)]; exact h.low _ (by omega) (by omega)
  · rw [e1, ← ea, ← eb]
    by_cases c2 : ix b = j
    · subst c2
      rw [getD_set_same (by simp; omega), if_pos ⟨hl, .inr rfl⟩, h2]
    · rw [getD_set_other c2]
      by_cases c1 : ix a = j
      · subst c1
        rw [getD_set_same (by omega), if_pos ⟨hl, .inl rfl⟩, h1]
      · rw [getD_set_other c1, if_neg (by rintro ⟨_, e | e⟩; exact c1 e; exact c2 e)]
        exact h.low _ (by omega) (by omega)
  · obtain ⟨i, k1, k2, k3, k4, k5, k6⟩ := h.keys
    rw [e1]
    refine ⟨i, k1, k2, fun j k hj hne => ?_, ?_, ?_, ?_⟩
    · rw [getD_set_other (by omega), getD_set_other (by omega)]; exact k3 j k hj hne
    · rw [getD_set_other (by omega), getD_set_other (by omega)]; exact k4
    · rw [getD_set_other (by omega), getD_set_other (by omega)]; exact k5
    · rw [getD_set_other (by omega), getD_set_other (by omega)]; exact k6
end
end Go.Proofs.YtlkgicaajenhaaaDoor

namespace Go.Proofs.YtlkgicaajenhaaaDoor
open Go.RowKit
set_option linter.unusedVariables false
set_option linter.unusedSimpArgs false

/-- the pile behind the row that the map has for a key -/
def Row7 (X : SX) (k : List UInt8) (A : Option Addr) (c : Nat) (ps : List Nat) (d : Nat) : Prop :=
  (∃ j, X.ks.findIdx? (· = k) = some j ∧ X.vs.getD (2 * X.V + 2 + j) undef = .slice A ps.length c ∧ ps = X.pss.getD (2 * X.V + 2 + j) [] ∧ d = X.ko j) ∨ (X.ks.findIdx? (· = k) = none ∧ A = none ∧ c = 0 ∧ ps = [] ∧ d = 0)
section
variable {W : World} {base : Nat} {X : SX} {fo : List Bool}
theorem Sto.row7 (h : Sto W base X fo) (hk : ∀ (i : Nat) (k : List UInt8), X.ks[i]? = some k → X.ko i ≤ (X.pss.getD (2 * X.V + 2 + i) []).length) (hl : ∀ i, i < X.ks.length → (X.pss.getD (2 * X.V + 2 + i) []).length ≤ X.tk) (k : List UInt8) :
    ∃ A c ps d, Row7 X k A c ps d ∧ mapVal X k = cutv (.slice A ps.length c) d ∧ W.ownsRow base 74 1 (.slice A ps.length c) ps.length (ptrs7 ps) ∧ d ≤ ps.length ∧ ps.length ≤ X.tk := by
  unfold mapVal Row7
  cases hf : X.ks.findIdx? (· = k) with
  | none => exact ⟨none, 0, [], 0, .inr ⟨rfl, rfl, rfl, rfl, rfl⟩, rfl, World.ownsRow_nil _ _ _ _, Nat.le_refl _, Nat.zero_le _⟩
  | some j =>
    obtain ⟨h1, h2⟩ := find_key hf
    have hnum := h.num.1
    obtain ⟨Aj, cj, hvj, hoj⟩ := h.pil.each (2 * X.V + 2 + j) (by omega)
    exact ⟨Aj, cj, X.pss.getD (2 * X.V + 2 + j) [], X.ko j, .inl ⟨j, rfl, hvj, rfl, rfl⟩, by dsimp only; rw [hvj], hoj, hk j k h2, hl j h1⟩
theorem Sto.keyput {w8 wa w3 : World} {q c0 d0 : Nat} {x : CX} {L : List Int} {v6 v' : Value} {k : List UInt8} {A0 : Option Addr} {ps0 : List Nat} (h : Sto w8 base (X.listed q x v6) fo) (hrow : Row7 (X.listed q x v6) k A0 c0 ps0 d0) (hown : w8.ownsRow base 74 1 (.slice A0 ps0.length c0) ps0.length (ptrs7 ps0))
    (hk : k = keyOf L) (hkl : k.length ≤ 1000000000) (htk : X.tk ≤ 1000000) (hps : ps0.length ≤ X.tk) (hb : Below w8.heap.size w8 wa) (hc : Cut7 wa w3 base (.slice A0 ps0.length c0) ps0 d0 q v') (hnum : X.pss.length = 2 * X.V + 2 + X.ks.length) :
    ∃ w4, (Instr.mapUpdate 64 (.map (some X.m)) (.string ⟨k.toArray⟩) v').run Tryd.prog w3 = .ok () w4 ∧ ∃ X2, Sto w4 base X2 fo ∧ Half7 X X2 q x L ∧ Tn base (X.listed q x v6) w8 w4 := by
  obtain ⟨A', c', ps', d', rfl, e1, e2, e3, e4, ho3, hg3, hat3⟩ := hc
  obtain ⟨D, n, hm, hn, hM⟩ := h.map
  have hn' : n ≤ X.tk := hn
  have hma : wa.ownsMap Tryd.prog 9 heldE X.m n D := by
    obtain ⟨es, clock, m1, m2⟩ := hm
    exact ⟨es, clock, (hb.block _ (Array.getElem?_eq_some_iff.1 m1).1).trans m1, m2⟩
  have hm3 : w3.ownsMap Tryd.prog 9 heldE X.m n D := hma.kept hg3 (own_map_ne7 hown hm)
  obtain ⟨w4, hrun, hm4, hg4⟩ := hm3.update mapLaw7 Tryd.underlying64 (by unfold maxLen; omega) (mapKey7 (k := k) (by unfold maxLen; omega)) (show heldE (cutv (.slice A' ps'.length c') d') = some (.held (cutv (.slice A' ps'.length c') d'), []) from rfl)
  refine ⟨w4, hrun, ?_⟩
  have hlen := h.pil.len
  have hl1 : (X.listed q x v6).vs.length = X.pss.length := by
    rw [hlen]
    show (X.pss.set _ _).length = _
    simp
  rcases hrow with ⟨j, hf, hv0, hp0, hd0⟩ | ⟨hf, rfl, rfl, rfl, rfl⟩
  · obtain ⟨k1, k2⟩ := find_key hf
    have k1' : j < X.ks.length := k1
    have hv : (X.listed q x v6).V = X.V := rfl
    obtain ⟨p1, p2⟩ := h.keyed_old (j := j) (d := d') (A := A') (c := c') (ps := ps') (n := n + 1) hf hb (by rw [hv0]; exact hg3) ho3 (by rw [hv0]; exact hat3) (by show n + 1 ≤ X.tk + 1; omega) hm4 (hM.put_old hf (by rw [hv, hl1]; omega)) ⟨_, _, hm3⟩ hg4
    have hp9 : (X.listed q x v6).pss.getD (2 * X.V + 2 + j) [] = X.pss.getD (2 * X.V + 2 + j) [] := getD_set_other (by omega) _
    have hp0' : ps0 = X.pss.getD (2 * X.V + 2 + j) [] := hp0.trans hp9
    have hd0' : d0 = X.ko j := hd0
    refine ⟨_, p1, half_old hnum (by rw [← hk]; exact hf) ?_ e2 (by omega), p2⟩
    rw [e1, hp0', hd0']
  · obtain rfl : d' = 0 := e4 rfl
    obtain rfl : ps' = [q] := by simpa using e1
    rw [cutv_zero] at hm4
    subst hk
    obtain ⟨p1, p2⟩ := h.keyed_new (k := keyOf L) (A := A') (c := c') (ps := [q]) hf hb hg3 ho3 (fun g hg => by
      rcases hat3 with e | e
      · rw [e] at hg; simp [Value.ownBlock] at hg
      · have := e g hg; have := hb.size; omega) hn hM hm3 hm4 hg4
    exact ⟨_, p1, half_new hnum hf, p2⟩
end
/-- append to what the map has, as one step of a region that draws -/
theorem step_cut7 {P : Program} {ops : Array Oper} {o : Oper} {a : Act} {w : World} {K : Act → World → Prop} {Q : Exit → Act → World → Prop} {E : Prop}
    (hg : o.guard = none) (s x : Operand) (t : TypeId) (hop : o.op = Op.call { callee := Callee.builtin Builtin.append, args := #[s, x], argTypes := #[t, t] })
    (v y : Value) (hs : a.eval s = v) (hx : a.eval x = y) (C : World → Value → Prop) (hrun : ∃ v' w', (Builtin.append_ #[t, t] o.type #[v, y]).run P w = .ok v' w' ∧ C w' v')
    (hK : ∀ v' w', C w' v' → K (a.put o.dst v') w') :
    if Region.wanted o (yielded ops a.tmps) = true then Oper.wp P o a w K Q else E := by
  have hw : Region.wanted o (yielded ops a.tmps) = true := by simp [Region.wanted, hg]
  rw [if_pos hw]
  obtain ⟨v', w', hrun, h2⟩ := hrun
  unfold Oper.wp
  simp [execOp, hop, resolve, invoke, builtin, hs, hx, hrun, Result.andThen]
  exact hK v' w' h2
end Go.Proofs.YtlkgicaajenhaaaDoor

namespace Go.Proofs.YtlkgicaajenhaaaDoor
open Go.RowKit
set_option linter.unusedVariables false
set_option linter.unusedSimpArgs false

theorem key_short {L : List Int} (hn : L.length ≤ 1000000) (hL : ∀ x, x ∈ L → -1000000 ≤ x ∧ x ≤ 1000000) : (keyOf (normOf L)).length ≤ 1000000000 := by
  have h1 := keyOf_len (normOf L) fun x hx => hL x (mem_normOf.1 hx)
  have h2 := norm_len L
  omega
set_option maxRecDepth 100000 in
set_option maxHeartbeats 1000000 in
theorem has_any7 {W : World} {base c B : Nat} {X : SX} {fo : List Bool} {L : List Int} {A : Option Addr} (h : Rest7 W base X fo) (hA : Ints W B A L) (hB : B ≤ W.heap.size) (hn : L.length ≤ 1000000) (hL : ∀ x, x ∈ L → -1000000 ≤ x ∧ x ≤ 1000000) (hT : Tab7 W) :
    Calls Tryd.prog 21 #[.pointer (some ⟨X.s, 0, none⟩), .slice A L.length c] W fun e W' => e = .returned (.bool (decide (normOf L ∈ X.cs))) ∧ Below W.heap.size W W' := by
  have hvb := h.sto.vb
  have hks := key_short hn hL
  have hmem : 0 < (keyed7 X (keyOf (normOf L))).length ↔ normOf L ∈ X.cs := mem_keyed7
  have hkn : (keyed7 X (keyOf (normOf L))).length ≤ 1000000000 := by
    have h1 := List.length_filter_le (fun p => decide (keyOf (X.C p).lits = keyOf (normOf L))) X.live
    have h2 := List.length_filter_le (fun p => !(X.C p).gone) X.ps
    have h3 := h.wf.plen
    unfold keyed7 SX.live at *
    omega
  obtain ⟨Am, cm, hmv, hmc, -⟩ := h.row (keyOf (normOf L))
  obtain ⟨n, hnn⟩ : ∃ n, n = (keyed7 X (keyOf (normOf L))).length := ⟨_, rfl⟩
  rw [← hnn] at hmv hmc hmem hkn
  have KE : Hid (∀ w', Below W.heap.size W w' → w'.cell? ⟨X.s, 6, none⟩ = some (.map (some X.m)) ∧ (Instr.lookup 64 (.map (some X.m)) (.string ⟨(keyOf (normOf L)).toArray⟩) false).run Tryd.prog w' = .ok (.slice Am n cm) w') := Lib.hid fun w' h' =>
    ⟨(h.below h').sto.st.cell 6, by rw [(h.below h').sto.look (by unfold maxLen; omega), hmv]⟩
  have HS0 := Lib.hid (KE.out W.drew (Below.refl _ _).drew)
  have HNC := Lib.hid (fun w' (h' : Below W.heap.size W w') => norm_clause_of (fun p cap fv w => Tryd.slices_SortFunc_none (α := Int) p cap fv w) L B A c w' ⟨by omega, hL⟩ (Cells.below hA (h'.mono hB)) (Nat.le_trans hB h'.size))
  have HT := Lib.hid hT
  have HLL := Lib.hid hL
  have HM := Lib.hid hmem
  clear h hA hL hT hmv hnn hmem hks
  go_enter Tryd.func21, Tryd.ntmps21
  go_wp2
  go_region_held3 (fun w' => w'.cell? ⟨X.s, 6, none⟩ = some (.map (some X.m)) ∧ (Instr.lookup 64 (.map (some X.m)) (.string ⟨(keyOf (normOf L)).toArray⟩) false).run Tryd.prog w' = .ok (.slice Am n cm) w') (first | exact KK.out | exact HS0.out | go_keep)
    (first | (go_at_call 37; refine (HNC.out W.drew (Below.refl _ _).drew).mono ?_; rintro e4 w4 ⟨A4, c4, rfl, hown4, hb4'⟩; have HB4 := Lib.hid (below_undrew hb4'); have KK := Lib.hid (KE.out w4 HB4.out); have HKY := Lib.hid (key_any07 (normOf L) w4.heap.size A4 c4 w4 (by have := norm_len L; omega) (fun x hx => HLL.out x (mem_normOf.1 hx)) (ints_of_own hown4) (Nat.le_refl _) (HT.out.same HB4.out)); clear hown4 hb4')
           | (go_at_call 36; refine HKY.out.mono ?_; rintro e5 w5 ⟨rfl, hb5⟩; have HB5 := Lib.hid (HB4.out.trans (hb5.mono HB4.out.size)); have KK := Lib.hid (KE.out w5 HB5.out); clear hb5))
  go_wp2
  go_ret
  refine ⟨?_, HB5.out⟩
  show Ending.returned (Value.bool (decide (0 < n))) = Ending.returned (Value.bool (decide (normOf L ∈ X.cs)))
  rw [decide_eq_decide.2 HM.out]
set_option maxRecDepth 100000 in
theorem len_any7 {W : World} {base : Nat} {X : SX} {fo : List Bool} (h : Rest7 W base X fo) :
    Calls Tryd.prog 24 #[.pointer (some ⟨X.s, 0, none⟩)] W fun e W' => e = .returned (.int .i64 X.cs.length) ∧ ∃ q, W' = W.drewN q := by
  have hps := h.wf.plen
  have hng := h.shelf.ng
  have hcs : X.cs.length = X.live.length := by simp [SX.cs]
  have hnum := h.sto.num.1
  obtain ⟨Aa, ca, hva, hoa⟩ := h.sto.pil.each (2 * X.V) (by omega)
  have hal : (X.pss.getD (2 * X.V) []).length = X.ps.length := by rw [h.shelf.all]
  have s3 : W.cell? ⟨X.s, 3, none⟩ = some (.slice Aa X.ps.length ca) := by rw [← hal, ← hva]; exact h.sto.st.cell 3
  have s2 : W.cell? ⟨X.s, 2, none⟩ = some (.int .i64 X.ng) := h.sto.st.cell 2
  obtain ⟨n, hn⟩ : ∃ n, n = X.ps.length := ⟨_, rfl⟩
  obtain ⟨m, hm⟩ : ∃ m, m = X.ng := ⟨_, rfl⟩
  obtain ⟨k, hk⟩ : ∃ k, k = X.live.length := ⟨_, rfl⟩
  rw [hcs]
  rw [← hn] at s3 hps hng
  rw [← hm] at s2 hng
  rw [← hk] at hng ⊢
  have hw : IntKind.i64.wrap ((n : Int) - (m : Int)) = (k : Int) := by rw [IntWalk.i64_in _ (by omega)]; omega
  clear h hcs hnum hva hoa hal hn hm hk
  go_enter Tryd.func24, Tryd.ntmps24
  go_wp2
  go_quiet (fail)
  go_wp2
  go_ret
  exact ⟨rfl, _, rfl⟩
end Go.Proofs.YtlkgicaajenhaaaDoor
