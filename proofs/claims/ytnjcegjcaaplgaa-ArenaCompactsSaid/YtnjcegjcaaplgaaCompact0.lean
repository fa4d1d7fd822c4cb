/- Compact: what is so while it goes on. -/
import Derived.Test.YtnjcegjcaaplgaaAll
import Derived.Test.YtnjcegjcaaplgaaCompactMath
import Derived.Test.YtnjcegjcaaplgaaRegionLast
import Derived.Laws.CopyOwn
import Derived.Maps.OwnIn
namespace Go.Proofs.Ytnjcegjcaaplgaa
open Go.RowKit Go.Shelf
attribute [local go_sem] Oper.semAt_some
set_option linter.unusedVariables false

theorem run_makeMap_hint {P : Program} {t k e : TypeId} (ht : P.underlying t = some (.map k e)) (x : Int) (w : World) : (Instr.makeMap t (some (.int .i64 x))).run P w = .ok (.map (some w.heap.size)) (w.alloc (.map #[] 0)) := by
  simp [Instr.makeMap, run_underlying ht, asInt, asIntOf, Result.andThen]
theorem zeroInt (w : World) : (zeroValue 3).run Try.prog w = .ok (.int .i64 0) w := by kernel_rfl

/-- the map from old to new places, as far as it has been filled -/
def Moved (W : World) (bm : Nat) (pre : List Cl) : Prop :=
  ∃ (D : DataW Unit) (n : Nat), W.ownsMap Try.prog 3 (plainElem (H := Unit) Try.prog 3) bm n D ∧ (∀ x : Int, Maps.has D (.int .i64 x) = (at? pre x).isSome) ∧
    (∀ (x y : Int) (z : DataW Unit), movedFrom 0 pre x = some y → D.atKey (.int .i64 x) z = .lit (.int .i64 y)) ∧ Maps.size D = countOf pre ∧ n ≤ pre.length

theorem Moved.put {W W' : World} {bm : Nat} {pre : List Cl} {cl : Cl} (ha : cl.alive = true) {D : DataW Unit} {n : Nat} (hm : W.ownsMap Try.prog 3 (plainElem (H := Unit) Try.prog 3) bm n D)
    (h1 : ∀ x : Int, Maps.has D (.int .i64 x) = (at? pre x).isSome) (h2 : ∀ (x y : Int) (z : DataW Unit), movedFrom 0 pre x = some y → D.atKey (.int .i64 x) z = .lit (.int .i64 y)) (h3 : Maps.size D = countOf pre) (h4 : n ≤ pre.length)
    (hm' : W'.ownsMap Try.prog 3 (plainElem (H := Unit) Try.prog 3) bm (n + 1) (D.put (.int .i64 (total pre)) (.lit (.int .i64 (total (live pre)))))) : Moved W' bm (pre ++ [cl]) := by
  have hk : WideAt.IsKeyLit (.int .i64 (total pre : Nat)) := trivial
  refine ⟨_, _, hm', fun x => ?_, fun x y z hy => ?_, ?_, by simp; omega⟩
  · rw [at?_snoc _ _ ha]
    by_cases hx : x = total pre
    · rw [if_pos hx, hx, Maps.has_put_same hm.isMap hk]; rfl
    · rw [if_neg hx, Maps.has_put_other (by intro e; injection e with _ e; exact hx e), h1]
  · rw [moved_snoc, if_pos ha] at hy
    by_cases hx : x = total pre
    · rw [if_pos hx] at hy
      injection hy with hy
      rw [hx, Maps.atKey_put_same hm.isMap hk, hy]
    · rw [if_neg hx] at hy
      rw [Maps.atKey_put_other (by intro e; injection e with _ e; exact hx e)]
      exact h2 x y z hy
  · rw [countOf_snoc _ _ ha, Maps.size_put (hm.tidy intLaw), h1, at?_end_none, h3]; simp

/-- how far the clauses have been moved -/
structure CI (w0 : World) (base g b T c : Nat) (A : Option Addr) (lim : Int) (cs pre post : List Cl) (W : World) : Prop where
  ba : Blk W w0.heap.size 25 #[.pointer (some ⟨g, 0, none⟩)]
  bm : Blk W (w0.heap.size + 2) 45 #[.map (some (w0.heap.size + 1))]
  be : Blk W (w0.heap.size + 3) 3 #[.int .i64 (total (live pre) : Nat)]
  bc : Blk W (w0.heap.size + 4) 25 #[.pointer (some ⟨g, 0, none⟩)]
  bg : Blk W g 53 #[.slice A T c, .int .i64 lim, .map (some b)]
  row : ∃ ws : List Int, W.ownsRow base 3 1 (.slice A T c) T (ws.map (Value.int .i64)) ∧ ws.take (total (live pre)) = wordsOf (live pre) ∧ ws.drop (total pre) = wordsOf post
  ex : There W b cs
  mv : Moved W (w0.heap.size + 1) pre
  tn : Turn w0 W g b (Value.slice A T c).ownBlock
  hg : g < w0.heap.size
  hb : b < w0.heap.size
  hw : ∀ k, (Value.slice A T c).ownBlock = some k → k < w0.heap.size
  hc : cs = pre ++ post

section
variable {w0 W W' : World} {base g b T c : Nat} {A : Option Addr} {lim : Int} {cs pre post : List Cl}
theorem CI.below {B : Nat} (h : CI w0 base g b T c A lim cs pre post W) (hb : Below B W W') (hB : w0.heap.size + 5 ≤ B) : CI w0 base g b T c A lim cs pre post W' := by
  obtain ⟨ws, h1, h2, h3⟩ := h.row
  obtain ⟨D, n, ⟨es, clock, e1, e2⟩, e3⟩ := h.ex
  obtain ⟨D', n', ⟨es', clock', e1', e2'⟩, e3'⟩ := h.mv
  have h4 := h.hg
  have h5 := h.hb
  refine ⟨h.ba.below hb (by omega), h.bm.below hb (by omega), h.be.below hb (by omega), h.bc.below hb (by omega), h.bg.below hb (by omega), ⟨ws, own_below h1 hb fun k hk => by have := h.hw k hk; omega, h2, h3⟩,
    ⟨D, n, ⟨es, clock, (hb.block b (by omega)).trans e1, e2⟩, e3⟩, ⟨D', n', ⟨es', clock', (hb.block _ (by omega)).trans e1', e2'⟩, e3'⟩, ?_, h.hg, h.hb, h.hw, h.hc⟩
  exact ⟨hb.os.trans h.tn.os, hb.tape.trans h.tn.tape, hb.output.trans h.tn.output, Nat.le_trans h.tn.size hb.size, fun k hk h1 h2 h3 => (hb.block k (by omega)).trans (h.tn.block k hk h1 h2 h3)⟩
theorem CI.skip {cl : Cl} (h : CI w0 base g b T c A lim cs pre (cl :: post) W) (hd : cl.alive = false) : CI w0 base g b T c A lim cs (pre ++ [cl]) post W := by
  have e1 : live (pre ++ [cl]) = live pre := by rw [live_append, live_no [] hd]; simp [live]
  obtain ⟨ws, h1, h2, h3⟩ := h.row
  obtain ⟨D, n, d1, d2, d3, d4, d5⟩ := h.mv
  refine ⟨h.ba, h.bm, by rw [e1]; exact h.be, h.bc, h.bg, ⟨ws, h1, by rw [e1]; exact h2, ?_⟩, h.ex, ⟨D, n, d1, fun x => ?_, fun x y z hy => ?_, ?_, by simp; omega⟩, h.tn, h.hg, h.hb, h.hw, by rw [h.hc]; simp⟩
  · rw [total_snoc, ← List.drop_drop, h3, wordsOf_cons, ← Cl.words_length, List.drop_append]
    simp
  · rw [d2, at?_append]
    by_cases hx : x < total pre
    · rw [if_pos hx]
    · rw [if_neg hx, at?_far pre x (by omega)]
      have : at? [cl] (x - total pre) = none := by
        rw [at?, hd]
        by_cases h0 : x - (total pre : Int) = 0
        · rw [if_pos h0]; rfl
        · rw [if_neg h0]; rfl
      rw [this]
  · rw [moved_snoc, hd] at hy
    by_cases hx : x = total pre
    · rw [if_pos hx] at hy; cases hy
    · rw [if_neg hx] at hy; exact d3 x y z hy
  · rw [d4]; unfold countOf; rw [List.filter_append]; simp [hd]
theorem CI.hasAt (h : CI w0 base g b T c A lim cs pre post W) : HasAt W g b (fun x => (at? cs x).isSome) := by
  obtain ⟨D, n, hm, hh, _, _⟩ := h.ex
  have c2 := h.bg.cell 2
  simp at c2
  exact ⟨c2, D, n, hm, hh⟩
/-- whether the next clause is there -/
theorem CI.next_alive {cl : Cl} (h : CI w0 base g b T c A lim cs pre (cl :: post) W) {al : Int → Bool} (ha : HasAt W g b al) : al (startOf cs pre.length) = cl.alive := by
  have e := ha.uniq h.hasAt
  rw [e, h.hc, startOf_mid]
  show (at? (pre ++ cl :: post) (total pre)).isSome = cl.alive
  rw [at?_mid]
  cases cl.alive <;> rfl
end

/-- one row of a world turned, and nothing else -/
structure RowSet (w w' : World) (g : Nat) : Prop where
  os : w'.os = w.os
  tape : w'.tape = w.tape
  output : w'.output = w.output
  size : w'.heap.size = w.heap.size
  other : ∀ k, k ≠ g → w'.heap[k]? = w.heap[k]?
theorem RowSet.blk {w w' : World} {g k : Nat} {t : TypeId} {xs : Array Value} (h : RowSet w w' g) (hb : Blk w k t xs) (hk : k ≠ g) : Blk w' k t xs := (h.other k hk).trans hb

theorem step_copy_here {P : Program} {ops : Array Oper} {o : Oper} {a : Act} {w : World} {K : Act → World → Prop} {Q : Exit → Act → World → Prop} {E : Prop} (hgd : o.guard = none) (d s : Operand) (dT sT : TypeId)
    (ho : o.op = .call { callee := .builtin .copy, args := #[d, s], argTypes := #[dT, sT] }) (elem : TypeId) (hu : P.underlying dT = some (.slice elem)) (hsz : (P.info? elem).map (·.size) = some 1)
    (g off : Nat) (ad : Addr) (dLen dCap sLen sCap : Nat) (hd : a.eval d = .slice (some ⟨g, off, none⟩) dLen dCap) (hs : a.eval s = .slice (some ad) sLen sCap)
    (cur : Array Value) (t : TypeId) (hg : w.heap[g]? = some (.cells cur t (0, 0))) (cs : List Value) (hn : cs.length = Nat.min sLen dLen)
    (hsrc : ∀ j v, cs[j]? = some v → w.cell? (ad.add j) = some v) (hfit : off + cs.length ≤ cur.size) (h1 : ∀ v ∈ cs, v.oneCell' = true)
    (h : ∀ w', Hid (w'.heap[g]? = some (.cells (cur.toList.take off ++ cs ++ cur.toList.drop (off + cs.length)).toArray t (0, 0))) → RowSet w w' g → K (a.put o.dst (goInt cs.length)) w') :
    if Region.wanted o (yielded ops a.tmps) = true then Oper.wp P o a w K Q else E := by
  have hw : Region.wanted o (yielded ops a.tmps) = true := by simp [Region.wanted, hgd]
  rw [if_pos hw]
  have hrun := run_copy_row (P := P) w dT sT o.type elem g off dLen dCap ad sLen sCap cur t cs hu hsz hg hn hsrc hfit h1
  unfold Oper.wp
  simp [execOp, ho, resolve, invoke, builtin, hd, hs, hrun, Result.andThen]
  exact h _ (show _ = _ by simpa using setRow_heap w g _ _ t _ hg) ⟨rfl, rfl, rfl, by simp [World.setRow], fun k hk => setRow_other w g k _ hk⟩

theorem splice_take {α : Type} (cur cs : List α) (e T : Nat) (h : e + cs.length ≤ T) (hT : T ≤ cur.length) :
    (cur.take e ++ cs ++ cur.drop (e + cs.length)).take T = (cur.take T).take e ++ (cs ++ (cur.take T).drop (e + cs.length)) := by
  have h1 : (cur.take e).length = e := by rw [List.length_take]; omega
  rw [List.append_assoc, List.take_append, h1, List.take_append, List.drop_take, List.take_of_length_le (by omega : (cur.take e).length ≤ T), List.take_of_length_le (by omega : cs.length ≤ T - e), Nat.sub_sub, List.take_take, Nat.min_eq_left (by omega)]

/-- a clause moved down -/
theorem CI.put {w0 W W' : World} {base g b T c gg : Nat} {lim : Int} {cs pre post : List Cl} {cl : Cl} (h : CI w0 base g b T c (some ⟨gg, 0, none⟩) lim cs pre (cl :: post) W) (ha : cl.alive = true) (hT : T = total cs)
    (hother : ∀ k, k < W.heap.size → k ≠ gg → k ≠ w0.heap.size + 1 → k ≠ w0.heap.size + 3 → W'.heap[k]? = W.heap[k]?) (hos : W'.os = W.os) (htp : W'.tape = W.tape) (hou : W'.output = W.output) (hsz : W.heap.size ≤ W'.heap.size)
    (hbe : Blk W' (w0.heap.size + 3) 3 #[.int .i64 (total (live pre) + cl.size : Nat)])
    (hrow : ∀ cur : Array Value, W.heap[gg]? = some (.cells cur 3 (0, 0)) → W'.heap[gg]? = some (.cells (cur.toList.take (total (live pre)) ++ cl.words.map (Value.int .i64) ++ cur.toList.drop (total (live pre) + (cl.words.map (Value.int .i64)).length)).toArray 3 (0, 0)))
    (hmv : Moved W' (w0.heap.size + 1) (pre ++ [cl])) : CI w0 base g b T c (some ⟨gg, 0, none⟩) lim cs (pre ++ [cl]) post W' := by
  have hgl := h.hg
  have hbl := h.hb
  have hgw : gg < w0.heap.size := h.hw gg rfl
  have hWs := h.tn.size
  obtain ⟨ws, r1, r2, r3⟩ := h.row
  have hown := r1
  obtain ⟨r0, r4⟩ := r1
  rcases r4 with ⟨hv, _⟩ | ⟨g', cap', cur, hv, hb', hg', hnc, hmx, hcs, htk⟩
  · cases hv
  injection hv with hA _ hC
  injection hA with hA
  injection hA with hA
  subst hA hC
  have hne : ∀ (k : Nat) (t : TypeId) (xs : Array Value), t ≠ 3 → Blk W k t xs → k ≠ gg := by
    rintro k t xs hk hb rfl
    unfold Blk at hb
    rw [hg'] at hb
    injection hb with hb
    injection hb with _ hb
    exact hk hb.symm
  have e1 : live (pre ++ [cl]) = live pre ++ [cl] := by rw [live_append, live_yes [] ha]; rfl
  have hle := total_live_le pre
  have hsl := size_le_total pre post cl
  rw [← h.hc, ← hT] at hsl
  have keep : ∀ (k : Nat) (t : TypeId) (xs : Array Value), t ≠ 3 → k ≠ w0.heap.size + 1 → k ≠ w0.heap.size + 3 → Blk W k t xs → Blk W' k t xs := fun k t xs ht h1 h3 hb => (hother k hb.lt (hne k t xs ht hb) h1 h3).trans hb
  refine ⟨keep _ _ _ (by decide) (by omega) (by omega) h.ba, keep _ _ _ (by decide) (by omega) (by omega) h.bm, ?_, keep _ _ _ (by decide) (by omega) (by omega) h.bc, keep _ _ _ (by decide) (by omega) (by omega) h.bg, ?_, ?_, hmv, ?_, h.hg, h.hb, h.hw, by rw [h.hc]; simp⟩
  · rw [e1, total_snoc]; exact hbe
  · have hwl : cl.words.length = cl.size := cl.words_length
    have hcl : cur.size = c := by omega
    have hcl2 : cur.toList.length = c := by rw [Array.length_toList]; exact hcl
    obtain ⟨q1, q2⟩ := copy_words (post := post) ha r2 r3
    have hwsl : ws.length = T := by simpa using r0
    refine ⟨_, ⟨?_, .inr ⟨gg, c, _, rfl, hb', hrow cur hg', hnc, hmx, ?_, ?_⟩⟩, q1, q2⟩
    · simp [hwsl, hwl]; omega
    · simp [hcl2, hwl]; omega
    · rw [Nat.mul_one] at htk ⊢
      have := splice_take cur.toList (cl.words.map (Value.int .i64)) (total (live pre)) T (by rw [List.length_map, hwl]; omega) (by omega)
      rw [this, htk]
      simp [hwl, List.map_take, List.map_drop]
  · obtain ⟨D, n, ⟨es, clock, x1, x2⟩, x3⟩ := h.ex
    refine ⟨D, n, ⟨es, clock, (hother b ?_ ?_ (by omega) (by omega)).trans x1, x2⟩, x3⟩
    · omega
    · rintro rfl
      rw [hg'] at x1
      cases x1
  · refine ⟨hos.trans h.tn.os, htp.trans h.tn.tape, hou.trans h.tn.output, Nat.le_trans h.tn.size hsz, fun k hk h1 h2 h3 => (hother k (by omega) ?_ (by omega) (by omega)).trans (h.tn.block k hk h1 h2 h3)⟩
    rintro rfl
    exact h3 rfl

theorem CI.round {w0 W w1 w2 : World} {base g b T c gg n : Nat} {lim : Int} {cs pre post : List Cl} {cl : Cl} {D : DataW Unit} {cur : Array Value} (h : CI w0 base g b T c (some ⟨gg, 0, none⟩) lim cs pre (cl :: post) W) (ha : cl.alive = true) (hT : T = total cs)
    (hd : W.ownsMap Try.prog 3 (plainElem (H := Unit) Try.prog 3) (w0.heap.size + 1) n D)
    (hdd : (∀ x : Int, Maps.has D (.int .i64 x) = (at? pre x).isSome) ∧ (∀ (x y : Int) (z : DataW Unit), movedFrom 0 pre x = some y → D.atKey (.int .i64 x) z = .lit (.int .i64 y)) ∧ Maps.size D = countOf pre ∧ n ≤ pre.length)
    (hm : w1.ownsMap Try.prog 3 (plainElem (H := Unit) Try.prog 3) (w0.heap.size + 1) (n + 1) (D.put (.int .i64 (total pre)) (.lit (.int .i64 (total (live pre))))))
    (hg1 : W.grownBy w1 (some (w0.heap.size + 1))) (hrs : RowSet w1.drew w2 gg) (hcur : W.heap[gg]? = some (.cells cur 3 (0, 0)))
    (hg2 : w2.heap[gg]? = some (.cells (cur.toList.take (total (live pre)) ++ cl.words.map (Value.int .i64) ++ cur.toList.drop (total (live pre) + (cl.words.map (Value.int .i64)).length)).toArray 3 (0, 0)))
    (hb2 : Blk w2 (w0.heap.size + 3) 3 #[.int .i64 (total (live pre) : Nat)]) :
    KeptUp (w0.heap.size + 5) W (w2.setCell ⟨w0.heap.size + 3, 0, none⟩ (.int .i64 ((total (live pre) : Int) + cl.size))) ∧
      CI w0 base g b T c (some ⟨gg, 0, none⟩) lim cs (pre ++ [cl]) post (w2.setCell ⟨w0.heap.size + 3, 0, none⟩ (.int .i64 ((total (live pre) : Int) + cl.size))) := by
  have hgw : gg < w0.heap.size := h.hw gg rfl
  have hsz : W.heap.size ≤ w2.heap.size := by rw [hrs.size]; exact hg1.size
  have hoth : ∀ k, k < W.heap.size → k ≠ gg → k ≠ w0.heap.size + 1 → k ≠ w0.heap.size + 3 → (w2.setCell ⟨w0.heap.size + 3, 0, none⟩ (.int .i64 ((total (live pre) : Int) + cl.size))).heap[k]? = W.heap[k]? := fun k hk h1 h2 h3 =>
    (Below.heap_setCell w2 _ _ k h3).trans ((hrs.other k h1).trans (hg1.block k hk (by intro e; injection e with e; exact h2 e)))
  refine ⟨⟨by simpa using hsz, fun k h1 h2 => hoth k h2 (by omega) (by omega) (by omega)⟩, ?_⟩
  refine h.put ha hT hoth (hrs.os.trans hg1.os) (hrs.tape.trans hg1.tape) (hrs.output.trans hg1.output) (by simpa using hsz) ?_ ?_ ?_
  · have := hb2.set_ 0 (.int .i64 ((total (live pre) : Int) + cl.size))
    rw [Int.natCast_add]
    simpa using this
  · intro cur' hc
    rw [hcur] at hc
    injection hc with hc
    injection hc with hc
    subst hc
    exact (Below.heap_setCell w2 _ _ gg (show gg ≠ w0.heap.size + 3 by omega)).trans hg2
  · obtain ⟨d2, d3, d4, d5⟩ := hdd
    refine Moved.put ha hd d2 d3 d4 d5 ?_
    obtain ⟨es, clock, x1, x2⟩ := hm
    exact ⟨es, clock, (Below.heap_setCell w2 _ _ (w0.heap.size + 1) (show w0.heap.size + 1 ≠ w0.heap.size + 3 by omega)).trans ((hrs.other _ (by omega)).trans x1), x2⟩

theorem slice_ends {w : World} {base e T c : Nat} {A : Option Addr} {P : List Int → Prop} (h : ∃ ws : List Int, w.ownsRow base e 1 (.slice A T c) T (ws.map (Value.int .i64)) ∧ P ws) : T ≤ c ∧ c ≤ 9223372036854775807 ∧ ((A = none ∧ c = 0) ∨ ∃ gg, A = some ⟨gg, 0, none⟩) := by
  obtain ⟨ws, h, _⟩ := h
  rcases h.2 with ⟨hv, h0⟩ | ⟨g', cap', cur, hv, hb', hg', hnc, hmx, _⟩
  · injection hv with h1 h2 h3
    exact ⟨by omega, by omega, .inl ⟨h1, h3⟩⟩
  · injection hv with h1 h2 h3
    subst h1 h3
    unfold maxLen at hmx
    exact ⟨hnc, by omega, .inr ⟨g', rfl⟩⟩
theorem own_cur {w : World} {base e gg T c : Nat} {xs : List Value} (h : w.ownsRow base e 1 (.slice (some ⟨gg, 0, none⟩) T c) T xs) : ∃ cur : Array Value, cur.size = c ∧ w.heap[gg]? = some (.cells cur e (0, 0)) ∧ cur.toList.take T = xs := by
  rcases h.2 with ⟨hv, _⟩ | ⟨g', cap', cur, hv, hb', hg', hnc, hmx, hcs, htk⟩
  · cases hv
  injection hv with hA _ hC
  injection hA with hA
  injection hA with hA
  subst hA hC
  exact ⟨cur, by omega, hg', by rw [← htk, Nat.mul_one]⟩
theorem cur_word {cur : Array Value} {T p : Nat} {ws : List Int} {cl : Cl} {post : List Cl} (h : cur.toList.take T = ws.map (Value.int .i64)) (h3 : ws.drop p = wordsOf (cl :: post)) (hT : p + cl.size ≤ T) (j : Nat) (hj : j < cl.size) :
    cur[p + j]? = some (.int .i64 (cl.words.getD j 0)) := by
  have hwl := cl.words_length
  have e1 : (cur.toList.take T)[p + j]? = cur[p + j]? := by rw [List.getElem?_take, if_pos (by omega), Array.getElem?_toList]
  rw [← e1, h, List.getElem?_map]
  have e2 : ws[p + j]? = (ws.drop p)[j]? := by rw [List.getElem?_drop]
  rw [e2, h3, wordsOf_cons, List.getElem?_append_left (by omega), List.getD_eq_getElem?_getD]
  rw [List.getElem?_eq_getElem (by omega)]
  rfl
theorem words_src {w : World} {gg p : Nat} {cl : Cl} (h : ∀ j, j < cl.size → w.cell? ⟨gg, p + j, none⟩ = some (.int .i64 (cl.words.getD j 0))) {j : Nat} {v : Value} (hv : (cl.words.map (Value.int .i64))[j]? = some v) : w.cell? (Addr.add ⟨gg, p, none⟩ j) = some v := by
  have hwl := cl.words_length
  obtain ⟨hj, hv⟩ := List.getElem?_eq_some_iff.1 hv
  rw [List.length_map] at hj
  rw [Addr.add_lit, h j (by omega), ← hv, List.getElem_map, List.getD_eq_getElem?_getD, List.getElem?_eq_getElem hj]
  rfl

set_option maxRecDepth 100000 in
set_option maxHeartbeats 1000000 in
theorem next_raw {w : World} {g gg T c p : Nat} {hd : Int} (c0 : w.cell? ⟨g, 0, none⟩ = some (.slice (some ⟨gg, 0, none⟩) T c)) (hc : w.cell? ⟨gg, p, none⟩ = some (.int .i64 hd)) (hlt : p < T) (ht : T ≤ 1099511627776) (hb1 : 0 ≤ hd) (hb3 : hd ≤ 2199023255553) :
    Calls Try.prog 28 #[.pointer (some ⟨g, 0, none⟩), .int .i64 p] w fun e w' => e = .returned (.int .i64 (p + 3 + hd / 2)) ∧ w = w' := by
  go_enter Try.func28, Try.ntmps28
  go_wp2
  go_ret
  refine ⟨congrArg (fun z => Ending.returned (.int .i64 z)) ?_, rfl⟩
  omega
end Go.Proofs.Ytnjcegjcaaplgaa
