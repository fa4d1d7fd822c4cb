/- A list of marks gone through: what its rows need. What the propagator's own calls do: visit. -/
import Derived.Test.YtbejjddkndcldaaWat4
import Derived.Test.YtbejjddkndcldaaWatMathA
import Derived.Deep.CutRange
namespace Go.Proofs.Ytbejjddkndcldaa
open Go.RowKit
set_option linter.unusedVariables false
set_option linter.unusedSimpArgs false

theorem run_frontM {P : Program} {t e : TypeId} (ht : P.underlying t = some (.slice e)) (w : World) (hz : (sizeOf e).run P w = .ok 3 w) (b off n c k : Nat) (hk : k ≤ c) : (Instr.slice t (.slice (some ⟨b, off, none⟩) n c) none (some (.int .i64 k)) none).run P w = .ok (.slice (some ⟨b, off, none⟩) k c) w := by
  have h1 : (0 : Int) ≤ (k : Int) := Int.natCast_nonneg _
  have h2 : (k : Int) ≤ (c : Int) := by omega
  simp [Instr.slice, run_underlying ht, Instr.sliceBounds, go_sem, h1, h2, hz, Result.andThen]
theorem run_backM {P : Program} {t e : TypeId} (ht : P.underlying t = some (.slice e)) (w : World) (hz : (sizeOf e).run P w = .ok 3 w) (b off n c k : Nat) (hk : k ≤ n) (hn : n ≤ c) (hkc : k < c) : (Instr.slice t (.slice (some ⟨b, off, none⟩) n c) (some (.int .i64 k)) none none).run P w = .ok (.slice (some ⟨b, off + k * 3, none⟩) (n - k) (c - k)) w := by
  have h1 : (0 : Int) ≤ (k : Int) := Int.natCast_nonneg _
  have h2 : (k : Int) ≤ (n : Int) := by omega
  have h3 : (n : Int) ≤ (c : Int) := by omega
  have h4 : ¬ c = k := by omega
  simp [Instr.slice, run_underlying ht, Instr.sliceBounds, go_sem, h1, h2, h3, hk, hn, hz, Result.andThen, h4]
theorem run_nilM {P : Program} {t e : TypeId} (ht : P.underlying t = some (.slice e)) (w : World) (hz : (sizeOf e).run P w = .ok 3 w) : (Instr.slice t (.slice none 0 0) none (some (.int .i64 0)) none).run P w = .ok (.slice none 0 0) w := by
  simp [Instr.slice, run_underlying ht, Instr.sliceBounds, go_sem, hz, Result.andThen]
theorem szM (w : World) : (sizeOf 106).run Try.prog w = .ok 3 w := by
  obtain ⟨i, hi, _, h1, _⟩ := info_partsM infoMk
  simp [sizeOf, typeInfo, hi, h1, go_sem]
theorem run_copyM {P : Program} (w : World) (dT sT ty elem : TypeId) (g o dLen dCap : Nat) (a : Addr) (sLen sCap : Nat) (cur : Array Value) (t : TypeId) (cs : List Value)
    (hu : P.underlying dT = some (.slice elem)) (hs : (P.info? elem).map (·.size) = some 3)
    (hg : w.heap[g]? = some (.cells cur t (0, 0))) (hn : cs.length = Nat.min sLen dLen * 3)
    (hsrc : ∀ j v, cs[j]? = some v → w.cell? (a.add j) = some v) (hfit : o + cs.length ≤ cur.size) (h1 : ∀ v ∈ cs, v.oneCell' = true) :
    (Builtin.copy_ #[dT, sT] ty #[.slice (some ⟨g, o, none⟩) dLen dCap, .slice (some a) sLen sCap]).run P w =
      .ok (goInt (Nat.min sLen dLen)) (w.setRow g (cur.toList.take o ++ cs ++ cur.toList.drop (o + cs.length)).toArray) := by
  have hl := run_loadCells_list (P := P) w a cs hsrc
  have hst := run_storeCells_at P g o t cs 0 cur w hg (by simpa using hfit) h1
  cases hq : P.info? elem with
  | none => simp [hq] at hs
  | some i =>
    have hi : i.size = 3 := by simpa [hq] using hs
    simp [Builtin.copy_, run_underlying hu, Builtin.lenOf, Builtin.firstCells, sizeOf, typeInfo, hq, hi, ← hn, hl, hst]
theorem step_copyM {P : Program} {ops : Array Oper} {o : Oper} {a : Act} {w : World} {K : Act → World → Prop} {Q : Exit → Act → World → Prop} {E : Prop} (hgd : o.guard = none) (d s : Operand) (dT sT : TypeId)
    (ho : o.op = .call { callee := .builtin .copy, args := #[d, s], argTypes := #[dT, sT] }) (elem : TypeId) (hu : P.underlying dT = some (.slice elem)) (hsz : (P.info? elem).map (·.size) = some 3)
    (g off : Nat) (ad : Addr) (dLen dCap sLen sCap : Nat) (hd : a.eval d = .slice (some ⟨g, off, none⟩) dLen dCap) (hs : a.eval s = .slice (some ad) sLen sCap)
    (cur : Array Value) (t : TypeId) (hg : w.heap[g]? = some (.cells cur t (0, 0))) (cs : List Value) (hn : cs.length = Nat.min sLen dLen * 3)
    (hsrc : ∀ j v, cs[j]? = some v → w.cell? (ad.add j) = some v) (hfit : off + cs.length ≤ cur.size) (h1 : ∀ v ∈ cs, v.oneCell' = true)
    (h : ∀ w', w.grownBy w' (some g) → K (a.put o.dst (goInt (Nat.min sLen dLen))) w') :
    if Region.wanted o (yielded ops a.tmps) = true then Oper.wp P o a w K Q else E := by
  have hw : Region.wanted o (yielded ops a.tmps) = true := by simp [Region.wanted, hgd]
  rw [if_pos hw]
  have hrun := run_copyM (P := P) w dT sT o.type elem g off dLen dCap ad sLen sCap cur t cs hu hsz hg hn hsrc hfit h1
  unfold Oper.wp
  simp [execOp, ho, resolve, invoke, builtin, hd, hs, hrun, Result.andThen]
  exact h _ ⟨rfl, rfl, rfl, by simp [World.setRow], fun k _ hk => setRow_other w g k _ (fun e => hk (by simp [e]))⟩
theorem own3_take {w : World} {base e n c k s : Nat} {q : Nat} {xs : List Value} (h : w.ownsRow base e s (.slice (some ⟨q, 0, none⟩) n c) n xs) (hk : k ≤ n) : w.ownsRow base e s (.slice (some ⟨q, 0, none⟩) k c) k (xs.take (k * s)) := by
  have hks : k * s ≤ n * s := Nat.mul_le_mul_right _ hk
  refine ⟨by rw [List.length_take, h.1]; omega, ?_⟩
  rcases h.2 with ⟨hv, _⟩ | ⟨g', cap', cur, hv, hb', hg', hnc, hmx, hcs, htk⟩
  · cases hv
  · injection hv with hA _ hC
    injection hA with hA
    injection hA with hA
    subst hA hC
    refine .inr ⟨q, c, cur, rfl, hb', hg', by omega, hmx, hcs, ?_⟩
    rw [← htk, List.take_take, Nat.min_eq_left hks]
theorem mksV_take : ∀ (ms : List Mk) (k : Nat), (mksV ms).take (k * 3) = mksV (ms.take k)
  | [], k => by simp [mksV]
  | m :: ms, 0 => by simp [mksV]
  | m :: ms, k + 1 => by
    have e : mksV (m :: ms) = mkV m ++ mksV ms := by simp [mksV]
    have e2 : mksV ((m :: ms).take (k + 1)) = mkV m ++ mksV (ms.take k) := by simp [mksV]
    rw [e, e2, List.take_append, List.take_of_length_le (by simp [mkV]; omega), show (k + 1) * 3 - (mkV m).length = k * 3 by simp [mkV]; omega, mksV_take]
section
variable {w w' : World} {px : Px} {F : Nat → Prop} {N : Nat} {hd : Nat → Value} {s : WS}
/-- a list keeps its first marks -/
theorem WM.cut (h : WM w px F N hd s) {a q n c k : Nat} (ha : a < 2 * N) (hq : hd a = .slice (some ⟨q, 0, none⟩) n c) (hk : k ≤ n) :
    WM (w.setCell ⟨px.L, a, none⟩ (.slice (some ⟨q, 0, none⟩) k c)) px F N (fun j => if j = a then .slice (some ⟨q, 0, none⟩) k c else hd j) { s with ms := fun j => if j = a then (s.ms a).take k else s.ms j } ∧ Ft F w (w.setCell ⟨px.L, a, none⟩ (.slice (some ⟨q, 0, none⟩) k c)) := by
  have hin := h.inF
  have hft : Ft F w (w.setCell ⟨px.L, a, none⟩ (.slice (some ⟨q, 0, none⟩) k c)) := (Ft.refl w).set (fun _ => hin.2.1) _ _
  obtain ⟨Af, Ah, cf, ch, b1, b2, b3, b4, b5, b6⟩ := h.ex
  have far : ∀ x o, x ≠ px.L → w.heap[x]? = some o → (w.setCell ⟨px.L, a, none⟩ (.slice (some ⟨q, 0, none⟩) k c)).heap[x]? = some o := fun x o hx hxo => (Below.heap_setCell w _ _ x hx).trans hxo
  have hob : ∀ j, (if j = a then (Value.slice (some ⟨q, 0, none⟩) k c) else hd j).ownBlock = (hd j).ownBlock := fun j => by
    split
    · rename_i e; rw [e, hq]; rfl
    · rfl
  refine ⟨⟨⟨Af, Ah, cf, ch, far _ _ (b1.ne_ h.lists (by decide)) b1, owns_stay b2 fun x o hx hxo => far x o (fun e => owns_blk_ne b2 h.lists (by decide) (by rw [hx, e])) hxo, owns_stay b3 fun x o hx hxo => far x o (fun e => owns_blk_ne b3 h.lists (by decide) (by rw [hx, e])) hxo, b4, fun x hx => b5 x ?_, by simp only [if_neg (show ¬ 2 * N = a by omega)]; exact b6⟩, ?_, fun j hj => ?_, fun i j x hi hj hij h1 h2 => ?_⟩, hft⟩
  · rcases hx with e | e | ⟨j, hj, e⟩ | e | e
    · exact .inl e
    · exact .inr (.inl e)
    · exact .inr (.inr (.inl ⟨j, hj, by rw [← hob]; exact e⟩))
    · exact .inr (.inr (.inr (.inl e)))
    · exact .inr (.inr (.inr (.inr e)))
  · rw [← hdV_set]; exact h.lists.set_ a _
  · obtain ⟨A, c', e, ho⟩ := h.rows j hj
    have ho' := owns_stay ho (w' := w.setCell ⟨px.L, a, none⟩ (.slice (some ⟨q, 0, none⟩) k c)) fun x o hx hxo => far x o (fun e => owns_blk_ne ho h.lists (by decide) (by rw [hx, e])) hxo
    by_cases ej : j = a
    · subst ej
      rw [hq] at e
      injection e with e1 e2 e3
      subst e1 e2 e3
      have hl : ((s.ms j).take k).length = k := by rw [List.length_take]; omega
      simp only [if_true]
      rw [hl, ← mksV_take]
      exact ⟨_, _, rfl, own3_take ho' hk⟩
    · simp only [if_neg ej]
      exact ⟨A, c', e, ho'⟩
  · rw [hob] at h1 h2
    exact h.ne i j x hi hj hij h1 h2
end
section
variable {w w' : World} {base : Nat} {px : Px} {N : Nat} {G : Nat → Prop} {cs : List Cl} {t : TS} {s : WS} {hd : Nat → Value}
theorem Ob.cutRow (h : Ob w base px N G cs t s hd) (hB : base ≤ w.heap.size) {a q n c k : Nat} (ha : a < 2 * N) (hq : hd a = .slice (some ⟨q, 0, none⟩) n c) (hk : k ≤ n) :
    ∃ G' hd', Ob (w.setCell ⟨px.L, a, none⟩ (.slice (some ⟨q, 0, none⟩) k c)) base px N G' cs t { s with ms := fun j => if j = a then (s.ms a).take k else s.ms j } hd' ∧ St G G' w (w.setCell ⟨px.L, a, none⟩ (.slice (some ⟨q, 0, none⟩) k c)) := by
  obtain ⟨G', k1, k2⟩ := h.turn (hd' := fun j => if j = a then .slice (some ⟨q, 0, none⟩) k c else hd j) (s' := { s with ms := fun j => if j = a then (s.ms a).take k else s.ms j }) (w' := w.setCell ⟨px.L, a, none⟩ (.slice (some ⟨q, 0, none⟩) k c)) hB fun FW hw => by
    obtain ⟨x1, x2⟩ := hw.cut ha hq hk
    exact ⟨FW, x1, x2, NewF.refl⟩
  exact ⟨G', _, k1, k2⟩
/-- a mark is set in place -/
theorem Ob.setMark (h : Ob w base px N G cs t s hd) {a q n c k : Nat} {m0 m : Mk} (ha : a < 2 * N) (hq : hd a = .slice (some ⟨q, 0, none⟩) n c) (hm : (s.ms a)[k]? = some m0) :
    Ob (((w.setCell ⟨q, k * 3, none⟩ (.int .i64 m.ref)).setCell ⟨q, k * 3 + 1, none⟩ (.int .i64 m.oth)).setCell ⟨q, k * 3 + 2, none⟩ (.int .i64 (m.nxt : Nat))) base px N G cs t { s with ms := fun j => if j = a then (s.ms a).set k m else s.ms j } hd ∧
      St G G w (((w.setCell ⟨q, k * 3, none⟩ (.int .i64 m.ref)).setCell ⟨q, k * 3 + 1, none⟩ (.int .i64 m.oth)).setCell ⟨q, k * 3 + 2, none⟩ (.int .i64 (m.nxt : Nat))) := by
  refine h.same fun FW hw => ?_
  obtain ⟨_, _, _, _, _, hn, ho⟩ := h.mark ha hq hm
  have hk := (List.getElem?_eq_some_iff.1 hm).1
  have g1 := grown_setCell w ⟨q, k * 3, none⟩ (.int .i64 m.ref)
  have g2 := grown_setCell (w.setCell ⟨q, k * 3, none⟩ (.int .i64 m.ref)) ⟨q, k * 3 + 1, none⟩ (.int .i64 m.oth)
  have g3 := grown_setCell ((w.setCell ⟨q, k * 3, none⟩ (.int .i64 m.ref)).setCell ⟨q, k * 3 + 1, none⟩ (.int .i64 m.oth)) ⟨q, k * 3 + 2, none⟩ (.int .i64 (m.nxt : Nat))
  refine hw.rowset ha hq ((g1.trans g2).trans g3) (xs := (s.ms a).set k m) (by simp [hn]) ?_ (fun j => rfl) rfl rfl rfl rfl
  have h3 := own3_put (own3_put (own3_put ho (k * 3) (.int .i64 m.ref)) (k * 3 + 1) (.int .i64 m.oth)) (k * 3 + 2) (.int .i64 (m.nxt : Nat))
  have e1 := mksV_set (s.ms a) k 0 m0 ⟨m.ref, m0.oth, m0.nxt⟩ hm (by omega) (.int .i64 m.ref) rfl
  have e2 := mksV_set ((s.ms a).set k ⟨m.ref, m0.oth, m0.nxt⟩) k 1 ⟨m.ref, m0.oth, m0.nxt⟩ ⟨m.ref, m.oth, m0.nxt⟩ (by rw [List.getElem?_set_self hk]) (by omega) (.int .i64 m.oth) rfl
  have e3 := mksV_set (((s.ms a).set k ⟨m.ref, m0.oth, m0.nxt⟩).set k ⟨m.ref, m.oth, m0.nxt⟩) k 2 ⟨m.ref, m.oth, m0.nxt⟩ m (by rw [List.getElem?_set_self (by simpa using hk)]) (by omega) (.int .i64 (m.nxt : Nat)) rfl
  rw [Nat.add_zero] at e1
  rw [e1, e2, e3, List.set_set, List.set_set] at h3
  exact h3
theorem take_set_ge {α : Type} (l : List α) {k i : Nat} (h : k ≤ i) (x : α) : (l.set i x).take k = l.take k := by
  rw [List.take_set, List.set_eq_of_length_le (by rw [List.length_take]; omega)]
end

end Go.Proofs.Ytbejjddkndcldaa

namespace Go.Proofs.Ytbejjddkndcldaa
open Go.RowKit
set_option linter.unusedVariables false
set_option linter.unusedSimpArgs false

theorem WM.relay {w : World} {px : Px} {F : Nat → Prop} {N : Nat} {hd : Nat → Value} {s : WS} (h : WM w px F N hd s) {a : Nat} {v : Value} (hv : hd a = v) : WM (w.setCell ⟨px.L, a, none⟩ v) px F N hd s ∧ Ft F w (w.setCell ⟨px.L, a, none⟩ v) := by
  have hin := h.inF
  have hft : Ft F w (w.setCell ⟨px.L, a, none⟩ v) := (Ft.refl w).set (fun _ => hin.2.1) _ _
  obtain ⟨Af, Ah, cf, ch, b1, b2, b3, b4, b5, b6⟩ := h.ex
  have far : ∀ x o, x ≠ px.L → w.heap[x]? = some o → (w.setCell ⟨px.L, a, none⟩ v).heap[x]? = some o := fun x o hx hxo => (Below.heap_setCell w _ _ x hx).trans hxo
  refine ⟨⟨⟨Af, Ah, cf, ch, far _ _ (b1.ne_ h.lists (by decide)) b1, owns_stay b2 fun x o hx hxo => far x o (fun e => owns_blk_ne b2 h.lists (by decide) (by rw [hx, e])) hxo, owns_stay b3 fun x o hx hxo => far x o (fun e => owns_blk_ne b3 h.lists (by decide) (by rw [hx, e])) hxo, b4, b5, b6⟩, ?_, fun j hj => ?_, h.ne⟩, hft⟩
  · have e : hdV N (fun j => if j = a then v else hd j) = hdV N hd := by
      congr 1
      funext j
      split
      · rename_i e; rw [e, hv]
      · rfl
    have := h.lists.set_ a v
    rw [hdV_set, e] at this
    exact this
  · obtain ⟨A, c', e, ho⟩ := h.rows j hj
    exact ⟨A, c', e, owns_stay ho fun x o hx hxo => far x o (fun e => owns_blk_ne ho h.lists (by decide) (by rw [hx, e])) hxo⟩
section
variable {w : World} {base : Nat} {px : Px} {N : Nat} {G : Nat → Prop} {cs0 cs : List Cl} {t : TS} {s : WS} {hd : Nat → Value} {L0 : List Int} {a : Nat} {l : Int}
theorem Ob.relay (h : Ob w base px N G cs t s hd) {v : Value} (hv : hd a = v) : Ob (w.setCell ⟨px.L, a, none⟩ v) base px N G cs t s hd ∧ St G G w (w.setCell ⟨px.L, a, none⟩ v) := h.same fun FW hw => hw.relay hv
/-- the row of a list -/
theorem Ob.row (h : Ob w base px N G cs t s hd) (ha : a < 2 * N) : ∃ A c, hd a = .slice A (s.ms a).length c ∧ w.cell? ⟨px.L, a, none⟩ = some (.slice A (s.ms a).length c) ∧ (∀ j, w.frozen? ⟨px.L, j, none⟩ = false) ∧ px.L < w.heap.size ∧ w.ownsRow 0 106 3 (.slice A (s.ms a).length c) (s.ms a).length (mksV (s.ms a)) := by
  obtain ⟨FW, hw⟩ := h.wm
  obtain ⟨A, c, e, ho⟩ := hw.rows a ha
  exact ⟨A, c, e, by rw [hw.lists.cell, hdV_at ha, e], fun j => hw.lists.frozen j, hw.lists.lt, ho⟩

theorem Ob.inG (h : Ob w base px N G cs t s hd) (ha : a < 2 * N) {q : Nat} (hq : (hd a).ownBlock = some q) : G px.L ∧ G q := by
  obtain ⟨FT, FW, h1, h2, h3, d1, d2, d3, d4⟩ := h.ex
  exact ⟨d4 _ (.inr (.inr h3.inF.2.1)), d4 _ (.inr (.inr (h3.inF.2.2 a q ha hq)))⟩
/-- what the propagator has looked at is counted -/
def Seen (w : World) (px : Px) (v : Nat) : Prop := px.gW < w.heap.size ∧ ∃ u : Nat, v ≤ u ∧ w.cell? ⟨px.gW, 7, none⟩ = some (.int .i64 (u : Nat))
theorem Ob.seen (h : Ob w base px N G cs t s hd) : Seen w px s.vis := by
  obtain ⟨FW, hw⟩ := h.wm
  exact ⟨hw.cells.2.2.2, s.vis, Nat.le_refl _, hw.cells.2.2.1⟩
theorem Seen.less {v v' : Nat} (h : Seen w px v) (hv : v' ≤ v) : Seen w px v' := ⟨h.1, by obtain ⟨u, h1, h2⟩ := h.2; exact ⟨u, Nat.le_trans hv h1, h2⟩⟩
theorem Seen.set {v : Nat} (h : Seen w px v) {q i : Nat} (hq : q ≠ px.gW ∨ i ≠ 7) (x : Value) : Seen (w.setCell ⟨q, i, none⟩ x) px v := by
  obtain ⟨h0, u, h1, h2⟩ := h
  refine ⟨by simpa using h0, u, h1, ?_⟩
  rw [World.cell?_setCell_other]
  · exact h2
  · intro e
    injection e with e1 e2
    rcases hq with hq | hq
    · exact hq e1
    · exact hq e2
theorem Seen.below {v : Nat} {w' : World} (h : Seen w px v) (hb : Below w.heap.size w w') : Seen w' px v := by
  obtain ⟨h0, u, h1, h2⟩ := h
  exact ⟨Nat.lt_of_lt_of_le h0 hb.size, u, h1, (hb.cell (p := ⟨px.gW, 7, none⟩) h0).trans h2⟩
theorem Seen.ft {v : Nat} {w' : World} {F : Nat → Prop} (h : Seen w px v) (hf : Ft F w w') (hn : ¬ F px.gW) : Seen w' px v := by
  obtain ⟨h0, u, h1, h2⟩ := h
  exact ⟨Nat.lt_of_lt_of_le h0 hf.size, u, h1, (hf.cell (p := ⟨px.gW, 7, none⟩) h0 hn).trans h2⟩
/-- what visit does -/
def Vis (w : World) (base : Nat) (px : Px) (N : Nat) (G : Nat → Prop) (cs0 : List Cl) (L0 : List Int) (a : Nat) (l : Int) (t : TS) (s : WS) (e : Ending) (w' : World) : Prop :=
  ∃ G', St G G' w w' ∧ ((∃ r : Int, e = .returned (.tuple #[.int .i64 r, .bool false]) ∧ Clash (cs0.map Cl.lits) L0 ∧ Seen w' px s.vis) ∨
    (e = .returned (.tuple #[.int .i64 0, .bool true]) ∧ ∃ cs' t' s' hd', Ob w' base px N G' cs' t' s' hd' ∧ VI N cs0 L0 a l (s'.ms a) [] cs' t' s' ∧ Kps cs0 t s t' s' (total cs0)))
/-- behind a clash -/
structure Bro (w wr : World) (base : Nat) (px : Px) (N : Nat) (G : Nat → Prop) (cs0 : List Cl) (L0 : List Int) (a n c : Nat) (A : Option Addr) (v : Nat) : Prop where
  ex : ∃ w1 G' cs' t' s' hd' q, Ob w1 base px N G' cs' t' s' hd' ∧ St G G' w w1 ∧ A = some ⟨q, 0, none⟩ ∧ hd' a = .slice A n c ∧ w1.grownBy wr (some q) ∧ v ≤ s'.vis
  clash : Clash (cs0.map Cl.lits) L0
/-- in the midst of a list -/
structure Mit (w wr : World) (base : Nat) (px : Px) (N : Nat) (G : Nat → Prop) (cs0 : List Cl) (L0 : List Int) (a n c : Nat) (A : Option Addr) (l : Int) (t : TS) (s : WS) (i k : Nat) : Prop where
  ex : ∃ cs' t' s' G' hd', Ob wr base px N G' cs' t' s' hd' ∧ VI N cs0 L0 a l ((s'.ms a).take k) ((s'.ms a).drop i) cs' t' s' ∧ hd' a = .slice A n c ∧ (s'.ms a).length = n ∧ St G G' w wr ∧ Kps cs0 t s t' s' i

set_option maxRecDepth 100000 in
set_option maxHeartbeats 4000000 in
theorem visit_any (h : Ob w base px N G cs t s hd) (hB : base ≤ w.heap.size) (hN : N ≤ 100000) (ht : total cs0 ≤ 1000000) (hv : VI N cs0 L0 a l [] (s.ms a) cs t s) (hvis : s.vis ≤ 549755813888) :
    Calls Try.prog 46 #[.pointer (some ⟨px.gW, 0, none⟩), .int .i64 l] w (Vis w base px N G cs0 L0 a l t s) := by
  have hl := hv.hl
  have ha := hv.ha
  have ha2 : a < 2 * N := ha ▸ idx_lt hl
  have hb := litIndex_bd (l := l) (b := N) (by omega) (by omega) hl.1
  have hli : litIndex l = (a : Int) := by omega
  have hr : litRight l (N : Int) = true := litRight_iff.2 (by omega)
  have HR := Lib.hid (fun w => hr ▸ right_any l N w (by omega) (by omega) (by omega) (by omega))
  have HI := Lib.hid (fun w => hli ▸ index_any l w (by omega) (by omega))
  obtain ⟨A, c, ea, xl, xf, hLl, orow⟩ := h.row ha2
  obtain ⟨FW, hw⟩ := h.wm
  have x2 := hw.cells.1.2.2.1
  have x3 := hw.cells.1.2.2.2
  obtain ⟨M, hM⟩ : ∃ M, 2 * N = M := ⟨_, rfl⟩
  rw [hM] at x3
  have haM : (a : Int) < (M : Int) := by omega
  obtain ⟨n, hn⟩ : ∃ n, (s.ms a).length = n := ⟨_, rfl⟩
  rw [hn] at ea xl orow
  have hnt : n ≤ total cs0 := by
    have := hv.lst.len ha2
    simp only [if_true, List.nil_append] at this
    rw [hv.cls.tot, hn] at this
    exact this
  have hAn : 0 < n → ∃ q, A = some ⟨q, 0, none⟩ := fun h0 => by
    rcases orow.2 with ⟨e, h1⟩ | ⟨q, cap, cur, e, _⟩
    · omega
    · injection e with e; exact ⟨q, e⟩
  have hnc : n ≤ c := by
    rcases orow.2 with ⟨e, h1⟩ | ⟨q, cap, cur, e, _, _, h2, _⟩
    · omega
    · injection e with _ _ e; omega
  have hcm : c ≤ 9223372036854775807 := by
    rcases orow.2 with ⟨e, h1⟩ | ⟨q, cap, cur, e, _, _, h2, h3, _⟩
    · injection e with _ _ e; omega
    · injection e with _ _ e; subst e; unfold maxLen at h3; omega
  have hA0 : A = none → n = 0 ∧ c = 0 := fun e0 => by
    rcases orow.2 with ⟨e, h1⟩ | ⟨q, cap, cur, e, _⟩
    · injection e with _ e2 e3; exact ⟨e2, e3⟩
    · rw [e0] at e; cases e
  have hA1 : ∀ ad, A = some ad → ∃ q, A = some ⟨q, 0, none⟩ := fun ad e0 => by
    rcases orow.2 with ⟨e, h1⟩ | ⟨q, cap, cur, e, _⟩
    · rw [e0] at e; cases e
    · injection e with e; exact ⟨q, e⟩
  have HA := Lib.hid (And.intro hA0 (And.intro hA1 hAn))
  have HST := Lib.hid (show Mit w w base px N G cs0 L0 a n c A l t s 0 0 from ⟨cs, t, s, G, hd, h, by simpa using hv, ea, hn, St.refl w, Kps.refl t s⟩)
  have HNT := Lib.hid hnt
  have HLA := Lib.hid (And.intro hl (And.intro ha ha2))
  have HNC := Lib.hid (And.intro hnc hcm)
  have hnb : n ≤ 1000000 := by omega
  have HMM := Lib.hid hM
  clear h hv hr hli hb hw ea orow hn hA0 hA1 hAn hM hl ha ha2 hnt xf hnc hcm
  go_enter Try.func46, Try.ntmps46
  go_wp2_with fail
  refine (HR.out _).mono ?_
  rintro e w1 ⟨rfl, rfl⟩
  go_wp2_with fail
  refine (HI.out _).mono ?_
  rintro e w1 ⟨rfl, rfl⟩
  go_wp2_with fail
  clear x2 x3 xl hLl HR HI
  go_loopg [8, 9, 10, 11] (n + 1) (fun gk rf f kp iv wr => ∃ (i k : Nat), i ≤ n ∧ k ≤ n ∧ gk = n - i + 1 ∧ iv = .int .i64 i ∧ kp = .int .i64 k ∧ ((f = .bool true ∧ rf = .int .i64 0 ∧ k ≤ i ∧ Hid (Mit w wr base px N G cs0 L0 a n c A l t s i k)) ∨ (f = .bool false ∧ ∃ r : Int, rf = .int .i64 r ∧ Hid (Bro w wr base px N G cs0 L0 a n c A s.vis))))
  case atStart => exact ⟨0, 0, by omega, by omega, by omega, rfl, rfl, .inl ⟨rfl, rfl, by omega, HST⟩⟩
  case round =>
    obtain ⟨i, k, hin, hkn, rfl, rfl, rfl, ⟨rfl, rfl, hki, HM⟩ | ⟨rfl, r, rfl, HBR⟩⟩ := hrel
    · by_cases hlt : i < n
      · obtain ⟨q, rfl⟩ := HA.out.2.2 (by omega)
        obtain ⟨cs', t', s', G', hd', ho, hvi, hhd, hlen, hst, hkp⟩ := HM.out.ex
        have hil : i < (s'.ms a).length := by omega
        obtain ⟨m, hm⟩ : ∃ m, (s'.ms a)[i]? = some m := ⟨_, List.getElem?_eq_getElem hil⟩
        have hdr : (s'.ms a).drop i = m :: (s'.ms a).drop (i + 1) := by
          rw [List.drop_eq_getElem_cons hil]
          congr 1
          have := List.getElem?_eq_getElem hil
          rw [hm] at this
          injection this with this
          exact this.symm
        have hvi2 := hvi
        rw [hdr] at hvi2
        obtain ⟨cl, hc, hw2, hoth, hn2, hnl⟩ := hvi2.mem
        obtain ⟨hnd, hlit, -⟩ := hvi2.cls.at hc
        have hneg : valT t'.recs l = -1 := (val_neg1 hvi2.good HLA.out.1.1).2 hvi2.neg
        have CE := Lib.hid (examine_any ho (Nat.le_trans hB hst.size) hvi2.good HLA.out.1 HLA.out.2.1 hhd hm hc hw2 hnd hoth hn2 hnl (by rw [hvi2.cls.tot]; omega) hN hlit (fun j hj => by
          have := hvi2.lens (by rw [hlen]; exact HNT.out) hj; omega) (by have := hkp.hi; omega) hneg)
        have HD := Lib.hid (And.intro hvi2 (And.intro hc (And.intro hm (And.intro hhd (And.intro hlen (And.intro hst (And.intro hkp hvi)))))))
        clear ho hvi hhd hlen hst hkp hil hm hdr hvi2 hc hw2 hoth hn2 hnl hnd hlit hneg
        go_wp2_with fail
        refine CE.out.mono ?_
        rintro e w2 ⟨z, cs2, t2, s2, G2, hd2, rfl, hex, ho2, hs2, hh2⟩
        obtain ⟨hvi2, hc, hm, hhd, hlen, hst, hkp, hvi⟩ := HD.out
        obtain ⟨m', hms2, hz0, hz1, hz2, hz⟩ := Ex.step hvi2 hc hm hex
        have hkp2 := hkp.trans (Ex.kps hvi2 hc hex)
        have hhd2 := hh2.trans hhd
        have hlen2 : (s2.ms a).length = n := by rw [hms2, List.length_set]; exact hlen
        have hst2 := hst.trans hs2
        have hil : i < (s'.ms a).length := by omega
        have hi2 : (s2.ms a)[i]? = some m' := by rw [hms2, List.getElem?_set_self hil]
        have htk : (s2.ms a).take k = (s'.ms a).take k := by rw [hms2, take_set_ge _ hki]
        have hdp : (s2.ms a).drop (i + 1) = (s'.ms a).drop (i + 1) := by rw [hms2, List.drop_set_of_lt (by omega)]
        rcases hz with rfl | rfl | rfl
        · obtain ⟨mk, hmk⟩ : ∃ mk, (s2.ms a)[k]? = some mk := ⟨_, List.getElem?_eq_getElem (by omega)⟩
          obtain ⟨y0, y1, y2, yq, yf, yn, yo⟩ := ho2.mark HLA.out.2.2 hhd2 hi2
          obtain ⟨z0, z1, z2, -, -, -, -⟩ := ho2.mark HLA.out.2.2 hhd2 hmk
          have f0 := yf (k * 3)
          have f1 := yf (k * 3 + 1)
          have f2 := yf (k * 3 + 2)
          obtain ⟨ho3, hs3⟩ := ho2.setMark (m := m') HLA.out.2.2 hhd2 hmk
          have hvi3 := hz0 rfl
          have HNX := Lib.hid (show Mit w _ base px N G cs0 L0 a n c _ l t s (i + 1) (k + 1) from ⟨cs2, t2, { s2 with ms := fun j => if j = a then (s2.ms a).set k m' else s2.ms j }, G2, hd2, ho3, by
            simp only [if_true]
            have e1 : ((s2.ms a).set k m').take (k + 1) = (s'.ms a).take k ++ [m'] := by
              rw [List.take_add_one, take_set_ge _ (Nat.le_refl k), htk, List.getElem?_set_self (by omega)]; rfl
            have e2 : ((s2.ms a).set k m').drop (i + 1) = (s'.ms a).drop (i + 1) := by rw [List.drop_set_of_lt (by omega), hdp]
            rw [e1, e2]
            exact hvi3.congr (fun j hj => by simp [hj]) rfl, hhd2, by simpa using hlen2, hst2.trans hs3, hkp2.ms⟩)
          have hkk : (k : Int) < (n : Int) := by omega
          have hii : (i : Int) < (n : Int) := by omega
          clear hex ho2 hs2 hh2 hvi2 hc hm hhd hlen hst hkp hvi hms2 hz0 hz1 hz2 hkp2 hhd2 hlen2 hst2 hil hi2 htk hdp hmk yf yn yo ho3 hs3 hvi3 HD CE
          go_wp2_with fail
          go_roundg (n - i)
          case measure => omega
          case rel => exact ⟨i + 1, k + 1, by omega, by omega, by omega, by go_num, by go_num, .inl ⟨rfl, rfl, by omega, HNX⟩⟩
        · have HNX := Lib.hid (show Mit w w2 base px N G cs0 L0 a n c _ l t s (i + 1) k from ⟨cs2, t2, s2, G2, hd2, ho2, by
            rw [htk, hdp]
            exact hz1 rfl, hhd2, hlen2, hst2, hkp2⟩)
          clear hex ho2 hs2 hh2 hvi2 hc hm hhd hlen hst hkp hvi hms2 hz0 hz1 hz2 hkp2 hhd2 hlen2 hst2 hil hi2 htk hdp HD CE
          go_wp2_with fail
          go_roundg (n - i)
          case measure => omega
          case rel => exact ⟨i + 1, k, by omega, by omega, by omega, by go_num, rfl, .inl ⟨rfl, rfl, by omega, HNX⟩⟩
        · obtain ⟨y0, y1, y2, yq, yf, yn, yo⟩ := ho2.mark HLA.out.2.2 hhd2 hi2
          have HBB := Lib.hid (fun wr (hg : w2.grownBy wr (some q)) => (⟨⟨w2, G2, cs2, t2, s2, hd2, q, ho2, hst2, rfl, hhd2, hg, hkp2.lo⟩, hz2 rfl⟩ : Bro w wr base px N G cs0 L0 a n c _ s.vis))
          have hnc := HNC.out.1
          have hsl : ∀ w, (Instr.slice 111 (.slice (some ⟨q, 0, none⟩) n c) (some (.int .i64 k)) none none).run Try.prog w = .ok (.slice (some ⟨q, k * 3, none⟩) (n - k) (c - k)) w := fun w => by
            have := run_backM (P := Try.prog) Try.underlying111 w (szM w) q 0 n c k (by omega) (by omega) (by omega)
            rw [Nat.zero_add] at this
            exact this
          have hsl' : ∀ w, (Instr.slice 111 (.slice (some ⟨q, 0, none⟩) n c) (some (.int .i64 i)) none none).run Try.prog w = .ok (.slice (some ⟨q, i * 3, none⟩) (n - i) (c - i)) w := fun w => by
            have := run_backM (P := Try.prog) Try.underlying111 w (szM w) q 0 n c i (by omega) (by omega) (by omega)
            rw [Nat.zero_add] at this
            exact this
          have hsl2 : ∀ w, (Instr.sliceAt 111 (.slice (some ⟨q, 0, none⟩) n c) (some (.int .i64 k)) none none).run Try.prog w = .ok (.slice (some ⟨q, k * 3, none⟩) (n - k) (c - k)) w := fun w => (run_sliceAt_slice (P := Try.prog) w _ _ _ _ _ (by kernel_rfl)).trans (hsl w)
          have hsl2' : ∀ w, (Instr.sliceAt 111 (.slice (some ⟨q, 0, none⟩) n c) (some (.int .i64 i)) none none).run Try.prog w = .ok (.slice (some ⟨q, i * 3, none⟩) (n - i) (c - i)) w := fun w => (run_sliceAt_slice (P := Try.prog) w _ _ _ _ _ (by kernel_rfl)).trans (hsl' w)
          obtain ⟨cur, hcur, hcs⟩ : ∃ cur, w2.heap[q]? = some (.cells cur 106 (0, 0)) ∧ cur.size = c * 3 := by
            rcases yo.2 with ⟨e, h1⟩ | ⟨q', cap, cur, e, _, h2, _, _, h3, _⟩
            · cases e
            · injection e with e1 _ e3
              injection e1 with e1
              injection e1 with e1
              subst e1 e3
              exact ⟨cur, h2, h3⟩
          have hsrc : ∀ j v, ((mksV (s2.ms a)).drop (i * 3))[j]? = some v → w2.drew.cell? ((⟨q, i * 3, none⟩ : Addr).add j) = some v := fun j v hj => by
            rw [List.getElem?_drop] at hj
            have hjl := (List.getElem?_eq_some_iff.1 hj).1
            rw [mksV_len, hlen2] at hjl
            rw [show (⟨q, i * 3, none⟩ : Addr).add j = ⟨q, i * 3 + j, none⟩ by simp [Addr.add]]
            show w2.cell? ⟨q, i * 3 + j, none⟩ = _
            rw [World.ownsRow.cellAt yo (i * 3 + j) hjl]
            exact hj
          have hcl : ((mksV (s2.ms a)).drop (i * 3)).length = Nat.min (n - i) (n - k) * 3 := by
            have : Nat.min (n - i) (n - k) = n - i := Nat.min_eq_left (by omega)
            rw [this, List.length_drop, mksV_len, hlen2]; omega
          have hone : ∀ v ∈ (mksV (s2.ms a)).drop (i * 3), v.oneCell' = true := fun v hv => by
            have hv := List.mem_of_mem_drop hv
            unfold mksV at hv
            obtain ⟨x, _, hx⟩ := List.mem_flatMap.1 hv
            simp only [mkV, List.mem_cons, List.not_mem_nil, or_false] at hx
            rcases hx with rfl | rfl | rfl <;> rfl
          have hmin : Nat.min (n - i) (n - k) = n - i := Nat.min_eq_left (by omega)
          obtain ⟨w3, hrun, hg3⟩ : ∃ w3, (Builtin.copy_ #[111, 111] 3 #[.slice (some ⟨q, k * 3, none⟩) (n - k) (c - k), .slice (some ⟨q, i * 3, none⟩) (n - i) (c - i)]).run Try.prog w2.drew = .ok (.int .i64 ((n - i : Nat) : Int)) w3 ∧ w2.grownBy w3 (some q) := by
            have hr := run_copyM (P := Try.prog) w2.drew 111 111 3 106 q (k * 3) (n - k) (c - k) ⟨q, i * 3, none⟩ (n - i) (c - i) cur 106 ((mksV (s2.ms a)).drop (i * 3)) Try.underlying111 (by kernel_rfl) hcur hcl hsrc (by rw [hcl, hmin, hcs]; have := HNC.out.1; omega) hone
            rw [hmin] at hr
            exact ⟨_, hr, ⟨rfl, rfl, rfl, by simp [World.setRow], fun j _ hj => setRow_other w2.drew q j _ (fun e => hj (by simp [e]))⟩⟩
          have HB3 := Lib.hid (HBB.out w3 hg3)
          have hsum : (k : Int) + ((n - i : Nat) : Int) = ((k + (n - i) : Nat) : Int) := by omega
          have HSUM := Lib.hid hsum
          have hii : (i : Int) < (n : Int) := by omega
          clear hex ho2 hs2 hh2 hvi2 hc hm hhd hlen hst hkp hvi hms2 hz0 hz1 hz2 hkp2 hhd2 hst2 hil hi2 htk hdp HD CE y1 y2 yf yn yo hsl hsl' hcur hsrc hcl hone hcs hmin hlen2 hsum hnc hg3 HBB
          go_wp2_with fail
          go_region
          go_wp2_with fail
          go_roundg (n - i)
          case measure => omega
          case rel => exact ⟨i + 1, k + (n - i), by omega, by omega, by omega, by go_num, by rw [HSUM.out], .inr ⟨rfl, _, rfl, HB3⟩⟩
      · obtain rfl : i = n := by omega
        obtain ⟨cs', t', s', G', hd', ho, hvi, hhd, hlen, hst, hkp⟩ := HM.out.ex
        obtain ⟨A2, c2, e2, xl, xf, hLl, -⟩ := ho.row HLA.out.2.2
        rw [hhd, hlen] at e2
        injection e2 with e2a _ e2c
        subst e2a e2c
        obtain ⟨FW, hw⟩ := ho.wm
        have x3 := hw.cells.1.2.2.2
        rw [HMM.out] at x3
        have hgl := hw.cells.2.2.2
        have x4 := xf a
        have hsl : ∀ w, (Instr.slice 111 (.slice A i c) none (some (.int .i64 k)) none).run Try.prog w = .ok (.slice A k c) w := fun w => by
          rcases A with _ | ad
          · obtain ⟨e1, e2⟩ := HA.out.1 rfl
            obtain rfl : k = 0 := by omega
            subst e1 e2
            exact run_nilM Try.underlying111 w (szM w)
          · obtain ⟨q, e⟩ := HA.out.2.1 ad rfl
            rw [e]
            exact run_frontM Try.underlying111 w (szM w) q 0 i c k (by have := HNC.out.1; omega)
        have hsl2 : ∀ w, (Instr.sliceAt 111 (.slice A i c) none (some (.int .i64 k)) none).run Try.prog w = .ok (.slice A k c) w := fun w => (run_sliceAt_slice (P := Try.prog) w _ _ _ _ _ (by kernel_rfl)).trans (hsl w)
        have FIN := Lib.hid (show ∃ G'' hd'', Ob (wr.drew.setCell ⟨px.L, a, none⟩ (.slice A k c)) base px N G'' cs' t' { s' with ms := fun j => if j = a then (s'.ms a).take k else s'.ms j } hd'' ∧ St G' G'' wr.drew (wr.drew.setCell ⟨px.L, a, none⟩ (.slice A k c)) by
          have ho2 := ho.drewE (w' := wr.drew) ⟨1, rfl⟩
          rcases A with _ | ad
          · obtain ⟨e1, e2⟩ := HA.out.1 rfl
            obtain rfl : k = 0 := by omega
            subst e1 e2
            obtain ⟨k1, k2⟩ := ho2.relay (a := a) (v := .slice none 0 0) hhd
            have e : ({ s' with ms := fun j => if j = a then (s'.ms a).take 0 else s'.ms j } : WS) = s' := by
              have : (fun j => if j = a then (s'.ms a).take 0 else s'.ms j) = s'.ms := by
                funext j
                split
                · rename_i e; rw [e, List.eq_nil_of_length_eq_zero hlen]; rfl
                · rfl
              rw [this]
            rw [e]
            exact ⟨G', hd', k1, k2⟩
          · obtain ⟨q, e⟩ := HA.out.2.1 ad rfl
            rw [e] at hhd ⊢
            exact ho2.cutRow (Nat.le_trans hB hst.size) HLA.out.2.2 hhd hki)
        have HV := Lib.hid (And.intro hvi (And.intro hlen (And.intro hst hkp)))
        clear ho hvi hhd hlen hst hkp hw xf hsl
        go_wp2_with fail
        go_region
        go_wp2
        go_ret2
        obtain ⟨G'', hd'', k1, k2⟩ := FIN.out
        obtain ⟨hvi, hlen, hst, hkp⟩ := HV.out
        refine ⟨G'', (hst.drewE ⟨1, rfl⟩).trans k2, .inr ⟨rfl, cs', t', _, hd'', k1, ?_, hkp.ms.more HNT.out⟩⟩
        rw [List.drop_eq_nil_of_le (by omega)] at hvi
        have e : ({ s' with ms := fun j => if j = a then (s'.ms a).take k else s'.ms j } : WS).ms a = (s'.ms a).take k := by simp
        rw [e]
        exact hvi.congr (fun j hj => by simp [hj]) rfl
    · obtain ⟨w1, G', cs', t', s', hd', q, ho, hst, eA, hhd, hgr, hlo⟩ := HBR.out.ex
      obtain ⟨FW, hw⟩ := ho.wm
      obtain ⟨A2, c2, e2, xl1, xf1, hLl1, orow⟩ := ho.row HLA.out.2.2
      have orow2 := orow
      rw [hhd] at e2
      injection e2 with e2a e2n e2c
      subst e2a e2c
      have bL : Blk wr px.L 111 (hdV N hd') := hw.lists.grown hgr (fun e => owns_blk_ne orow hw.lists (by decide) (by rw [eA]; exact e.symm))
      obtain ⟨Af, Ah, cf, ch, b1, _⟩ := hw.ex
      have bW : Blk wr px.gW 79 (wcells px N s' Af cf Ah ch) := b1.grown hgr (fun e => owns_blk_ne orow b1 (by decide) (by rw [eA]; exact e.symm))
      have x3 : wr.cell? ⟨px.gW, 3, none⟩ = some (.slice (some ⟨px.L, 0, none⟩) M M) := by rw [bW.cell, ← HMM.out]; rfl
      have xl : wr.cell? ⟨px.L, a, none⟩ = some (hd' a) := by rw [bL.cell]; exact hdV_at HLA.out.2.2
      rw [hhd] at xl
      have x4 := bL.frozen a
      have hgl := bW.lt
      have hLl := bL.lt
      have hsl : ∀ w, (Instr.slice 111 (.slice A n c) none (some (.int .i64 k)) none).run Try.prog w = .ok (.slice A k c) w := fun w => by
        rw [eA]
        exact run_frontM Try.underlying111 w (szM w) q 0 n c k (by have := HNC.out.1; omega)
      have hsl2 : ∀ w, (Instr.sliceAt 111 (.slice A n c) none (some (.int .i64 k)) none).run Try.prog w = .ok (.slice A k c) w := fun w => (run_sliceAt_slice (P := Try.prog) w _ _ _ _ _ (by kernel_rfl)).trans (hsl w)
      obtain ⟨gL, gq⟩ := ho.inG HLA.out.2.2 (q := q) (by rw [hhd, eA]; rfl)
      have FIN := Lib.hid (show St G G' w (wr.drew.setCell ⟨px.L, a, none⟩ (.slice A k c)) from
        hst.trans ⟨(((Ft.refl w1).grown hgr (fun x hx _ => by injection hx with hx; exact hx ▸ gq)).drew).set (fun _ => gL) _ _, NewF.refl⟩)
      have SN := Lib.hid (show Seen (wr.drew.setCell ⟨px.L, a, none⟩ (.slice A k c)) px s.vis from
        Seen.set (w := wr.drew) ⟨bW.lt, s'.vis, hlo, by show wr.cell? ⟨px.gW, 7, none⟩ = _; rw [bW.cell]; rfl⟩ (.inl (bL.ne_ bW (by decide))) _)
      clear ho hst eA hhd hgr hw xl1 xf1 hLl1 orow orow2 e2n bL bW b1 hsl gL gq hlo
      go_wp2_with fail
      go_region
      go_wp2
      go_ret2
      exact ⟨G', FIN.out, .inl ⟨_, rfl, HBR.out.clash, SN.out⟩⟩
end

end Go.Proofs.Ytbejjddkndcldaa
