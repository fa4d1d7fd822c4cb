/- Remove: a clause less. Remove, walked. -/
import Derived.Test.YtbjccfdmedbkjaaDoorSweep07b
namespace Go.Proofs.YtbjccfdmedbkjaaDoor
open Go.RowKit
set_option linter.unusedVariables false
set_option linter.unusedSimpArgs false

/-- a clause is gone: so says its struct, the count and its key's pile -/
structure Less7 (X X' : SX) (p0 : Nat) (k : List UInt8) : Prop where
  V : X'.V = X.V
  fd : X'.fd = X.fd
  ps : X'.ps = X.ps
  added : X'.added = X.added
  ks : X'.ks = X.ks
  C : ∀ q, X'.C q = if q = p0 then { X.C p0 with gone := true } else X.C q
  ng : X'.ng = X.ng + 1
  tk : X.tk ≤ X'.tk ∧ X'.tk ≤ X.tk + 2
  low : ∀ j, j < 2 * X.V + 2 → X'.pss.getD j [] = X.pss.getD j []
  high : ∀ (i : Nat) (k' : List UInt8), X.ks[i]? = some k' → k' ≠ k → X'.pss.getD (2 * X.V + 2 + i) [] = X.pss.getD (2 * X.V + 2 + i) [] ∧ X'.ko i = X.ko i
  here : ∀ i : Nat, X.ks[i]? = some k → (X'.pss.getD (2 * X.V + 2 + i) []).drop (X'.ko i) = ((X.pss.getD (2 * X.V + 2 + i) []).drop (X.ko i)).drop 1 ∧ X'.ko i ≤ (X'.pss.getD (2 * X.V + 2 + i) []).length ∧ (X'.pss.getD (2 * X.V + 2 + i) []).length ≤ (X.pss.getD (2 * X.V + 2 + i) []).length
section
variable {W W' : World} {base p0 : Nat} {X X' : SX} {fo : List Bool} {k : List UInt8} {rs : List Nat} {M : List Int}
theorem Less7.same (h : Less7 X X' p0 k) (q : Nat) : (X'.C q).lits = (X.C q).lits ∧ (X'.C q).w0 = (X.C q).w0 ∧ (X'.C q).w1 = (X.C q).w1 ∧ (X'.C q).tried = (X.C q).tried ∧ (X'.C q).num = (X.C q).num := by
  rw [h.C]
  split
  · next e => subst e; exact ⟨rfl, rfl, rfl, rfl, rfl⟩
  · exact ⟨rfl, rfl, rfl, rfl, rfl⟩
theorem Less7.was (h : Less7 X X' p0 k) {q : Nat} (hg : (X'.C q).gone = false) : (X.C q).gone = false ∧ q ≠ p0 := by
  rw [h.C] at hg
  split at hg
  · cases hg
  · next e => exact ⟨hg, e⟩
theorem Less7.rest (h : Less7 X X' p0 k) (hR : Rest7 W base X fo) (hS : Sto W' base X' fo) (hk : keyed7 X k = p0 :: rs) (hM : k = keyOf M) : Rest7 W' base X' fo ∧ X'.cs = X.cs.erase M := by
  have hnd : X.ps.Nodup := hR.shelf.nums.imp fun hlt e => by subst e; omega
  have hlnd : X.live.Nodup := hnd.filter _
  obtain ⟨l1, l2, hl, h1, h2, h3⟩ := List.filter_eq_cons_iff.1 hk
  rw [hl] at hlnd
  obtain ⟨n1, n2, n3⟩ := List.nodup_append.1 hlnd
  have hp1 : p0 ∉ l1 := fun hm => n3 p0 hm p0 (by simp) rfl
  have hp2 : p0 ∉ l2 := (List.nodup_cons.1 n2).1
  have hkey : keyOf (X.C p0).lits = k := by simpa using h2
  have hlits : (X.C p0).lits = M := keyOf_inj (hkey.trans hM)
  have hlive : X'.live = l1 ++ l2 := by
    have e1 : X'.live = X.live.filter fun q => decide (q ≠ p0) := by
      unfold SX.live
      rw [h.ps, List.filter_filter]
      refine List.filter_congr fun q hq => ?_
      rw [h.C]
      by_cases e : q = p0
      · rw [if_pos e]; simp [e]
      · rw [if_neg e]; simp [e]
    rw [e1, hl, List.filter_append, List.filter_cons]
    have e2 : l1.filter (fun q => decide (q ≠ p0)) = l1 := List.filter_eq_self.2 fun q hq => by simp; exact fun e => hp1 (e ▸ hq)
    have e3 : l2.filter (fun q => decide (q ≠ p0)) = l2 := List.filter_eq_self.2 fun q hq => by simp; exact fun e => hp2 (e ▸ hq)
    rw [e2, e3]
    simp
  have hsub : ∀ q, q ∈ X'.live → q ∈ X.live := fun q hq => by
    rw [hlive] at hq
    rw [hl]
    rcases List.mem_append.1 hq with hq | hq
    · exact List.mem_append_left _ hq
    · exact List.mem_append_right _ (by simp [hq])
  have hwt : ∀ q j, Waits (X'.C q) j ↔ Waits (X.C q) j := fun q j => by
    obtain ⟨a, b, c, d, e⟩ := h.same q
    unfold Waits
    rw [a, b, c]
  refine ⟨⟨hS, ⟨fun q hq => ?_, by rw [h.ps]; exact hR.wf.plen, fun j hj => ?_⟩, ⟨?_, ?_, ?_, ?_, ?_⟩, h.fd.trans hR.fd, ⟨fun q hq => ?_, fun q hq hg hlt => ?_⟩, ⟨?_, ?_, ?_, fun q hq => ?_, ?_, fun q hq => ?_, fun i k' hk' => ?_, fun q hq => ?_, fun i hi => ?_⟩⟩, ?_⟩
  · rw [h.ps] at hq
    obtain ⟨a, b, c, d, e⟩ := h.same q
    obtain ⟨w1, w2, w3⟩ := hR.wf.cl q hq
    rw [h.V]
    exact ⟨by rw [a]; exact w1, by rw [a]; exact w2, by rw [a, b, c, d]; exact w3⟩
  · rw [h.V] at hj
    rw [h.low j (by omega)]
    obtain ⟨q1, q2, q3⟩ := hR.wf.pile j hj
    exact ⟨q1, fun q hq => ⟨by rw [h.ps]; exact (q2 q hq).1, (hwt q j).2 (q2 q hq).2⟩, fun q hq hg hw => q3 q (by rw [← h.ps]; exact hq) (h.was hg).1 ((hwt q j).1 hw)⟩
  · rw [h.V]; exact hR.fw.flen
  · rw [h.V, h.fd]; exact hR.fw.tie
  · rw [h.fd]; exact hR.fw.nd
  · rw [h.V, h.fd]; exact hR.fw.lt
  · rw [h.fd]; exact hR.fw.con
  · rw [h.V, h.low _ (by omega)] at hq
    obtain ⟨a, b⟩ := hR.short.1 q hq
    exact ⟨by rw [h.ps]; exact a, by rw [(h.same q).1]; exact b⟩
  · rw [h.V, h.low _ (by omega)]
    rw [h.ps] at hq
    rw [(h.same q).1] at hlt
    exact hR.short.2 q hq (h.was hg).1 hlt
  · rw [h.V, h.low _ (by omega)]; exact hR.shelf.shnd
  · rw [h.V, h.low _ (by omega), h.ps]; exact hR.shelf.all
  · rw [h.ps]; exact hR.shelf.nums.imp fun {a b} hlt => by rw [(h.same a).2.2.2.2, (h.same b).2.2.2.2]; exact hlt
  · rw [h.ps] at hq
    rw [(h.same q).2.2.2.2, h.added]; exact hR.shelf.numlt q hq
  · have e := hR.shelf.ng
    rw [hl] at e
    rw [h.ng, hlive, h.ps]
    simp only [List.length_append, List.length_cons] at e ⊢
    omega
  · rw [h.ps] at hq
    rw [(h.same q).1]; exact hR.shelf.norm q hq
  · rw [h.ks] at hk'
    rw [h.V]
    have hfil : (X'.live.filter fun q => decide (keyOf (X'.C q).lits = k')) = X'.live.filter fun q => decide (keyOf (X.C q).lits = k') := List.filter_congr fun q _ => by rw [(h.same q).1]
    rw [hfil]
    obtain ⟨a, b⟩ := hR.shelf.keys i k' hk'
    by_cases e : k' = k
    · subst e
      obtain ⟨c, d, _⟩ := h.here i hk'
      refine ⟨?_, d⟩
      rw [c, a, hlive, hl]
      have f1 : l1.filter (fun q => decide (keyOf (X.C q).lits = k')) = [] := List.filter_eq_nil_iff.2 fun q hq => h1 q hq
      rw [List.filter_append, List.filter_append, f1, List.filter_cons]
      simp [hkey]
    · obtain ⟨c, d⟩ := h.high i k' hk' e
      rw [c, d]
      refine ⟨?_, b⟩
      rw [a, hlive, hl, List.filter_append, List.filter_append, List.filter_cons]
      have : ¬ keyOf (X.C p0).lits = k' := fun e2 => e (e2.symm.trans hkey)
      simp [this]
  · rw [(h.same q).1, h.ks]; exact hR.shelf.keyed q (hsub q hq)
  · rw [h.ks] at hi
    rw [h.V]
    have := hR.shelf.klen i hi
    have := h.tk.1
    by_cases e : X.ks[i] = k
    · have := (h.here i (by rw [List.getElem?_eq_getElem hi, e])).2.2
      omega
    · rw [(h.high i _ (List.getElem?_eq_getElem hi) e).1]
      omega
  · unfold SX.cs
    rw [hlive, hl, List.map_append, List.map_append, List.map_cons, hlits]
    have hn : M ∉ l1.map fun q => (X.C q).lits := fun hm => by
      obtain ⟨q, hq, e⟩ := List.mem_map.1 hm
      have := h1 q hq
      simp [e, hM] at this
    rw [List.erase_append_right _ hn, List.erase_cons_head]
    congr 1
    · exact List.map_congr_left fun q _ => (h.same q).1
    · exact List.map_congr_left fun q _ => (h.same q).1

theorem Sto.setng (h : Sto W base X fo) (n : Nat) : Sto (W.setCell ⟨X.s, 2, none⟩ (.int .i64 n)) base { X with ng := n } fo ∧ Tn base X W (W.setCell ⟨X.s, 2, none⟩ (.int .i64 n)) := by
  have far : ∀ q t Z, Blk W q t Z → t ≠ 66 → Blk (W.setCell ⟨X.s, 2, none⟩ (.int .i64 n)) q t Z := fun q t Z hq h2 => hq.far (hq.ne_ h.st h2) _
  have row : ∀ (e : TypeId) (v : Value) (m : Nat) (xs : List Value), W.ownsRow base e 1 v m xs → e ≠ 66 → (W.setCell ⟨X.s, 2, none⟩ (.int .i64 n)).ownsRow base e 1 v m xs := fun e v m xs ho h2 => own_setCell ho _ (own_blk_ne ho h.st h2)
  refine ⟨⟨?_, far _ _ _ h.fol (by decide), h.flen, row _ _ _ _ h.fnd (by decide), row _ _ _ _ h.out (by decide), h.pil.keep fun q Z hq => far _ _ _ hq (by decide), h.num, fun p hp => ?_, ?_, h.lo, h.vb⟩, ⟨(Below.refl _ _).setCell h.lo.1 _, fun q t Z hq h1 h2 h3 h4 h5 h6 => far q t Z hq h1⟩⟩
  · exact h.st.set_ 2 (.int .i64 n)
  · obtain ⟨c1, c2, c3, c4⟩ := h.cl p hp
    exact ⟨far _ _ _ c1 (by decide), c2, row _ _ _ _ c3 (by decide), c4⟩
  · obtain ⟨D, m, hm, h2⟩ := h.map
    exact ⟨D, m, hm.kept (grown_setCell W _ _) (fun e => blk_map_ne7 h.st hm (by simpa using e.symm)), h2⟩
theorem MapIs.del_old {D : DataW Value} {j : Nat} (h : MapIs X D) (hk : X.ks.findIdx? (· = k) = some j) (hl : 2 * X.V + 2 + j < X.vs.length) : MapIs (X.kpile j (.slice none 0 0) [] 0) (D.del (keyLit k)) := by
  refine ⟨h.1.del _, fun k' => ?_⟩
  show _ = DataW.held (match X.ks.findIdx? (· = k') with | some i => cutv ((X.vs.set (2 * X.V + 2 + j) (.slice none 0 0)).getD (2 * X.V + 2 + i) undef) (if i = j then 0 else X.ko i) | none => .slice none 0 0)
  by_cases e : k' = k
  · subst e
    rw [Maps.atKey_del_same, hk]
    dsimp only
    rw [getD_set_same hl, if_pos rfl]
    rfl
  · rw [Maps.atKey_del_other (keyLit_ne e), h.2 k']
    cases hf : X.ks.findIdx? (· = k') with
    | none => rfl
    | some i =>
      have hne := find_apart hk hf e
      dsimp only
      rw [getD_set_other (by omega), if_neg (by omega)]
theorem MapIs.putdel {D : DataW Value} {j : Nat} {u : Value} (h : MapIs X D) (hk : X.ks.findIdx? (· = k) = some j) (hl : 2 * X.V + 2 + j < X.vs.length) : MapIs (X.kpile j (.slice none 0 0) [] 0) ((D.put (keyLit k) (.held u)).del (keyLit k)) := by
  refine ⟨(h.1.put _ _).del _, fun k' => ?_⟩
  show _ = DataW.held (match X.ks.findIdx? (· = k') with | some i => cutv ((X.vs.set (2 * X.V + 2 + j) (.slice none 0 0)).getD (2 * X.V + 2 + i) undef) (if i = j then 0 else X.ko i) | none => .slice none 0 0)
  by_cases e : k' = k
  · subst e
    rw [Maps.atKey_del_same, hk]
    dsimp only
    rw [getD_set_same hl, if_pos rfl]
    rfl
  · rw [Maps.atKey_del_other (keyLit_ne e), Maps.atKey_put_other (keyLit_ne e), h.2 k']
    cases hf : X.ks.findIdx? (· = k') with
    | none => rfl
    | some i =>
      have hne := find_apart hk hf e
      dsimp only
      rw [getD_set_other (by omega), if_neg (by omega)]
/-- the key's row is another, and the key leaves the map -/
theorem Sto.keyputdel {j : Nat} (h : Sto W base X fo) (hk : X.ks.findIdx? (· = k) = some j) (hkl : k.length ≤ 1000000000) (htk : X.tk ≤ 1000000000) (u : Value) (ty : TypeId) :
    ∃ w5 w6, (Instr.mapUpdate 64 (.map (some X.m)) (.string ⟨k.toArray⟩) u).run Tryd.prog W = .ok () w5 ∧ Blk w5 X.s 66 X.head ∧
      (Builtin.delete_ #[64, 9] ty #[.map (some X.m), .string ⟨k.toArray⟩]).run Tryd.prog w5 = .ok (.tuple #[]) w6 ∧ Sto w6 base (X.kpile j (.slice none 0 0) [] 0) fo ∧ Tn base X W w6 := by
  obtain ⟨k1, k2⟩ := find_key hk
  have hnum := h.num.1
  have hlen := h.pil.len
  obtain ⟨D, n, hm, hn, hM⟩ := h.map
  obtain ⟨w5, hrun, hm5, hg5⟩ := hm.update mapLaw7 Tryd.underlying64 (by unfold maxLen; omega) (mapKey7 (k := k) (by unfold maxLen; omega)) (show heldE u = some (.held u, []) from rfl)
  obtain ⟨w6, hrun6, hm6, hg6⟩ := hm5.drop mapLaw7 Tryd.underlying64 (mapKey7 (k := k) (by unfold maxLen; omega)) ty
  obtain ⟨p1, p2⟩ := h.keyed_old (A := none) (c := 0) (ps := []) (d := 0) hk (Below.refl _ _) (World.grownBy.refl W _) (World.ownsRow_nil _ _ _ _) (.inr fun g hg => by simp [Value.ownBlock] at hg) (by omega) hm6 (hM.putdel hk (by omega)) ⟨_, _, hm⟩ (grown_tr7 hg5 hg6.grown)
  exact ⟨w5, w6, hrun, h.st.grown hg5 (fun e => blk_map_ne7 h.st hm (by simpa using e)), hrun6, p1, p2⟩
/-- the key's row without its first one -/
theorem Sto.keycut {j : Nat} (h : Sto W base X fo) (hk : X.ks.findIdx? (· = k) = some j) (hkl : k.length ≤ 1000000000) (htk : X.tk ≤ 1000000000) :
    ∃ w4, (Instr.mapUpdate 64 (.map (some X.m)) (.string ⟨k.toArray⟩) (cutv (X.vs.getD (2 * X.V + 2 + j) undef) (X.ko j + 1))).run Tryd.prog W = .ok () w4 ∧
      Sto w4 base (X.kpile j (X.vs.getD (2 * X.V + 2 + j) undef) (X.pss.getD (2 * X.V + 2 + j) []) (X.ko j + 1)) fo ∧ Tn base X W w4 := by
  obtain ⟨k1, k2⟩ := find_key hk
  have hnum := h.num.1
  have hlen := h.pil.len
  obtain ⟨Aj, cj, hvj, hoj⟩ := h.pil.each (2 * X.V + 2 + j) (by omega)
  obtain ⟨D, n, hm, hn, hM⟩ := h.map
  obtain ⟨w4, hrun, hm4, hg4⟩ := hm.update mapLaw7 Tryd.underlying64 (by unfold maxLen; omega) (mapKey7 (k := k) (by unfold maxLen; omega)) (show heldE (cutv (X.vs.getD (2 * X.V + 2 + j) undef) (X.ko j + 1)) = some (.held (cutv (X.vs.getD (2 * X.V + 2 + j) undef) (X.ko j + 1)), []) from rfl)
  refine ⟨w4, hrun, ?_⟩
  have hM' := hM.put_old (v := X.vs.getD (2 * X.V + 2 + j) undef) (ps := X.pss.getD (2 * X.V + 2 + j) []) (d := X.ko j + 1) hk (by omega)
  rw [hvj] at hM' hm4 ⊢
  exact h.keyed_old hk (Below.refl _ _) (World.grownBy.refl W _) hoj (.inl (by rw [hvj])) (by omega) hm4 hM' ⟨_, _, hm⟩ hg4
/-- the key leaves the map -/
theorem Sto.keydel {j : Nat} (h : Sto W base X fo) (hk : X.ks.findIdx? (· = k) = some j) (hkl : k.length ≤ 1000000000) (ty : TypeId) :
    ∃ w4, (Builtin.delete_ #[64, 9] ty #[.map (some X.m), .string ⟨k.toArray⟩]).run Tryd.prog W = .ok (.tuple #[]) w4 ∧ Sto w4 base (X.kpile j (.slice none 0 0) [] 0) fo ∧ Tn base X W w4 := by
  obtain ⟨k1, k2⟩ := find_key hk
  have hnum := h.num.1
  have hlen := h.pil.len
  obtain ⟨D, n, hm, hn, hM⟩ := h.map
  obtain ⟨w4, hrun, hm4, hg4⟩ := hm.drop mapLaw7 Tryd.underlying64 (mapKey7 (k := k) (by unfold maxLen; omega)) ty
  refine ⟨w4, hrun, ?_⟩
  exact h.keyed_old (A := none) (c := 0) (ps := []) (d := 0) hk (Below.refl _ _) (World.grownBy.refl W _) (World.ownsRow_nil _ _ _ _) (.inr fun g hg => by simp [Value.ownBlock] at hg) (Nat.le_trans hn (Nat.le_succ _)) hm4 (hM.del_old hk (by omega)) ⟨_, _, hm⟩ hg4.grown
/-- the first of a key's clauses is gone, and its row's front is cut -/
theorem less_cut {j : Nat} {ps : List Nat} {v : Value} {d : Nat} (hR : Rest7 W base X fo) (hf : X.ks.findIdx? (· = k) = some j) (hk : keyed7 X k = p0 :: rs) (hd : ps.drop d = rs) (hd2 : d ≤ ps.length) (hl : ps.length ≤ (X.pss.getD (2 * X.V + 2 + j) []).length) :
    Less7 X (({ X.cl p0 { X.C p0 with gone := true } with ng := X.ng + 1 } : SX).kpile j v ps d) p0 k := by
  obtain ⟨k1, k2⟩ := find_key hf
  have hnum := hR.sto.num.1
  have hnd := hR.sto.num.2
  have e1 : (({ X.cl p0 { X.C p0 with gone := true } with ng := X.ng + 1 } : SX).kpile j v ps d).pss = X.pss.set (2 * X.V + 2 + j) ps := rfl
  have e2 : ∀ i, (({ X.cl p0 { X.C p0 with gone := true } with ng := X.ng + 1 } : SX).kpile j v ps d).ko i = if i = j then d else X.ko i := fun i => rfl
  refine ⟨rfl, rfl, rfl, rfl, rfl, fun q => rfl, rfl, ⟨Nat.le_succ _, by show X.tk + 1 ≤ _; omega⟩, fun i hi => ?_, fun i k' hk' hne => ?_, fun i hi => ?_⟩
  · rw [e1, getD_set_other (by omega)]
  · have hij : i ≠ j := fun e => by subst e; rw [k2] at hk'; injection hk' with hk'; exact hne hk'.symm
    rw [e1, e2, getD_set_other (by omega), if_neg hij]
    exact ⟨rfl, rfl⟩
  · have hij : i = j := by
      obtain ⟨a1, a2⟩ := List.getElem?_eq_some_iff.1 hi
      obtain ⟨b1, b2⟩ := List.getElem?_eq_some_iff.1 k2
      exact (List.getElem_inj hnd).1 (a2.trans b2.symm)
    subst hij
    have hkk := (hR.shelf.keys i k hi).1
    have hkk' : (X.pss.getD (2 * X.V + 2 + i) []).drop (X.ko i) = p0 :: rs := hkk.trans hk
    rw [e1, e2, getD_set_same (by omega), if_pos rfl, hkk', hd]
    exact ⟨rfl, hd2, hl⟩
end
end Go.Proofs.YtbjccfdmedbkjaaDoor

namespace Go.Proofs.YtbjccfdmedbkjaaDoor
open Go.RowKit
set_option linter.unusedVariables false
set_option linter.unusedSimpArgs false

theorem cutv_step {Aj : Option Addr} {l c0 d g o n c : Nat} (h : cutv (.slice Aj l c0) d = .slice (some ⟨g, o, none⟩) (n + 1) c) : cutv (.slice Aj l c0) (d + 1) = .slice (some ⟨g, o + 1, none⟩) n (c - 1) := by
  cases Aj with
  | none => simp [cutv] at h
  | some a =>
    obtain ⟨g', o', p'⟩ := a
    have h' : Value.slice (some ⟨g', o' + d, p'⟩) (l - d) (c0 - d) = .slice (some ⟨g, o, none⟩) (n + 1) c := h
    injection h' with h1 h2 h3
    injection h1 with h1
    injection h1 with e1 e2 e3
    subst e1 e2 e3
    show Value.slice (some ⟨g', o' + (d + 1), none⟩) (l - (d + 1)) (c0 - (d + 1)) = _
    rw [show o' + (d + 1) = o' + d + 1 by omega, show l - (d + 1) = n by omega, show c0 - (d + 1) = c - 1 by omega]
theorem wpList_del7 {P : Program} {ops : Array Oper} {rest : List Oper} {o : Oper} {a : Act} {Q : Exit → Act → World → Prop} {w w' : World} (hg : o.guard = none) (m x : Operand) (t k : TypeId) (hop : o.op = Op.call { callee := Callee.builtin Builtin.delete, args := #[m, x], argTypes := #[t, k] })
    (u v : Value) (hm : a.eval m = u) (hx : a.eval x = v) (hrun : (Builtin.delete_ #[t, k] o.type #[u, v]).run P w = .ok (.tuple #[]) w') (hK : wpList P ops Q rest (a.put o.dst (.tuple #[])) w') : wpList P ops Q (o :: rest) a w := by
  refine wpList_plain hg fun K' hK' => ?_
  unfold Oper.wp
  simp [execOp, hop, resolve, invoke, builtin, hm, hx, hrun, Result.andThen]
  exact hK' _ _ hK
/-- Remove's answer -/
def RemoveP (base : Nat) (X : SX) (fo : List Bool) (M : List Int) (W : World) (e : Ending) (W' : World) : Prop :=
  e = .returned (.bool (decide (M ∈ X.cs))) ∧ ∃ X' : SX, Rest7 W' base X' fo ∧ Tn base X W W' ∧ Later7 W X X' ∧ X'.s = X.s ∧ X'.V = X.V ∧ X'.cs = X.cs.erase M ∧ X'.ps.length ≤ X.ps.length ∧ X'.added = X.added ∧ X'.tk ≤ X.tk + 2
theorem remove_fin {W w4 w6 w7 : World} {base : Nat} {X X6 : SX} {fo : List Bool} {M : List Int} {e : Ending} (hT : Tn base X W w4) (hT6 : Tn base X (w4.drewN 1) w6) (hs : X6.s = X.s) (hV : X6.V = X.V) (hfb : X6.fb = X.fb) (hfv : X6.fv = X.fv) (hps : X6.ps = X.ps) (hadd : X6.added = X.added) (htk : X6.tk ≤ X.tk + 2) (hcs : X6.cs = X.cs.erase M)
    (h7 : SweepP base X6 fo w6 e w7) : e = .returned (.tuple #[]) ∧ ∃ X' : SX, Rest7 w7 base X' fo ∧ Tn base X W w7 ∧ Later7 W X X' ∧ X'.s = X.s ∧ X'.V = X.V ∧ X'.cs = X.cs.erase M ∧ X'.ps.length ≤ X.ps.length ∧ X'.added = X.added ∧ X'.tk ≤ X.tk + 2 := by
  obtain ⟨rfl, X7, r1, t7, l7, s7, v7, c7, p7, a7, k7⟩ := h7
  have hT' : Tn base X W w6 := hT.trans (Tn.undrew hT6) (Later7.refl _ _)
  have hl : Later7 w6 X X6 := ⟨hfb, .inl (by rw [hfv])⟩
  exact ⟨rfl, X7, r1, hT'.trans t7 ⟨hfb, .inl (by rw [hfv])⟩, (hl.trans l7 (Nat.le_refl _)).from_ hT'.below.size, s7.trans hs, v7.trans hV, c7.trans hcs, by rw [← hps]; exact p7, a7.trans hadd, by rw [k7]; exact htk⟩
set_option maxRecDepth 100000 in
set_option maxHeartbeats 1000000 in
theorem remove_any7 {W : World} {base c B : Nat} {X : SX} {fo : List Bool} {L : List Int} {A : Option Addr} (h : Rest7 W base X fo) (hA : Ints W B A L) (hB : B ≤ W.heap.size) (hn : L.length ≤ 1000000) (hL : ∀ x, x ∈ L → -1000000 ≤ x ∧ x ≤ 1000000) (hT : Tab7 W) (htk : X.tk ≤ 1000000) :
    Calls Tryd.prog 23 #[.pointer (some ⟨X.s, 0, none⟩), .slice A L.length c] W (RemoveP base X fo (normOf L) W) := by
  have hvb := h.sto.vb
  have hps := h.wf.plen
  have hBW : base ≤ W.heap.size := by have := h.sto.lo.1; have := h.sto.st.lt; omega
  have hks := key_short hn hL
  have hmem : 0 < (keyed7 X (keyOf (normOf L))).length ↔ normOf L ∈ X.cs := mem_keyed7
  have HNC := Lib.hid (norm_clause_of (fun p cap fv w => Tryd.slices_SortFunc_none (α := Int) p cap fv w) L B A c W ⟨by omega, hL⟩ hA hB)
  obtain ⟨M, hMM⟩ : ∃ M, M = normOf L := ⟨_, rfl⟩
  have hMl : M.length ≤ L.length := by rw [hMM]; exact norm_len L
  have HML : Hid (∀ x, x ∈ M → -1000000 ≤ x ∧ x ≤ 1000000) := Lib.hid fun x hx => hL x (mem_normOf.1 (by rw [← hMM]; exact hx))
  rw [← hMM] at HNC hmem hks ⊢
  have HT := Lib.hid hT
  have H := Lib.hid h
  obtain ⟨Am, cm, hmv, hmc, hrow⟩ := h.row (keyOf M)
  obtain ⟨kk, hkk⟩ : ∃ kk, kk = keyOf M := ⟨_, rfl⟩
  rw [← hkk] at hmv hmc hmem hks hrow
  have HKK := Lib.hid hkk
  clear h hA hB hL hT hMM hkk
  cases hkd : keyed7 X kk with
  | nil =>
    rw [hkd] at hmv hmem
    have hno : M ∉ X.cs := fun hm => by have := hmem.2 hm; simp at this
    have HNO := Lib.hid hno
    have HMV : Hid (mapVal X kk = .slice Am 0 cm) := Lib.hid hmv
    clear hmv hmc hrow hmem hkd hno
    go_enter Tryd.func23, Tryd.ntmps23
    go_wp2_with fail
    refine HNC.out.mono ?_
    rintro e w1 ⟨A1, c1, rfl, hown1, hb1⟩
    have HKY := Lib.hid (key_any07 M w1.heap.size A1 c1 w1 (by omega) HML.out (ints_of_own hown1) (Nat.le_refl _) (HT.out.same hb1))
    have HB1 := Lib.hid hb1
    clear hown1 hb1
    go_wp2_with fail
    refine HKY.out.mono ?_
    rintro e w2 ⟨rfl, hb2⟩
    have HB2 := Lib.hid (HB1.out.trans (hb2.mono HB1.out.size))
    have s6 : w2.cell? ⟨X.s, 6, none⟩ = some (.map (some X.m)) := (H.out.below HB2.out).sto.st.cell 6
    have hlk := (H.out.below HB2.out).sto.look (k := kk) (by unfold maxLen; omega)
    rw [HMV.out] at hlk
    rw [← HKK.out]
    clear hb2
    go_wp2
    go_ret
    exact ⟨by rw [decide_eq_false HNO.out]; rfl, X, H.out.below HB2.out, Tn.of_below HB2.out hBW, Later7.refl _ _, rfl, rfl, (List.erase_of_not_mem HNO.out).symm, Nat.le_refl _, rfl, by omega⟩
  | cons p0 rs =>
    rw [hkd] at hmv hmc hrow hmem
    have hyes : M ∈ X.cs := hmem.1 (by simp)
    obtain ⟨g, off, rfl, hc0⟩ := hrow 0 (by simp)
    have hp0m : p0 ∈ keyed7 X kk := by rw [hkd]; simp
    obtain ⟨hp0l, hp0k⟩ := List.mem_filter.1 hp0m
    obtain ⟨hp0s, hp0g⟩ := SX.mem_live.1 hp0l
    have hin : kk ∈ X.ks := by have := H.out.shelf.keyed p0 hp0l; rw [show keyOf (X.C p0).lits = kk by simpa using hp0k] at this; exact this
    obtain ⟨j, hf⟩ : ∃ j, X.ks.findIdx? (· = kk) = some j := by
      cases hf : X.ks.findIdx? (· = kk) with
      | some j => exact ⟨j, rfl⟩
      | none => have := List.findIdx?_eq_none_iff.1 hf kk hin; simp at this
    have HMV : Hid (mapVal X kk = .slice (some ⟨g, off, none⟩) (rs.length + 1) cm) := Lib.hid hmv
    have hcut : cutv (X.vs.getD (2 * X.V + 2 + j) undef) (X.ko j + 1) = .slice (some ⟨g, off + 1, none⟩) rs.length (cm - 1) := by
      obtain ⟨Aj, cj, hvj, hoj⟩ := H.out.sto.pil.each (2 * X.V + 2 + j) (by have := H.out.sto.num.1; have := (find_key hf).1; omega)
      unfold mapVal at hmv
      rw [hf] at hmv
      dsimp only at hmv
      rw [hvj] at hmv ⊢
      exact cutv_step hmv
    have hrl : rs.length ≤ 1000000000 := by
      have e : (keyed7 X kk).length = rs.length + 1 := by rw [hkd]; simp
      have h1 := List.length_filter_le (fun p => decide (keyOf (X.C p).lits = kk)) X.live
      have h2 := List.length_filter_le (fun p => !(X.C p).gone) X.ps
      unfold keyed7 SX.live at *
      omega
    obtain ⟨n, hnr⟩ : ∃ n, n = rs.length := ⟨_, rfl⟩
    have hmc' : n + 1 ≤ cm := by rw [hnr]; exact hmc
    rw [← hnr] at HMV hcut hrl
    have hng : X.ng ≤ 1000000000 := by have := H.out.shelf.ng; omega
    obtain ⟨ng, hngg⟩ : ∃ ng, ng = X.ng := ⟨_, rfl⟩
    rw [← hngg] at hng
    have hwng : IntKind.i64.wrap ((ng : Int) + 1) = (ng : Int) + 1 := IntWalk.i64_in _ (by omega)
    have HP := Lib.hid (⟨hp0s, hp0g, hf, hcut⟩ : _ ∧ _ ∧ _ ∧ _)
    have HNG := Lib.hid hngg
    have HNR := Lib.hid hnr
    have HYES := Lib.hid hyes
    have HKD := Lib.hid hkd
    have HC0 : Hid (W.cell? ⟨g, off, none⟩ = some (.pointer (some ⟨p0, 0, none⟩))) := Lib.hid hc0
    clear hmv hmc hrow hmem hkd hyes hc0 hp0m hp0l hp0k hp0s hp0g hin hf hcut hngg hnr
    go_enter Tryd.func23, Tryd.ntmps23
    go_wp2_with fail
    refine HNC.out.mono ?_
    rintro e w1 ⟨A1, c1, rfl, hown1, hb1⟩
    have HKY := Lib.hid (key_any07 M w1.heap.size A1 c1 w1 (by omega) HML.out (ints_of_own hown1) (Nat.le_refl _) (HT.out.same hb1))
    have HB1 := Lib.hid hb1
    clear hown1 hb1
    go_wp2_with fail
    refine HKY.out.mono ?_
    rintro e w2 ⟨rfl, hb2⟩
    have hbw2 := HB1.out.trans (hb2.mono HB1.out.size)
    have HB2 := Lib.hid hbw2
    have hR2 := H.out.below hbw2
    have HR2 := Lib.hid hR2
    obtain ⟨hp0s, hp0g, hf, hcut⟩ := HP.out
    have s6 : w2.cell? ⟨X.s, 6, none⟩ = some (.map (some X.m)) := hR2.sto.st.cell 6
    have s2 : w2.cell? ⟨X.s, 2, none⟩ = some (.int .i64 ng) := by rw [HNG.out]; exact hR2.sto.st.cell 2
    have f2 : w2.frozen? ⟨X.s, 2, none⟩ = false := hR2.sto.st.frozen 2
    have hlk := hR2.sto.look (k := kk) (by unfold maxLen; omega)
    rw [HMV.out] at hlk
    have l0 : w2.cell? ⟨g, off, none⟩ = some (.pointer (some ⟨p0, 0, none⟩)) := (hbw2.cell (World.block_lt_of_cell? _ _ HC0.out)).trans HC0.out
    have hpb := (hR2.sto.cl p0 hp0s).1
    have q5 : w2.cell? ⟨p0, 5, none⟩ = some (.bool false) := by rw [← hp0g]; exact hpb.cell 5
    have f5 := hpb.frozen 5
    have hps' : ¬ p0 = X.s := hpb.ne_ hR2.sto.st (by decide)
    have hsp' : ¬ X.s = p0 := fun e => hps' e.symm
    obtain ⟨a1, a2⟩ := hR2.sto.clauseSet hp0s { X.C p0 with gone := true } 5 (.bool true) rfl rfl rfl
    obtain ⟨b1, b2⟩ := a1.setng (ng + 1)
    rw [show ((ng + 1 : Nat) : Int) = (ng : Int) + 1 by omega] at b1 b2
    have HB1S := Lib.hid b1
    have HTW : Hid (Tn base X W ((w2.setCell ⟨p0, 5, none⟩ (.bool true)).setCell ⟨X.s, 2, none⟩ (.int .i64 ((ng : Int) + 1)))) := Lib.hid (((Tn.of_below hbw2 hBW).trans a2 (Later7.refl _ _)).trans b2.cl (Later7.refl _ _))
    have hcs : (X.pss.getD (2 * X.V + 2 + j) []).drop (X.ko j) = p0 :: rs := ((H.out.shelf.keys j kk (find_key hf).2).1).trans HKD.out
    have HCS := Lib.hid hcs
    have hko := (H.out.shelf.keys j kk (find_key hf).2).2
    have HKO := Lib.hid hko
    have HF := Lib.hid hf
    have HCUT := Lib.hid hcut
    have HP0 := Lib.hid hp0s
    rw [← HKK.out]
    rcases Nat.eq_zero_or_pos n with h0 | h0
    · subst h0
      have hrs : rs = [] := List.length_eq_zero_iff.1 HNR.out.symm
      have HRS := Lib.hid hrs
      have hkp := fun (u : Value) (ty : TypeId) => (HB1S.out.drewN 1).keyputdel (j := j) hf (by omega) (by show X.tk ≤ _; omega) u ty
      have HKP := Lib.hid hkp
      have hless := less_cut (v := .slice none 0 0) (ps := []) (d := 0) H.out hf HKD.out (by simpa using hrs.symm) (Nat.le_refl _) (Nat.zero_le _)
      have HLE := Lib.hid hless
      have hcp : (1 : Int) ≤ (cm : Int) := by omega
      clear hbw2 hR2 hp0s hp0g hf hcut hpb a1 a2 b1 b2 hb2 hcs hko hrs hkp hless
      go_wp2
      by_cases hcm : cm = 1
      · subst hcm
        obtain ⟨w5, w6, hup, hb5, hdl, u1, u2⟩ := HKP.out (.slice (some ⟨g, off, none⟩) 0 0) 0
        have hup' : (Instr.mapUpdate 64 (.map (some X.m)) (.string ⟨kk.toArray⟩) (.slice (some ⟨g, off, none⟩) 0 0)).run Tryd.prog (((w2.setCell ⟨p0, 5, none⟩ (.bool true)).setCell ⟨X.s, 2, none⟩ (.int .i64 ((ng : Int) + 1))).drew) = .ok () w5 := hup
        clear hup
        go_region
        have s6' : w5.cell? ⟨X.s, 6, none⟩ = some (.map (some X.m)) := hb5.cell 6
        have u1' := u1
        rw [HNG.out] at u1'
        have hrest := HLE.out.rest H.out u1' HKD.out HKK.out
        obtain ⟨X6, x8, x1, x2, x3, x4, x5, x6, x7, x9⟩ : ∃ X6 : SX, Rest7 w6 base X6 fo ∧ X6.s = X.s ∧ X6.V = X.V ∧ X6.fb = X.fb ∧ X6.fv = X.fv ∧ X6.ps = X.ps ∧ X6.added = X.added ∧ X6.tk ≤ X.tk + 2 ∧ X6.cs = X.cs.erase M := ⟨_, hrest.1, rfl, rfl, rfl, rfl, rfl, rfl, (by show X.tk + 1 ≤ _; omega), hrest.2⟩
        have hswp := sweep_any7 x8
        rw [x1] at hswp
        have HSW := Lib.hid hswp
        have HU2 := Lib.hid u2
        have HX6 := Lib.hid (⟨x1, x2, x3, x4, x5, x6, x7, x9⟩ : _ ∧ _ ∧ _ ∧ _ ∧ _ ∧ _ ∧ _ ∧ _)
        clear hb5 u1 u1' u2 hrest x1 x2 x3 x4 x5 x6 x7 x8 x9 hswp s2 f2 q5 f5 l0 hlk s6
        go_wp2_with (at_delete; refine wpList_del7 rfl _ _ _ _ rfl _ _ rfl rfl hdl ?_)
        refine HSW.out.mono ?_
        rintro e7 w7 hsw
        obtain ⟨x1, x2, x3, x4, x5, x6, x7, x9⟩ := HX6.out
        obtain ⟨rfl, hfin⟩ := remove_fin (M := M) HTW.out (show Tn base X _ w6 from ⟨HU2.out.below, HU2.out.blk⟩) x1 x2 x3 x4 x5 x6 x7 x9 hsw
        clear x1 x2 x3 x4 x5 x6 x7 x9 hsw
        go_wp2
        go_ret
        exact ⟨by rw [decide_eq_true HYES.out]; rfl, hfin⟩
      · obtain ⟨w5, w6, hup, hb5, hdl, u1, u2⟩ := HKP.out (.slice (some ⟨g, off + 1, none⟩) 0 (cm - 1)) 0
        have hup' : (Instr.mapUpdate 64 (.map (some X.m)) (.string ⟨kk.toArray⟩) (.slice (some ⟨g, off + 1, none⟩) 0 (cm - 1))).run Tryd.prog (((w2.setCell ⟨p0, 5, none⟩ (.bool true)).setCell ⟨X.s, 2, none⟩ (.int .i64 ((ng : Int) + 1))).drew) = .ok () w5 := hup
        clear hup
        go_region
        have s6' : w5.cell? ⟨X.s, 6, none⟩ = some (.map (some X.m)) := hb5.cell 6
        have u1' := u1
        rw [HNG.out] at u1'
        have hrest := HLE.out.rest H.out u1' HKD.out HKK.out
        obtain ⟨X6, x8, x1, x2, x3, x4, x5, x6, x7, x9⟩ : ∃ X6 : SX, Rest7 w6 base X6 fo ∧ X6.s = X.s ∧ X6.V = X.V ∧ X6.fb = X.fb ∧ X6.fv = X.fv ∧ X6.ps = X.ps ∧ X6.added = X.added ∧ X6.tk ≤ X.tk + 2 ∧ X6.cs = X.cs.erase M := ⟨_, hrest.1, rfl, rfl, rfl, rfl, rfl, rfl, (by show X.tk + 1 ≤ _; omega), hrest.2⟩
        have hswp := sweep_any7 x8
        rw [x1] at hswp
        have HSW := Lib.hid hswp
        have HU2 := Lib.hid u2
        have HX6 := Lib.hid (⟨x1, x2, x3, x4, x5, x6, x7, x9⟩ : _ ∧ _ ∧ _ ∧ _ ∧ _ ∧ _ ∧ _ ∧ _)
        clear hb5 u1 u1' u2 hrest x1 x2 x3 x4 x5 x6 x7 x8 x9 hswp s2 f2 q5 f5 l0 hlk s6
        go_wp2_with (at_delete; refine wpList_del7 rfl _ _ _ _ rfl _ _ rfl rfl hdl ?_)
        refine HSW.out.mono ?_
        rintro e7 w7 hsw
        obtain ⟨x1, x2, x3, x4, x5, x6, x7, x9⟩ := HX6.out
        obtain ⟨rfl, hfin⟩ := remove_fin (M := M) HTW.out (show Tn base X _ w6 from ⟨HU2.out.below, HU2.out.blk⟩) x1 x2 x3 x4 x5 x6 x7 x9 hsw
        clear x1 x2 x3 x4 x5 x6 x7 x9 hsw
        go_wp2
        go_ret
        exact ⟨by rw [decide_eq_true HYES.out]; rfl, hfin⟩
    · obtain ⟨w5, hup, u1, u2⟩ := (HB1S.out.drewN 1).keycut (j := j) hf (by omega) (by show X.tk ≤ _; omega)
      have hup' : (Instr.mapUpdate 64 (.map (some X.m)) (.string ⟨kk.toArray⟩) (.slice (some ⟨g, off + 1, none⟩) n (cm - 1))).run Tryd.prog (((w2.setCell ⟨p0, 5, none⟩ (.bool true)).setCell ⟨X.s, 2, none⟩ (.int .i64 ((ng : Int) + 1))).drew) = .ok () w5 := by
        rw [← hcut]; exact hup
      have hdl2 : (X.pss.getD (2 * X.V + 2 + j) []).drop (X.ko j + 1) = rs := by
        rw [← List.drop_drop, hcs]; rfl
      have hlen1 : X.ko j + 1 ≤ (X.pss.getD (2 * X.V + 2 + j) []).length := by
        have e := congrArg List.length hcs
        rw [List.length_drop, List.length_cons] at e
        omega
      have hless := less_cut (v := X.vs.getD (2 * X.V + 2 + j) undef) (ps := X.pss.getD (2 * X.V + 2 + j) []) (d := X.ko j + 1) H.out hf HKD.out hdl2 hlen1 (Nat.le_refl _)
      have u1' := u1
      rw [HNG.out] at u1'
      have hrest := hless.rest H.out u1' HKD.out HKK.out
      obtain ⟨X6, x8, x1, x2, x3, x4, x5, x6, x7, x9⟩ : ∃ X6 : SX, Rest7 w5 base X6 fo ∧ X6.s = X.s ∧ X6.V = X.V ∧ X6.fb = X.fb ∧ X6.fv = X.fv ∧ X6.ps = X.ps ∧ X6.added = X.added ∧ X6.tk ≤ X.tk + 2 ∧ X6.cs = X.cs.erase M := ⟨_, hrest.1, rfl, rfl, rfl, rfl, rfl, rfl, (by show X.tk + 1 ≤ _; omega), hrest.2⟩
      have hswp := sweep_any7 x8
      rw [x1] at hswp
      have HSW := Lib.hid hswp
      have HU2 := Lib.hid u2
      have HX6 := Lib.hid (⟨x1, x2, x3, x4, x5, x6, x7, x9⟩ : _ ∧ _ ∧ _ ∧ _ ∧ _ ∧ _ ∧ _ ∧ _)
      have hcp : (1 : Int) ≤ (cm : Int) := by omega
      have hcm : ¬ cm = 1 := by omega
      have hn1 : ¬ n = 0 := by omega
      have hn2 : ¬ (n : Int) = 0 := by omega
      have hn3 : (1 : Int) ≤ (n : Int) + 1 := by omega
      clear hbw2 hR2 hp0s hp0g hf hcut hpb a1 a2 b1 b2 hb2 hcs hko hup u1 u1' u2 hrest hless hdl2 hlen1 x1 x2 x3 x4 x5 x6 x7 x8 x9 hswp
      go_wp2
      go_region
      go_wp2_with fail
      refine HSW.out.mono ?_
      rintro e7 w7 hsw
      obtain ⟨x1, x2, x3, x4, x5, x6, x7, x9⟩ := HX6.out
      obtain ⟨rfl, hfin⟩ := remove_fin (M := M) HTW.out (show Tn base X _ w5 from ⟨HU2.out.below, HU2.out.blk⟩) x1 x2 x3 x4 x5 x6 x7 x9 hsw
      clear x1 x2 x3 x4 x5 x6 x7 x9 hsw
      go_wp2
      go_ret
      exact ⟨by rw [decide_eq_true HYES.out]; rfl, hfin⟩
end Go.Proofs.YtbjccfdmedbkjaaDoor
