/- Copies of rows, rows turned round, rows cut. Back. Assignment. -/
import Derived.Test.YtfmcgodgflpggaaTrlB
import Derived.Deep.LoopGhost
import Derived.Deep.DeepCutAuto
import Derived.Deep.CutBlock
import Derived.Deep.CutRange
import Derived.Deep.RegionLaw
namespace Go.Proofs.Ytfmcgodgflpggaa
open Go.RowKit
set_option linter.unusedVariables false
set_option linter.unusedSimpArgs false

theorem run_front12 {P : Program} {t e : TypeId} (ht : P.underlying t = some (.slice e)) (w : World) (hz : (sizeOf e).run P w = .ok 1 w) (b off n c k : Nat) (hk : k ≤ c) : (Instr.slice t (.slice (some ⟨b, off, none⟩) n c) none (some (.int .i64 k)) none).run P w = .ok (.slice (some ⟨b, off, none⟩) k c) w := by
  have h1 : (0 : Int) ≤ (k : Int) := Int.natCast_nonneg _
  have h2 : (k : Int) ≤ (c : Int) := by omega
  simp [Instr.slice, run_underlying ht, Instr.sliceBounds, go_sem, h1, h2, hz, Result.andThen]
theorem run_back12 {P : Program} {t e : TypeId} (ht : P.underlying t = some (.slice e)) (w : World) (hz : (sizeOf e).run P w = .ok 1 w) (b off n c k : Nat) (hk : k ≤ n) (hn : n ≤ c) : (Instr.slice t (.slice (some ⟨b, off, none⟩) n c) (some (.int .i64 k)) none none).run P w = .ok (.slice (if c = k then some ⟨b, off, none⟩ else some ⟨b, off + k, none⟩) (n - k) (c - k)) w := by
  have h1 : (0 : Int) ≤ (k : Int) := Int.natCast_nonneg _
  have h2 : (k : Int) ≤ (n : Int) := by omega
  have h3 : (n : Int) ≤ (c : Int) := by omega
  simp [Instr.slice, run_underlying ht, Instr.sliceBounds, go_sem, h1, h2, h3, hk, hn, hz, Result.andThen]
theorem wpList_slice12 {P : Program} {ops : Array Oper} {rest : List Oper} {o : Oper} {a : Act} {Q : Exit → Act → World → Prop} {w : World} (hg : o.guard = none) (t : TypeId) (x : Operand) (lo hi mx : Option Operand) (hop : o.op = Op.slice t x lo hi mx)
    (v r : Value) (hx : a.eval x = v) (lo' hi' mx' : Option Value) (hlo : lo.map a.eval = lo') (hhi : hi.map a.eval = hi') (hmx : mx.map a.eval = mx') (hrun : (Instr.slice t v lo' hi' mx').run P w = .ok r w) (hund : P.underlying t = some (.slice (P.elem t))) (hK : wpList P ops Q rest (a.put o.dst r) w) : wpList P ops Q (o :: rest) a w := by
  refine wpList_plain hg fun K' hK' => ?_
  subst hlo hhi hmx
  unfold Oper.wp
  simp [execOp, hop, hx, hrun, run_sliceAt_slice, hund, Result.andThen]
  exact hK' _ _ hK
theorem own_put12 {w : World} {base e L n c : Nat} {xs : List Value} (h : w.ownsRow base e 1 (.slice (some ⟨L, 0, none⟩) n c) n xs) (j : Nat) (u : Value) : (w.setCell ⟨L, j, none⟩ u).ownsRow base e 1 (.slice (some ⟨L, 0, none⟩) n c) n (xs.set j u) := by
  refine ⟨by rw [List.length_set]; exact h.1, ?_⟩
  rcases h.2 with ⟨hv, _⟩ | ⟨g', cap', cur, hv, hb', hg', hnc, hmx, hcs, htk⟩
  · cases hv
  · injection hv with hA _ hC
    injection hA with hA
    injection hA with hA
    subst hA hC
    refine .inr ⟨L, c, cur.setIfInBounds j u, rfl, hb', ?_, hnc, hmx, by rw [Array.size_setIfInBounds]; exact hcs, ?_⟩
    · simp [World.setCell, Array.getElem?_modify, hg']
    · rw [Array.toList_setIfInBounds, List.take_set, htk]

set_option maxHeartbeats 1000000 in
theorem clone_int (n : Nat) (f : Nat → Value) (B : Nat) (A : Option Addr) (c : Nat) (w : World) (hn : n ≤ 1000000) (h1 : ∀ j, j < n → (f j).oneCell' = true) (h : Cells w B A n f) (hB : B ≤ w.heap.size) :
    Calls Try.prog 54 #[.slice A n c] w fun e w' => ∃ A' c', e = .returned (.slice A' n c') ∧ w'.ownsRow w.heap.size 3 1 (.slice A' n c') n ((List.range n).map f) ∧ Below w.heap.size w w' := by
  have hnil := fun (w : World) (a : Option Addr) (n c : Nat) => Lib.run_eql_slice_nil (P := Try.prog) w 33 3 a n c 0 0 Try.underlying33
  obtain ⟨i0, hi, hz0, hz1, hz2⟩ := info_parts infoI12
  have H := Lib.hid h
  have H1 := Lib.hid h1
  clear h h1
  rcases A with _ | ad
  · go_enter Try.func54, Try.ntmps54
    go_wp2
    go_ret
    have h0 : n = 0 := by
      rcases Nat.eq_zero_or_pos n with h0 | h0
      · exact h0
      · obtain ⟨b, off, e, _⟩ := H.out h0
        cases e
    subst h0
    exact ⟨_, _, rfl, World.ownsRow_nil _ _ _ _, Below.refl _ _⟩
  · go_enter Try.func54, Try.ntmps54
    go_wp2_with (at_builtin; refine wpList_append_cells _ rfl _ _ 33 rfl w.heap.size 3 i0 (.int .i64 0) 8 Try.underlying33 hi hz0 hz1 hz2 rfl _ 0 [] rfl (World.ownsRow_lit w #[] 0 (Nat.le_refl _) (Nat.zero_le _) rfl) B _ n _ f rfl (H.out.alloc hB _) H1.out (by unfold maxLen; omega) (by omega) (by simp) ?_)
    intro v' w1 hown hg _
    have HO := Lib.hid hown
    have HG := Lib.hid hg
    clear hown hg
    go_wp2
    go_ret
    have ho : w1.ownsRow w.heap.size 3 1 v' n ((List.range n).map f) := by simpa using HO.out
    obtain ⟨A', c', hv', _⟩ := own_slice ho
    rw [hv'] at ho ⊢
    refine ⟨_, _, rfl, ho, ((Below.refl _ _).alloc (Nat.le_refl _) _).grown HG.out (by simp) (fun k hk => ?_)⟩
    simp [Value.ownBlock] at hk
    omega

set_option maxHeartbeats 1000000 in
theorem clone_bool (n : Nat) (f : Nat → Value) (B : Nat) (A : Option Addr) (c : Nat) (w : World) (hn : n ≤ 1000000) (h1 : ∀ j, j < n → (f j).oneCell' = true) (h : Cells w B A n f) (hB : B ≤ w.heap.size) :
    Calls Try.prog 41 #[.slice A n c] w fun e w' => ∃ A' c', e = .returned (.slice A' n c') ∧ w'.ownsRow w.heap.size 4 1 (.slice A' n c') n ((List.range n).map f) ∧ Below w.heap.size w w' := by
  have hnil := fun (w : World) (a : Option Addr) (n c : Nat) => Lib.run_eql_slice_nil (P := Try.prog) w 55 4 a n c 0 0 Try.underlying55
  obtain ⟨i0, hi, hz0, hz1, hz2⟩ := info_parts infoB12
  have H := Lib.hid h
  have H1 := Lib.hid h1
  clear h h1
  rcases A with _ | ad
  · go_enter Try.func41, Try.ntmps41
    go_wp2
    go_ret
    have h0 : n = 0 := by
      rcases Nat.eq_zero_or_pos n with h0 | h0
      · exact h0
      · obtain ⟨b, off, e, _⟩ := H.out h0
        cases e
    subst h0
    exact ⟨_, _, rfl, World.ownsRow_nil _ _ _ _, Below.refl _ _⟩
  · go_enter Try.func41, Try.ntmps41
    go_wp2_with (at_builtin; refine wpList_append_cells _ rfl _ _ 55 rfl w.heap.size 4 i0 (.bool false) 1 Try.underlying55 hi hz0 hz1 hz2 rfl _ 0 [] rfl (World.ownsRow_lit w #[] 0 (Nat.le_refl _) (Nat.zero_le _) rfl) B _ n _ f rfl (H.out.alloc hB _) H1.out (by unfold maxLen; omega) (by omega) (by simp) ?_)
    intro v' w1 hown hg _
    have HO := Lib.hid hown
    have HG := Lib.hid hg
    clear hown hg
    go_wp2
    go_ret
    have ho : w1.ownsRow w.heap.size 4 1 v' n ((List.range n).map f) := by simpa using HO.out
    obtain ⟨A', c', hv', _⟩ := own_slice ho
    rw [hv'] at ho ⊢
    refine ⟨_, _, rfl, ho, ((Below.refl _ _).alloc (Nat.le_refl _) _).grown HG.out (by simp) (fun k hk => ?_)⟩
    simp [Value.ownBlock] at hk
    omega

theorem grown_drew12 {a b : World} {row : Option Nat} (h : a.grownBy b row) : a.grownBy b.drew row := ⟨h.os, h.tape, h.output, h.size, h.block⟩
theorem own_take {w : World} {base e n c k : Nat} {A : Option Addr} {xs : List Value} (h : w.ownsRow base e 1 (.slice A n c) n xs) (hk : k ≤ n) (hA : A ≠ none) : w.ownsRow base e 1 (.slice A k c) k (xs.take k) := by
  have hl := h.1
  rcases h.2 with ⟨hv, _⟩ | ⟨g', cap', cur, hv, hb', hg', hnc, hmx, hcs, htk⟩
  · injection hv with hv
    exact absurd hv hA
  · injection hv with hv _ hc
    subst hv hc
    refine ⟨?_, .inr ⟨g', c, cur, rfl, hb', hg', by omega, hmx, hcs, ?_⟩⟩
    · rw [List.length_take]; omega
    · rw [← htk, List.take_take]
      congr 1
      omega

/-- a row, its outer k places on either side turned round -/
def rv (xs : List Int) (k : Nat) : List Int := (List.range xs.length).map fun i => if i < k ∨ xs.length - k ≤ i then xs.getD (xs.length - 1 - i) 0 else xs.getD i 0
theorem rv_len (xs : List Int) (k : Nat) : (rv xs k).length = xs.length := by simp [rv]
theorem rv_zero (xs : List Int) : rv xs 0 = xs := by
  apply List.ext_getElem
  · simp [rv]
  · intro i h1 h2
    simp [rv, List.getD, h2]
    omega
theorem rv_get {xs : List Int} {k i : Nat} (h : i < xs.length) : (rv xs k).getD i 0 = if i < k ∨ xs.length - k ≤ i then xs.getD (xs.length - 1 - i) 0 else xs.getD i 0 := by
  simp [rv, List.getD, h]
theorem rv_full {xs : List Int} {k : Nat} (h : xs.length ≤ 2 * k + 1) : rv xs k = xs.reverse := by
  apply List.ext_getElem
  · simp [rv]
  · intro i h1 h2
    have h3 : i < xs.length := by simpa using h2
    rw [List.getElem_reverse]
    simp only [rv, List.getElem_map, List.getElem_range]
    by_cases hc : i < k ∨ xs.length - k ≤ i
    · rw [if_pos hc]
      simp [List.getD, show xs.length - 1 - i < xs.length by omega]
    · rw [if_neg hc]
      have : xs.length - 1 - i = i := by omega
      simp only [this]
      simp [List.getD, h3]
theorem rv_step {xs : List Int} {k : Nat} (h : 2 * k + 1 < xs.length) : ((rv xs k).set k (xs.getD (xs.length - 1 - k) 0)).set (xs.length - 1 - k) (xs.getD k 0) = rv xs (k + 1) := by
  apply List.ext_getElem
  · simp [rv]
  · intro i h1 h2
    have h3 : i < xs.length := by simpa [rv] using h2
    rw [List.getElem_set, List.getElem_set]
    simp only [rv, List.getElem_map, List.getElem_range]
    by_cases e1 : xs.length - 1 - k = i
    · rw [if_pos e1, if_pos (by omega)]
      congr 1
      omega
    · rw [if_neg e1]
      by_cases e2 : k = i
      · rw [if_pos e2, if_pos (by omega), e2]
      · rw [if_neg e2]
        by_cases hc : i < k ∨ xs.length - k ≤ i
        · rw [if_pos hc, if_pos (by omega)]
        · rw [if_neg hc, if_neg (by omega)]

set_option maxHeartbeats 2000000 in
theorem reverse_any {base L c : Nat} {xs : List Int} {w : World} (h : w.ownsRow base 3 1 (.slice (some ⟨L, 0, none⟩) xs.length c) xs.length (xs.map (Value.int .i64))) (hn : xs.length ≤ 1000000) :
    Calls Try.prog 55 #[.slice (some ⟨L, 0, none⟩) xs.length c] w fun e w' => e = .returned (.tuple #[]) ∧ w'.ownsRow base 3 1 (.slice (some ⟨L, 0, none⟩) xs.length c) xs.length (xs.reverse.map (Value.int .i64)) ∧ w.grownBy w' (some L) := by
  obtain ⟨n, hnn⟩ : ∃ n, xs.length = n := ⟨_, rfl⟩
  rw [hnn] at h ⊢
  have HN := Lib.hid hnn
  have H := Lib.hid h
  have hle : n ≤ 1000000 := by omega
  clear h hn hnn
  go_enter Try.func55, Try.ntmps55
  go_wp2
  go_loopg [2, 3] (n + 1) (fun gk i j wr => ∃ k : Nat, 2 * k ≤ n + 1 ∧ k ≤ n ∧ gk = n - k + 1 ∧ i = .int .i64 k ∧ j = .int .i64 ((n : Int) - 1 - k) ∧ Hid (wr.ownsRow base 3 1 (.slice (some ⟨L, 0, none⟩) n c) n ((rv xs k).map (Value.int .i64))) ∧ Hid (w.grownBy wr (some L)))
  case atStart => exact ⟨0, by omega, by omega, by omega, rfl, by simp, Lib.hid (by rw [rv_zero]; exact H.out), Lib.hid (World.grownBy.refl _ _)⟩
  case round =>
    obtain ⟨k, hk, hkn, rfl, rfl, rfl, HO, HG⟩ := hrel
    by_cases hlt : 2 * k + 1 < n
    · obtain ⟨m, hm⟩ : ∃ m : Nat, m = n - 1 - k := ⟨_, rfl⟩
      have hm1 : ((n : Int) - 1 - (k : Int)) = (m : Int) := by omega
      have hkm : k < m := by omega
      have hmn : m < n := by omega
      have hkI : (k : Int) < (m : Int) := by omega
      have q1 := World.ownsRow.cellAt HO.out k (by omega)
      have q2 := World.ownsRow.cellAt HO.out m (by omega)
      have f1 := World.ownsRow.frozenAt HO.out k
      have f2 := World.ownsRow.frozenAt HO.out m
      have v1 : ((rv xs k).map (Value.int .i64))[k]? = some (.int .i64 (xs.getD k 0)) := by
        have := rv_get (xs := xs) (k := k) (i := k) (by rw [HN.out]; omega)
        rw [if_neg (by rw [HN.out]; omega)] at this
        rw [List.getElem?_map, List.getElem?_eq_getElem (by rw [rv_len, HN.out]; omega)]
        rw [List.getD, List.getElem?_eq_getElem (by rw [rv_len, HN.out]; omega)] at this
        simpa using this
      have v2 : ((rv xs k).map (Value.int .i64))[m]? = some (.int .i64 (xs.getD m 0)) := by
        have := rv_get (xs := xs) (k := k) (i := m) (by rw [HN.out]; omega)
        rw [if_neg (by rw [HN.out]; omega)] at this
        rw [List.getElem?_map, List.getElem?_eq_getElem (by rw [rv_len, HN.out]; omega)]
        rw [List.getD, List.getElem?_eq_getElem (by rw [rv_len, HN.out]; omega)] at this
        simpa using this
      rw [v1] at q1
      rw [v2] at q2
      have HS := Lib.hid (by
        have := own_put12 (own_put12 HO.out k (.int .i64 (xs.getD m 0))) m (.int .i64 (xs.getD k 0))
        rw [← List.map_set, ← List.map_set] at this
        have e := rv_step (xs := xs) (k := k) (by rw [HN.out]; omega)
        rw [HN.out, ← hm] at e
        rw [e] at this
        exact this)
      have HM := Lib.hid hm
      obtain ⟨x, hx⟩ : ∃ x, xs.getD k 0 = x := ⟨_, rfl⟩
      obtain ⟨y, hy⟩ : ∃ y, xs.getD m 0 = y := ⟨_, rfl⟩
      rw [hx] at q1 HS
      rw [hy] at q2 HS
      have hne : k ≠ m := by omega
      clear v1 v2 hm hx hy HO
      rw [hm1]
      clear hm1
      go_wp2_with fail
      go_region
      all_goals
        go_wp2_with fail
        go_roundg (n - k)
        case measure => omega
        case rel => exact ⟨k + 1, by omega, by omega, by omega, by go_num, by have := HM.out; go_num, HS, Lib.hid (grown_trans HG.out (grown_drew12 (grown_trans (grown_setCell wr ⟨L, k, none⟩ _) (grown_setCell _ ⟨L, m, none⟩ _))))⟩
    · go_wp2
      go_end0
      refine ⟨rfl, ?_, HG.out⟩
      have := HO.out
      rwa [rv_full (by rw [HN.out]; omega)] at this

theorem rev_at {base L c n : Nat} {xs : List Int} {w : World} (hn : xs.length = n) (h : w.ownsRow base 3 1 (.slice (some ⟨L, 0, none⟩) n c) n (xs.map (Value.int .i64))) (hl : n ≤ 1000000) :
    Calls Try.prog 55 #[.slice (some ⟨L, 0, none⟩) n c] w fun e w' => e = .returned (.tuple #[]) ∧ w'.ownsRow base 3 1 (.slice (some ⟨L, 0, none⟩) n c) n (xs.reverse.map (Value.int .i64)) ∧ w.grownBy w' (some L) := by
  subst hn
  exact reverse_any h hl
theorem ints_map {xs : List Int} {n : Nat} (h : xs.length = n) : ((List.range n).map fun j => Value.int .i64 (xs.getD j 0)) = xs.map (Value.int .i64) := by
  subst h
  apply List.ext_getElem
  · simp
  · intro i h1 h2
    simp at h1
    simp [List.getD, h1]

end Go.Proofs.Ytfmcgodgflpggaa

namespace Go.Proofs.Ytfmcgodgflpggaa
open Go.RowKit
set_option linter.unusedVariables false
set_option linter.unusedSimpArgs false

theorem sz12 (w : World) : (sizeOf 3).run Try.prog w = .ok 1 w := by
  have h := infoI12
  rcases hi : Try.prog.info? 3 with _ | i
  · rw [hi] at h; simp at h
  · rw [hi] at h
    simp at h
    simp [sizeOf, typeInfo, hi, h.2.1]
theorem Vals.pop {w : World} {V n k : Nat} {rs : List Rec} {r : Rec} (h : Vals w V n (rs ++ [r])) (hk : k < n) (hr : r.l.natAbs = k + 1) (hu : find rs r.l = none) : Vals (w.setCell ⟨V, k, none⟩ (.int .i8 0)) V n rs := by
  obtain ⟨cs, h1, h2, h3⟩ := h
  refine ⟨cs.setIfInBounds k (.int .i8 0), h1.set_ k _, by simpa using h2, fun j hj => ?_⟩
  by_cases e : j = k
  · subst e
    rw [Array.getElem?_setIfInBounds_self, if_pos (by omega), valT_none.2]
    rw [find_abs (m := r.l) (by omega)]
    exact hu
  · rw [Array.getElem?_setIfInBounds_ne (Ne.symm e), h3 j hj, valT_snoc_other (by omega)]

/-- blocks of other types stay, whatever one block becomes -/
theorem Tn.one {ts : List TypeId} {base P : Nat} {w w' w'' : World} (h : Tn ts base P w w') {q : Nat} {ty : TypeId} {X : Array Value} (hq : Blk w' q ty X) (ht : ty ∈ ts) (hb : base ≤ q) (hB : base ≤ w'.heap.size) (hg : w'.grownBy w'' (some q)) : Tn ts base P w w'' := by
  refine h.trans ⟨(Below.refl base w').grown hg hB (fun k hk => by injection hk with hk; omega), fun q' o hq' h1 h2 => ?_⟩
  refine (hg.block q' (Array.getElem?_eq_some_iff.1 hq').1 fun e => ?_).trans hq'
  injection e with e
  subst e
  unfold Blk at hq
  rw [hq] at hq'
  injection hq' with hq'
  exact h2 _ _ _ hq'.symm ht

/-- what Back leaves -/
theorem TrM.cut {w w5 wr : World} {base g P V S K s q c p d : Nat} {t : TS} (hgood : t.Good) (hK : t.starts[K]? = some s) (b1 : Blk w5 g 77 #[.slice (some ⟨q, 0, none⟩) t.recs.length c, .slice (some ⟨p, 0, none⟩) t.starts.length d, .slice (some ⟨V, 0, none⟩) t.ph.length t.ph.length, .slice (some ⟨S, 0, none⟩) t.ph.length t.ph.length, .slice (some ⟨P, 0, none⟩) t.ph.length t.ph.length])
    (b2 : w5.ownsRow base 3 1 (.slice (some ⟨q, 0, none⟩) t.recs.length c) t.recs.length (litsV t.recs)) (b3 : w5.ownsRow base 3 1 (.slice (some ⟨p, 0, none⟩) t.starts.length d) t.starts.length (startsV t.starts))
    (hne : q ≠ p) (cv : Array Value) (b4 : Blk w5 V 83 cv) (b5 : Spots w5 S t.ph.length t.recs) (b6 : BlkB w5 P 4 t.ph) (hV : base ≤ V) (hS : base ≤ S) (hP : base ≤ P) (hg : base ≤ g) (hB : base ≤ w5.heap.size)
    (hv : Vals wr V t.ph.length (t.recs.take s)) (hgr : w5.grownBy wr (some V)) (ht : Tn [83, 77] base P w w5) :
    TrM ((wr.setCell ⟨g, 0, none⟩ (.slice (some ⟨q, 0, none⟩) s c)).setCell ⟨g, 1, none⟩ (.slice (some ⟨p, 0, none⟩) K d)) base g P ⟨t.recs.take s, t.starts.take K, t.ph⟩ ∧ Tn [83, 77] base P w ((wr.setCell ⟨g, 0, none⟩ (.slice (some ⟨q, 0, none⟩) s c)).setCell ⟨g, 1, none⟩ (.slice (some ⟨p, 0, none⟩) K d)) := by
  have hs := hgood.start s (List.mem_of_getElem? hK)
  have hKl := (List.getElem?_eq_some_iff.1 hK).1
  have hKe : (t.starts.take K).length = K := by rw [List.length_take]; omega
  have hse : (t.recs.take s).length = s := by rw [List.length_take]; omega
  have n1 : g ≠ V := b1.ne_ b4 (by decide)
  have r1 := b1.grown hgr (by simpa using n1)
  have r2 := b2.kept hgr (.inr (Ne.symm (own_blk_ne b2 b4 (by decide))))
  have r3 := b3.kept hgr (.inr (Ne.symm (own_blk_ne b3 b4 (by decide))))
  obtain ⟨cs, s1, s2, s3⟩ := b5
  have r5 := s1.grown hgr (by simpa using s1.ne_ b4 (by decide))
  have r6 : Blk wr P 4 (boolCells t.ph) := Blk.grown b6 hgr (by simpa using Blk.ne_ b6 b4 (by decide))
  have x1 := r1.set_ 0 (.slice (some ⟨q, 0, none⟩) s c)
  have x2 := own_setCell r2 (p := ⟨g, 0, none⟩) (.slice (some ⟨q, 0, none⟩) s c) (own_blk_ne r2 r1 (by decide))
  have x3 := own_setCell r3 (p := ⟨g, 0, none⟩) (.slice (some ⟨q, 0, none⟩) s c) (own_blk_ne r3 r1 (by decide))
  have K2 : ∀ {q' : Nat} {ty : TypeId} {X : Array Value}, Blk wr q' ty X → ty ≠ 77 → Blk ((wr.setCell ⟨g, 0, none⟩ (.slice (some ⟨q, 0, none⟩) s c)).setCell ⟨g, 1, none⟩ (.slice (some ⟨p, 0, none⟩) K d)) q' ty X := fun hq hne => (hq.far (hq.ne_ r1 hne) _).far (hq.ne_ r1 hne) _
  have y2 := own_take (own_setCell x2 (p := ⟨g, 1, none⟩) (.slice (some ⟨p, 0, none⟩) K d) (own_blk_ne x2 x1 (by decide))) (Nat.le_of_lt hs) (by simp)
  have y3 := own_take (own_setCell x3 (p := ⟨g, 1, none⟩) (.slice (some ⟨p, 0, none⟩) K d) (own_blk_ne x3 x1 (by decide))) (Nat.le_of_lt hKl) (by simp)
  refine ⟨⟨⟨V, S, some ⟨q, 0, none⟩, some ⟨p, 0, none⟩, c, d, ?_, ?_, ?_, ?_, hv.keep fun X hX => K2 hX (by decide), ⟨cs, K2 r5 (by decide), s2, fun i r hr => ?_⟩, hV, hS⟩, K2 r6 (by decide), hg, hP⟩, ?_⟩
  · have := x1.set_ 1 (.slice (some ⟨p, 0, none⟩) K d)
    rw [hse, hKe]
    simpa using this
  · rw [hse]
    unfold litsV at y2 ⊢
    rw [List.map_take]
    exact y2
  · rw [hKe]
    unfold startsV at y3 ⊢
    rw [List.map_take]
    exact y3
  · intro x h1 h2
    simp [Value.ownBlock] at h1 h2
    omega
  · have hi : i < s := by
      have := (List.getElem?_eq_some_iff.1 hr).1
      simp at this
      omega
    rw [List.getElem?_take, if_pos hi] at hr
    exact s3 i r hr
  · exact ((ht.one b4 (by simp) hV hB hgr).set r1 (.inl (by simp)) hg _ _).set x1 (.inl (by simp)) hg _ _

set_option maxHeartbeats 4000000 in
theorem back_any {w : World} {base g P : Nat} {t : TS} (h : Tr w base g P t) (hB : base ≤ w.heap.size) (lv : Int) :
    Calls Try.prog 42 #[.pointer (some ⟨g, 0, none⟩), .int .i64 lv] w fun e w' => ∃ A' c', e = .returned (.slice A' (t.gone lv).length c') ∧ w'.ownsRow w.heap.size 3 1 (.slice A' (t.gone lv).length c') (t.gone lv).length ((t.gone lv).map (Value.int .i64)) ∧
      Tr w' base g P (t.back lv) ∧ Tn [83, 77] base P w w' := by
  obtain ⟨V, S, A, D, c, d, b1, b2, b3, b4, hvals, hspots, b8, b9⟩ := h.ex
  obtain ⟨K, hK⟩ : ∃ K : Nat, lv.toNat = K := ⟨_, rfl⟩
  have c0 := b1.cell 0
  have c1 := b1.cell 1
  simp at c0 c1
  rcases hs : t.starts[K]? with _ | s
  · have e1 : t.gone lv = [] := by unfold TS.gone; rw [hK, hs]
    have e2 : t.back lv = t := by unfold TS.back; rw [hK, hs]
    rw [e1, e2]
    have hge : (t.starts.length : Int) ≤ (K : Int) := by have := List.getElem?_eq_none_iff.1 hs; omega
    have H := Lib.hid h
    clear h b1 b2 b3 b4 hvals hspots hs e1 e2
    go_enter Try.func42, Try.ntmps42
    go_upto_region 1 with fail
    go_cut [1] (fun v wx => v = .int .i64 (K : Int) ∧ wx = w)
    case first =>
      by_cases hp : 0 < lv
      · have HX := Lib.hid (show lv = (K : Int) by omega)
        go_wp2_with fail
        go_meet
        exact ⟨by rw [HX.out], rfl⟩
      · have HX := Lib.hid (show (0 : Int) = (K : Int) by omega)
        go_wp2_with fail
        go_meet
        exact ⟨by rw [← HX.out], rfl⟩
    case rest =>
      obtain ⟨rfl, rfl⟩ := hcut
      go_wp2
      go_ret
      exact ⟨none, 0, rfl, World.ownsRow_nil _ _ _ _, H.out, Tn.refl _⟩
  · obtain ⟨hKl, hKe⟩ := List.getElem?_eq_some_iff.1 hs
    have hsm := h.good.start s (List.mem_of_getElem? hs)
    obtain ⟨q, rfl, -, -⟩ := own_addr b2 (by omega)
    obtain ⟨p, rfl, -, -⟩ := own_addr b3 (by omega)
    have hqp : q ≠ p := fun e => b4 q rfl (by rw [e]; rfl)
    have hmc : t.recs.length ≤ c := by
      obtain ⟨A', c', hvq, hqc, -⟩ := own_slice b2
      injection hvq with _ _ e; omega
    have hsd : t.starts.length ≤ d := by
      obtain ⟨A', c', hvq, hqc, -⟩ := own_slice b3
      injection hvq with _ _ e; omega
    have k0 := World.ownsRow.cellAt b3 K (by omega)
    have e0 : (startsV t.starts)[K]? = some (.int .i64 (s : Nat)) := by simp [startsV, hs]
    rw [e0] at k0
    have hf := h.good.few
    have hml := h.good.len
    obtain ⟨cv, v1, v2, v3⟩ := id hvals
    have c2 := v1
    have e1 : t.gone lv = ((t.recs.drop s).map Rec.l).reverse := by unfold TS.gone; rw [hK, hs]
    have e2 : t.back lv = ⟨t.recs.take s, t.starts.take K, t.ph⟩ := by unfold TS.back; rw [hK, hs]
    have hgd := h.good.back lv
    rw [e2] at hgd
    rw [e1, e2]
    have hlen : ((t.recs.drop s).map Rec.l).length = t.recs.length - s := by simp
    obtain ⟨m, hm⟩ : ∃ m, t.recs.length = m := ⟨_, rfl⟩
    obtain ⟨xs, hxs⟩ : ∃ xs, (t.recs.drop s).map Rec.l = xs := ⟨_, rfl⟩
    rw [hxs] at hlen
    have hsl : ∀ w, (Instr.slice 33 (.slice (some ⟨q, 0, none⟩) m c) (some (.int .i64 s)) none none).run Try.prog w = .ok (.slice (some ⟨q, s, none⟩) (m - s) (c - s)) w := fun w => by
      have := run_back12 (P := Try.prog) Try.underlying33 w (sz12 w) q 0 m c s (by omega) (by omega)
      rw [if_neg (by omega), Nat.zero_add] at this
      exact this
    have hsl2 : ∀ w, (Instr.sliceAt 33 (.slice (some ⟨q, 0, none⟩) m c) (some (.int .i64 s)) none none).run Try.prog w = .ok (.slice (some ⟨q, s, none⟩) (m - s) (c - s)) w := fun w => (run_sliceAt_slice (P := Try.prog) w _ _ _ _ _ (by kernel_rfl)).trans (hsl w)
    have hcl : Cells w w.heap.size (some ⟨q, s, none⟩) (m - s) fun j => .int .i64 (xs.getD j 0) := fun hn => by
      refine ⟨q, s, rfl, (b2.lt q rfl).2, fun j hj => ?_⟩
      rw [World.ownsRow.cellAt b2 (s + j) (by omega), ← hxs]
      simp [litsV, List.getD, show s + j < t.recs.length by omega]
    have HCL := Lib.hid (fun w' (hc : Cells w' w.heap.size (some ⟨q, s, none⟩) (m - s) fun j => .int .i64 (xs.getD j 0)) (hB : w.heap.size ≤ w'.heap.size) => clone_int (m - s) _ w.heap.size (some ⟨q, s, none⟩) (c - s) w' (by omega) (fun _ _ => rfl) hc hB)
    have HC := Lib.hid hcl
    have H := Lib.hid h
    have HG := Lib.hid hgd
    have HB1 := Lib.hid b1
    have HB2 := Lib.hid b2
    have HB3 := Lib.hid b3
    have HVL := Lib.hid hvals
    have HSP := Lib.hid hspots
    have HV1 := Lib.hid v1
    have HV2 := Lib.hid v2
    have HVS := Lib.hid (And.intro b8 b9)
    have HS := Lib.hid hs
    have HM := Lib.hid hm
    have HX := Lib.hid hxs
    have HL := Lib.hid hlen
    rw [hm] at c0 hsm hmc hml
    have hge : (K : Int) < (t.starts.length : Int) := by omega
    clear h b1 b2 b3 hvals hspots v1 v2 v3 c2 hs e0 e1 e2 hgd hm hxs hcl hKe b8 b9 hlen hsl
    go_enter Try.func42, Try.ntmps42
    go_upto_region 1 with fail
    go_cut [1] (fun v wx => v = .int .i64 (K : Int) ∧ wx = w)
    case first =>
      by_cases hp : 0 < lv
      · have HX := Lib.hid (show lv = (K : Int) by omega)
        go_wp2_with fail
        go_meet
        exact ⟨by rw [HX.out], rfl⟩
      · have HX := Lib.hid (show (0 : Int) = (K : Int) by omega)
        go_wp2_with fail
        go_meet
        exact ⟨by rw [← HX.out], rfl⟩
    case rest =>
      obtain ⟨rfl, rfl⟩ := hcut
      go_wp2_with fail
      refine (HCL.out _ HC.out (Nat.le_refl _)).mono ?_
      rintro e w5 ⟨A5, c5, rfl, ho5, hb5⟩
      rw [ints_map (by rw [HL.out, HM.out])] at ho5
      obtain ⟨L, rfl, hL1, hL2⟩ := own_addr ho5 (by omega)
      have HO5 := Lib.hid ho5
      have HB5 := Lib.hid hb5
      clear ho5 hb5
      go_wp2_with fail
      refine (rev_at (by rw [HL.out, HM.out]) HO5.out (by omega)).mono ?_
      rintro e w6 ⟨rfl, ho6, hg6⟩
      have hs5 := HB5.out.size
      have hb6 : Below wc.heap.size wc w6 := HB5.out.grown hg6 hs5 (fun k hk => by injection hk with hk; omega)
      have HO6 := Lib.hid ho6
      have HB6 := Lib.hid hb6
      have C1 := HB1.out.below hb6 HB1.out.lt
      have CV := HV1.out.below hb6 HV1.out.lt
      have HC1 := Lib.hid C1
      have HCV := Lib.hid CV
      have HVL6 := Lib.hid (HVL.out.keep (w' := w6) fun X hX => hX.below hb6 hX.lt)
      have x0 := C1.cell 0
      have x1 := C1.cell 1
      have x2 := C1.cell 2
      simp at x0 x1 x2
      clear ho6 hg6 hb6 c0 c1 k0 C1 CV
      go_wp2_with fail
      go_loopg [36] (m - s + 1) (fun gk i wr => ∃ j : Nat, j ≤ m - s ∧ gk = m - s - j + 1 ∧ i = .int .i64 j ∧ Hid (Vals wr V t.ph.length (t.recs.take (m - j))) ∧ Hid (w6.grownBy wr (some V)))
      case atStart => exact ⟨0, by omega, by omega, rfl, Lib.hid (by rw [List.take_of_length_le (by have := HM.out; omega)]; exact HVL6.out), Lib.hid (World.grownBy.refl _ _)⟩
      case round =>
        obtain ⟨j, hj, rfl, rfl, HVJ, HGJ⟩ := hrel
        have n1 : g ≠ V := HC1.out.ne_ HCV.out (by decide)
        have D1 := HC1.out.grown HGJ.out (by simpa using n1)
        have y0 := D1.cell 0
        have y1 := D1.cell 1
        have y2 := D1.cell 2
        have z0 := D1.frozen 0
        have z1 := D1.frozen 1
        simp at y0 y1 y2
        clear x0 x1 x2
        by_cases hlt : j < m - s
        · have OJ := HO6.out.kept HGJ.out (.inr (Ne.symm (own_blk_ne HO6.out HCV.out (by decide))))
          have q1 := World.ownsRow.cellAt OJ j (by omega)
          obtain ⟨r, hr⟩ : ∃ r, t.recs[m - 1 - j]? = some r := ⟨_, List.getElem?_eq_getElem (by have := HM.out; omega)⟩
          have er : (xs.reverse.map (Value.int .i64))[j]? = some (.int .i64 r.l) := by
            have hxl : xs.length = m - s := by rw [HL.out, HM.out]
            rw [List.getElem?_map, List.getElem?_reverse (by omega), ← HX.out, List.getElem?_map, List.getElem?_drop, show s + (((t.recs.drop s).map Rec.l).length - 1 - j) = m - 1 - j by rw [HX.out]; omega, hr]
            rfl
          rw [er] at q1
          have hlit := H.out.good.lit r (List.mem_of_getElem? hr)
          obtain ⟨k, hk⟩ : ∃ k : Nat, litVar r.l = (k : Int) + 1 := ⟨r.l.natAbs - 1, by unfold litVar; split <;> omega⟩
          have hk2 : r.l.natAbs = k + 1 := by unfold litVar at hk; split at hk <;> omega
          have HV := Lib.hid (fun w => hk ▸ var_any r.l w (by omega) (by omega))
          have hkn : (k : Int) < (t.ph.length : Int) := by omega
          have etk : t.recs.take (m - j) = t.recs.take (m - (j + 1)) ++ [r] := by
            rw [show m - j = m - 1 - j + 1 by omega, List.take_add_one, hr, show m - (j + 1) = m - 1 - j by omega]
            rfl
          have hun : find (t.recs.take (m - (j + 1))) r.l = none := by
            have hu : Uniq (t.recs.take (m - (j + 1)) ++ [r]) := by rw [← etk]; exact H.out.good.uniq.sublist (List.take_sublist _ _)
            refine find_none.2 fun x hx ho => ?_
            rw [Rec.of_abs] at ho
            exact (List.pairwise_append.1 hu).2.2 x hx r (by simp) ho
          have HVJ2 := HVJ.out
          rw [etk] at HVJ2
          have HP := Lib.hid (HVJ2.pop (by omega) hk2 hun)
          have hcv : ∃ z, wr.cell? ⟨V, k, none⟩ = some z := by
            obtain ⟨cs, h1, h2, h3⟩ := HVJ2
            exact ⟨_, (h1.cell k).trans (h3 k (by omega))⟩
          obtain ⟨z, hz⟩ := hcv
          have hfz : wr.frozen? ⟨V, k, none⟩ = false := by
            obtain ⟨cs, h1, h2, h3⟩ := HVJ2
            exact h1.frozen k
          obtain ⟨x, hx⟩ : ∃ x, r.l = x := ⟨_, rfl⟩
          rw [hx] at q1 HV
          have hwk : IntKind.i64.wrap (k : Int) = (k : Int) := i64_ok (by omega)
          have HGN := Lib.hid (grown_trans HGJ.out (grown_setCell wr ⟨V, k, none⟩ (.int .i8 0)))
          clear er hr hlit hk hk2 etk hun HVJ2 hx OJ D1
          go_wp2_with fail
          go_region_law (first | (go_simp; go_at_call 38; refine (HV.out _).mono ?_; rintro e3 w3 ⟨rfl, rfl⟩))
          all_goals
            go_wp2_with fail
            go_roundg (m - s - j)
            case measure => omega
            case rel => exact ⟨j + 1, by omega, by omega, by go_num, Lib.hid (HP.out.keep fun X hX => hX), Lib.hid (grown_drew12 HGN.out)⟩
        · obtain rfl : j = m - s := by omega
          go_wp2_with fail
          go_ret
          have hss : m - (m - s) = s := by omega
          have hV2 := HVJ.out
          rw [hss] at hV2
          have hgl := HB1.out.lt
          obtain ⟨k1, k2⟩ := TrM.cut H.out.good HS.out HC1.out (own_below HB2.out HB6.out fun k hk => (HB2.out.lt k hk).2) (own_below HB3.out HB6.out fun k hk => (HB3.out.lt k hk).2) hqp cv HCV.out
            (HSP.out.keep fun X hX => hX.below HB6.out hX.lt) (show BlkB w6 P _ _ from Blk.below H.out.phs HB6.out (Blk.lt H.out.phs)) HVS.out.1 HVS.out.2 H.out.hP H.out.hg (Nat.le_trans hB HB6.out.size) hV2 HGJ.out (Tn.of_below HB6.out hB)
          have hxl : xs.reverse.length = m - s := by rw [List.length_reverse, HL.out, HM.out]
          have o1 := HO6.out.kept HGJ.out (.inr (Ne.symm (own_blk_ne HO6.out HCV.out (by decide))))
          have D1 := HC1.out.grown HGJ.out (by simpa using n1)
          have o2 := own_setCell o1 (p := ⟨g, 0, none⟩) (.slice (some ⟨q, 0, none⟩) s c) (own_blk_ne o1 D1 (by decide))
          have D2 := D1.set_ 0 (.slice (some ⟨q, 0, none⟩) s c)
          have o3 := own_setCell o2 (p := ⟨g, 1, none⟩) (.slice (some ⟨p, 0, none⟩) K d) (own_blk_ne o2 D2 (by decide))
          rw [HX.out, hxl]
          exact ⟨_, _, rfl, o3, ⟨k1, HG.out⟩, k2⟩

end Go.Proofs.Ytfmcgodgflpggaa

namespace Go.Proofs.Ytfmcgodgflpggaa
open Go.RowKit
set_option linter.unusedVariables false
set_option linter.unusedSimpArgs false

/-- phases, with the values of the first literals -/
def asgK (rs : List Rec) (ph : List Bool) : List Bool := rs.foldl (fun a r => a.set (r.l.natAbs - 1) (decide (0 < r.l))) ph
theorem asgK_len (rs : List Rec) : ∀ ph, (asgK rs ph).length = ph.length := by
  induction rs with
  | nil => intro ph; rfl
  | cons r rs ih => intro ph; show (asgK rs _).length = _; rw [ih]; simp
theorem asgK_snoc (rs : List Rec) (r : Rec) (ph : List Bool) : asgK (rs ++ [r]) ph = (asgK rs ph).set (r.l.natAbs - 1) (decide (0 < r.l)) := by
  simp [asgK, List.foldl_append]
theorem bools_map {xs : List Bool} {n : Nat} (h : xs.length = n) : ((List.range n).map fun j => Value.bool (xs.getD j false)) = xs.map Value.bool := by
  subst h
  apply List.ext_getElem
  · simp
  · intro i h1 h2
    simp at h1
    simp [List.getD, h1]

set_option maxHeartbeats 2000000 in
theorem assign_any {w : World} {base g P : Nat} {t : TS} (h : Tr w base g P t) (hB : base ≤ w.heap.size) :
    Calls Try.prog 24 #[.pointer (some ⟨g, 0, none⟩)] w fun e w' => ∃ A' c', e = .returned (.slice A' t.ph.length c') ∧ w'.ownsRow w.heap.size 4 1 (.slice A' t.ph.length c') t.ph.length (t.asg.map Value.bool) ∧ Below w.heap.size w w' := by
  obtain ⟨V, S, A, D, c, d, b1, b2, _⟩ := h.ex
  have c4 := b1.cell 4
  have c0 := b1.cell 0
  simp at c4 c0
  have hf := h.good.few
  have hml := h.good.len
  have hcl : Cells w w.heap.size (some ⟨P, 0, none⟩) t.ph.length fun j => .bool (t.ph.getD j false) := fun hn => ⟨P, 0, rfl, Blk.lt h.phs, fun j hj => by rw [Nat.zero_add]; exact h.phs.cell hj⟩
  obtain ⟨n, hn⟩ : ∃ n, t.ph.length = n := ⟨_, rfl⟩
  obtain ⟨m, hm⟩ : ∃ m, t.recs.length = m := ⟨_, rfl⟩
  rw [hn] at c4 hf hml hcl ⊢
  rw [hm] at c0 hml
  have HCL := Lib.hid (clone_bool n _ w.heap.size (some ⟨P, 0, none⟩) n w (by omega) (fun _ _ => rfl) hcl (Nat.le_refl _))
  have H := Lib.hid h
  have HB1 := Lib.hid b1
  have HB2 := Lib.hid b2
  have HN := Lib.hid hn
  have HM := Lib.hid hm
  clear h b1 b2 hcl hn hm
  go_enter Try.func24, Try.ntmps24
  go_wp2_with fail
  refine HCL.out.mono ?_
  rintro e w5 ⟨A5, c5, rfl, ho5, hb5⟩
  rw [bools_map HN.out] at ho5
  have HO5 := Lib.hid ho5
  have HB5 := Lib.hid hb5
  have x0 := (HB1.out.below hb5 HB1.out.lt).cell 0
  simp [HM.out] at x0
  have HB25 := Lib.hid (own_below HB2.out hb5 fun k hk => (HB2.out.lt k hk).2)
  have hs5 := hb5.size
  clear ho5 hb5 c0 c4
  go_wp2_with fail
  go_loopg [16] (m + 1) (fun gk i wr => ∃ k : Nat, k ≤ m ∧ gk = m - k + 1 ∧ i = .int .i64 k ∧ Hid (wr.ownsRow w.heap.size 4 1 (.slice A5 n c5) n ((asgK (t.recs.take k) t.ph).map Value.bool)) ∧ Hid (w5.grownBy wr (Value.slice A5 n c5).ownBlock))
  case atStart => exact ⟨0, by omega, by omega, rfl, Lib.hid (by simpa [asgK] using HO5.out), Lib.hid (World.grownBy.refl _ _)⟩
  case round =>
    obtain ⟨k, hk, rfl, rfl, HO, HG⟩ := hrel
    by_cases hlt : k < m
    · obtain ⟨q, rfl, hq1, hq2⟩ := own_addr HB25.out (by have := HM.out; omega)
      have HBK := HB25.out.kept HG.out (by
        rcases own_own_ne HB25.out HO5.out (by decide) with e | e
        · exact .inl e
        · exact .inr e)
      have q1 := World.ownsRow.cellAt HBK k (by have := HM.out; omega)
      obtain ⟨r, hr⟩ : ∃ r, t.recs[k]? = some r := ⟨_, List.getElem?_eq_getElem (by have := HM.out; omega)⟩
      have er : (litsV t.recs)[k]? = some (.int .i64 r.l) := by simp [litsV, hr]
      rw [er] at q1
      have hlit := H.out.good.lit r (List.mem_of_getElem? hr)
      have hlit2 : r.l.natAbs ≤ n := by have := HN.out; omega
      obtain ⟨v, hv⟩ : ∃ v : Nat, litVar r.l = (v : Int) + 1 := ⟨r.l.natAbs - 1, by unfold litVar; split <;> omega⟩
      have hv2 : r.l.natAbs - 1 = v := by unfold litVar at hv; split at hv <;> omega
      have HV := Lib.hid (fun w => hv ▸ var_any r.l w (by omega) (by omega))
      have hvn : (v : Int) < (n : Int) := by omega
      obtain ⟨L, rfl, hL1, hL2⟩ := own_addr HO.out (by omega)
      have p1 := World.ownsRow.cellAt HO.out v (by omega)
      have pf := World.ownsRow.frozenAt HO.out v
      have ep : ((asgK (t.recs.take k) t.ph).map Value.bool)[v]? = some (.bool ((asgK (t.recs.take k) t.ph).getD v false)) := by
        have : v < (asgK (t.recs.take k) t.ph).length := by rw [asgK_len, HN.out]; omega
        rw [List.getElem?_map, List.getElem?_eq_getElem this]
        simp [List.getD, this]
      rw [ep] at p1
      have etk : t.recs.take (k + 1) = t.recs.take k ++ [r] := by rw [List.take_add_one, hr]; rfl
      have HP := Lib.hid (own_put12 HO.out v (.bool (decide (0 < r.l))))
      have hst : ((asgK (t.recs.take k) t.ph).map Value.bool).set v (.bool (decide (0 < r.l))) = (asgK (t.recs.take (k + 1)) t.ph).map Value.bool := by rw [etk, asgK_snoc, hv2, List.map_set]
      rw [hst] at HP
      have HGN := Lib.hid (grown_trans HG.out (grown_setCell wr ⟨L, v, none⟩ (.bool (decide (0 < r.l)))))
      obtain ⟨x, hx⟩ : ∃ x, r.l = x := ⟨_, rfl⟩
      rw [hx] at q1 HV HP HGN
      have hwk : IntKind.i64.wrap (v : Int) = (v : Int) := i64_ok (by omega)
      clear er hr hlit hv hv2 etk hst hx ep HBK hlit2
      go_wp2_with fail
      refine (HV.out _).mono ?_
      rintro e w9 ⟨rfl, rfl⟩
      go_wp2_with fail
      go_roundg (m - k)
      case measure => omega
      case rel => exact ⟨k + 1, by omega, by omega, by go_num, HP, HGN⟩
    · obtain rfl : k = m := by omega
      go_wp2
      go_ret
      have e : t.asg = asgK (t.recs.take k) t.ph := by rw [List.take_of_length_le (by have := HM.out; omega)]; rfl
      rw [e]
      exact ⟨_, _, rfl, HO.out, HB5.out.grown HG.out hs5 (fun q hq => (HO5.out.lt q hq).1)⟩

end Go.Proofs.Ytfmcgodgflpggaa
