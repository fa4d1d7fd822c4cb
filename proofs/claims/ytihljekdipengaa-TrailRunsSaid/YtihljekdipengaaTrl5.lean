/- Copies of rows, rows turned round, rows cut. -/
import Derived.Test.YtihljekdipengaaTrl4
import Derived.Deep.LoopGhost
namespace Go.Proofs.Ytihljekdipengaa
open Go.RowKit
set_option linter.unusedVariables false
set_option linter.unusedSimpArgs false

theorem run_front12 {P : Program} {t e : TypeId} (ht : P.underlying t = some (.slice e)) (w : World) (hz : (sizeOf e).run P w = .ok 1 w) (b off n c k : Nat) (hk : k ≤ c) : (Instr.slice t (.slice (some ⟨b, off, none⟩) n c) none (some (.int .i64 k)) none).run P w = .ok (.slice (some ⟨b, off, none⟩) k c) w := by
  have h1 : (0 : Int) ≤ (k : Int) := Int.natCast_nonneg _
  have h2 : (k : Int) ≤ (c : Int) := by omega
  simp [Instr.slice, run_underlying ht, Instr.sliceBounds, go_sem, h1, h2, hz, Result.andThen]
theorem run_back12 {P : Program} {t e : TypeId} (ht : P.underlying t = some (.slice e)) (w : World) (hz : (sizeOf e).run P w = .ok 1 w) (b off n c k : Nat) (hk : k ≤ n) (hn : n ≤ c) : (Instr.slice t (.slice (some ⟨b, off, none⟩) n c) (some (.int .i64 k)) none none).run P w = .ok (.slice (if c = k then some ⟨b, off, none⟩ else some ⟨b, off + k, none⟩) (n - k) (c - k)) w := by
  have h1 : (0 : Int) ≤ (k : Int) := Int.natCast_nonneg _
  have h2 : (k : Int) ≤ (n : Int) := by omega
  have h3 : (n : Int) ≤ (c : Int) := by omega
  simp [Instr.slice, run_underlying ht, Instr.sliceBounds, go_sem, h1, h2, h3, hk, hn, hz, Result.andThen]
theorem wpList_slice12 {P : Program} {ops : Array Oper} {rest : List Oper} {o : Oper} {a : Act} {Q : Exit → Act → World → Prop} {w : World} (hg : o.guard = none) (t : TypeId) (x : Operand) (lo hi mx : Option Operand) (hop : o.op = Op.slice t x lo hi mx)
    (v r : Value) (hx : a.eval x = v) (lo' hi' mx' : Option Value) (hlo : lo.map a.eval = lo') (hhi : hi.map a.eval = hi') (hmx : mx.map a.eval = mx') (hrun : (Instr.slice t v lo' hi' mx').run P w = .ok r w) (hund : P.underlying t = some (.slice (P.elem t))) (hK : wpList P ops Q rest (a.put o.dst r) w) : wpList P ops Q (o :: rest) a w := by
  refine wpList_plain hg fun K' hK' => ?_
  subst hlo hhi hmx
  unfold Oper.wp
  simp [execOp, hop, hx, hrun, run_sliceAt_slice, hund, Result.andThen]
  exact hK' _ _ hK
theorem own_put12 {w : World} {base e L n c : Nat} {xs : List Value} (h : w.ownsRow base e 1 (.slice (some ⟨L, 0, none⟩) n c) n xs) (j : Nat) (u : Value) : (w.setCell ⟨L, j, none⟩ u).ownsRow base e 1 (.slice (some ⟨L, 0, none⟩) n c) n (xs.set j u) := by
  refine ⟨by rw [List.length_set]; exact h.1, ?_⟩
  rcases h.2 with ⟨hv, _⟩ | ⟨g', cap', cur, hv, hb', hg', hnc, hmx, hcs, htk⟩
  · cases hv
  · injection hv with hA _ hC
    injection hA with hA
    injection hA with hA
    subst hA hC
    refine .inr ⟨L, c, cur.setIfInBounds j u, rfl, hb', ?_, hnc, hmx, by rw [Array.size_setIfInBounds]; exact hcs, ?_⟩
    · simp [World.setCell, Array.getElem?_modify, hg']
    · rw [Array.toList_setIfInBounds, List.take_set, htk]

set_option maxHeartbeats 1000000 in
theorem clone_int (n : Nat) (f : Nat → Value) (B : Nat) (A : Option Addr) (c : Nat) (w : World) (hn : n ≤ 1000000) (h1 : ∀ j, j < n → (f j).oneCell' = true) (h : Cells w B A n f) (hB : B ≤ w.heap.size) :
    Calls Try.prog 31 #[.slice A n c] w fun e w' => ∃ A' c', e = .returned (.slice A' n c') ∧ w'.ownsRow w.heap.size 3 1 (.slice A' n c') n ((List.range n).map f) ∧ Below w.heap.size w w' := by
  have hnil := fun (w : World) (a : Option Addr) (n c : Nat) => Lib.run_eql_slice_nil (P := Try.prog) w 36 3 a n c 0 0 Try.underlying36
  obtain ⟨i0, hi, hz0, hz1, hz2⟩ := info_parts infoI12
  have H := Lib.hid h
  have H1 := Lib.hid h1
  clear h h1
  rcases A with _ | ad
  · go_enter Try.func31, Try.ntmps31
    go_wp2
    go_ret
    have h0 : n = 0 := by
      rcases Nat.eq_zero_or_pos n with h0 | h0
      · exact h0
      · obtain ⟨b, off, e, _⟩ := H.out h0
        cases e
    subst h0
    exact ⟨_, _, rfl, World.ownsRow_nil _ _ _ _, Below.refl _ _⟩
  · go_enter Try.func31, Try.ntmps31
    go_wp2_with (at_builtin; refine wpList_append_cells _ rfl _ _ 36 rfl w.heap.size 3 i0 (.int .i64 0) 8 Try.underlying36 hi hz0 hz1 hz2 rfl _ 0 [] rfl (World.ownsRow_lit w #[] 0 (Nat.le_refl _) (Nat.zero_le _) rfl) B _ n _ f rfl (H.out.alloc hB _) H1.out (by unfold maxLen; omega) (by omega) (by simp) ?_)
    intro v' w1 hown hg _
    have HO := Lib.hid hown
    have HG := Lib.hid hg
    clear hown hg
    go_wp2
    go_ret
    have ho : w1.ownsRow w.heap.size 3 1 v' n ((List.range n).map f) := by simpa using HO.out
    obtain ⟨A', c', hv', _⟩ := own_slice ho
    rw [hv'] at ho ⊢
    refine ⟨_, _, rfl, ho, ((Below.refl _ _).alloc (Nat.le_refl _) _).grown HG.out (by simp) (fun k hk => ?_)⟩
    simp [Value.ownBlock] at hk
    omega

set_option maxHeartbeats 1000000 in
theorem clone_bool (n : Nat) (f : Nat → Value) (B : Nat) (A : Option Addr) (c : Nat) (w : World) (hn : n ≤ 1000000) (h1 : ∀ j, j < n → (f j).oneCell' = true) (h : Cells w B A n f) (hB : B ≤ w.heap.size) :
    Calls Try.prog 36 #[.slice A n c] w fun e w' => ∃ A' c', e = .returned (.slice A' n c') ∧ w'.ownsRow w.heap.size 4 1 (.slice A' n c') n ((List.range n).map f) ∧ Below w.heap.size w w' := by
  have hnil := fun (w : World) (a : Option Addr) (n c : Nat) => Lib.run_eql_slice_nil (P := Try.prog) w 49 4 a n c 0 0 Try.underlying49
  obtain ⟨i0, hi, hz0, hz1, hz2⟩ := info_parts infoB12
  have H := Lib.hid h
  have H1 := Lib.hid h1
  clear h h1
  rcases A with _ | ad
  · go_enter Try.func36, Try.ntmps36
    go_wp2
    go_ret
    have h0 : n = 0 := by
      rcases Nat.eq_zero_or_pos n with h0 | h0
      · exact h0
      · obtain ⟨b, off, e, _⟩ := H.out h0
        cases e
    subst h0
    exact ⟨_, _, rfl, World.ownsRow_nil _ _ _ _, Below.refl _ _⟩
  · go_enter Try.func36, Try.ntmps36
    go_wp2_with (at_builtin; refine wpList_append_cells _ rfl _ _ 49 rfl w.heap.size 4 i0 (.bool false) 1 Try.underlying49 hi hz0 hz1 hz2 rfl _ 0 [] rfl (World.ownsRow_lit w #[] 0 (Nat.le_refl _) (Nat.zero_le _) rfl) B _ n _ f rfl (H.out.alloc hB _) H1.out (by unfold maxLen; omega) (by omega) (by simp) ?_)
    intro v' w1 hown hg _
    have HO := Lib.hid hown
    have HG := Lib.hid hg
    clear hown hg
    go_wp2
    go_ret
    have ho : w1.ownsRow w.heap.size 4 1 v' n ((List.range n).map f) := by simpa using HO.out
    obtain ⟨A', c', hv', _⟩ := own_slice ho
    rw [hv'] at ho ⊢
    refine ⟨_, _, rfl, ho, ((Below.refl _ _).alloc (Nat.le_refl _) _).grown HG.out (by simp) (fun k hk => ?_)⟩
    simp [Value.ownBlock] at hk
    omega

theorem grown_drew12 {a b : World} {row : Option Nat} (h : a.grownBy b row) : a.grownBy b.drew row := ⟨h.os, h.tape, h.output, h.size, h.block⟩
theorem own_take {w : World} {base e n c k : Nat} {A : Option Addr} {xs : List Value} (h : w.ownsRow base e 1 (.slice A n c) n xs) (hk : k ≤ n) (hA : A ≠ none) : w.ownsRow base e 1 (.slice A k c) k (xs.take k) := by
  have hl := h.1
  rcases h.2 with ⟨hv, _⟩ | ⟨g', cap', cur, hv, hb', hg', hnc, hmx, hcs, htk⟩
  · injection hv with hv
    exact absurd hv hA
  · injection hv with hv _ hc
    subst hv hc
    refine ⟨?_, .inr ⟨g', c, cur, rfl, hb', hg', by omega, hmx, hcs, ?_⟩⟩
    · rw [List.length_take]; omega
    · rw [← htk, List.take_take]
      congr 1
      omega

/-- a row, its outer k places on either side turned round -/
def rv (xs : List Int) (k : Nat) : List Int := (List.range xs.length).map fun i => if i < k ∨ xs.length - k ≤ i then xs.getD (xs.length - 1 - i) 0 else xs.getD i 0
theorem rv_len (xs : List Int) (k : Nat) : (rv xs k).length = xs.length := by simp [rv]
theorem rv_zero (xs : List Int) : rv xs 0 = xs := by
  apply List.ext_getElem
  · simp [rv]
  · intro i h1 h2
    simp [rv, List.getD, h2]
    omega
theorem rv_get {xs : List Int} {k i : Nat} (h : i < xs.length) : (rv xs k).getD i 0 = if i < k ∨ xs.length - k ≤ i then xs.getD (xs.length - 1 - i) 0 else xs.getD i 0 := by
  simp [rv, List.getD, h]
theorem rv_full {xs : List Int} {k : Nat} (h : xs.length ≤ 2 * k + 1) : rv xs k = xs.reverse := by
  apply List.ext_getElem
  · simp [rv]
  · intro i h1 h2
    have h3 : i < xs.length := by simpa using h2
    rw [List.getElem_reverse]
    simp only [rv, List.getElem_map, List.getElem_range]
    by_cases hc : i < k ∨ xs.length - k ≤ i
    · rw [if_pos hc]
      simp [List.getD, show xs.length - 1 - i < xs.length by omega]
    · rw [if_neg hc]
      have : xs.length - 1 - i = i := by omega
      simp only [this]
      simp [List.getD, h3]
theorem rv_step {xs : List Int} {k : Nat} (h : 2 * k + 1 < xs.length) : ((rv xs k).set k (xs.getD (xs.length - 1 - k) 0)).set (xs.length - 1 - k) (xs.getD k 0) = rv xs (k + 1) := by
  apply List.ext_getElem
  · simp [rv]
  · intro i h1 h2
    have h3 : i < xs.length := by simpa [rv] using h2
    rw [List.getElem_set, List.getElem_set]
    simp only [rv, List.getElem_map, List.getElem_range]
    by_cases e1 : xs.length - 1 - k = i
    · rw [if_pos e1, if_pos (by omega)]
      congr 1
      omega
    · rw [if_neg e1]
      by_cases e2 : k = i
      · rw [if_pos e2, if_pos (by omega), e2]
      · rw [if_neg e2]
        by_cases hc : i < k ∨ xs.length - k ≤ i
        · rw [if_pos hc, if_pos (by omega)]
        · rw [if_neg hc, if_neg (by omega)]

set_option maxHeartbeats 2000000 in
theorem reverse_any {base L c : Nat} {xs : List Int} {w : World} (h : w.ownsRow base 3 1 (.slice (some ⟨L, 0, none⟩) xs.length c) xs.length (xs.map (Value.int .i64))) (hn : xs.length ≤ 1000000) :
    Calls Try.prog 32 #[.slice (some ⟨L, 0, none⟩) xs.length c] w fun e w' => e = .returned (.tuple #[]) ∧ w'.ownsRow base 3 1 (.slice (some ⟨L, 0, none⟩) xs.length c) xs.length (xs.reverse.map (Value.int .i64)) ∧ w.grownBy w' (some L) := by
  obtain ⟨n, hnn⟩ : ∃ n, xs.length = n := ⟨_, rfl⟩
  rw [hnn] at h ⊢
  have HN := Lib.hid hnn
  have H := Lib.hid h
  have hle : n ≤ 1000000 := by omega
  clear h hn hnn
  go_enter Try.func32, Try.ntmps32
  go_wp2
  go_loopg [2, 3] (n + 1) (fun gk i j wr => ∃ k : Nat, 2 * k ≤ n + 1 ∧ k ≤ n ∧ gk = n - k + 1 ∧ i = .int .i64 k ∧ j = .int .i64 ((n : Int) - 1 - k) ∧ Hid (wr.ownsRow base 3 1 (.slice (some ⟨L, 0, none⟩) n c) n ((rv xs k).map (Value.int .i64))) ∧ Hid (w.grownBy wr (some L)))
  case atStart => exact ⟨0, by omega, by omega, by omega, rfl, by simp, Lib.hid (by rw [rv_zero]; exact H.out), Lib.hid (World.grownBy.refl _ _)⟩
  case round =>
    obtain ⟨k, hk, hkn, rfl, rfl, rfl, HO, HG⟩ := hrel
    by_cases hlt : 2 * k + 1 < n
    · obtain ⟨m, hm⟩ : ∃ m : Nat, m = n - 1 - k := ⟨_, rfl⟩
      have hm1 : ((n : Int) - 1 - (k : Int)) = (m : Int) := by omega
      have hkm : k < m := by omega
      have hmn : m < n := by omega
      have hkI : (k : Int) < (m : Int) := by omega
      have q1 := World.ownsRow.cellAt HO.out k (by omega)
      have q2 := World.ownsRow.cellAt HO.out m (by omega)
      have f1 := World.ownsRow.frozenAt HO.out k
      have f2 := World.ownsRow.frozenAt HO.out m
      have v1 : ((rv xs k).map (Value.int .i64))[k]? = some (.int .i64 (xs.getD k 0)) := by
        have := rv_get (xs := xs) (k := k) (i := k) (by rw [HN.out]; omega)
        rw [if_neg (by rw [HN.out]; omega)] at this
        rw [List.getElem?_map, List.getElem?_eq_getElem (by rw [rv_len, HN.out]; omega)]
        rw [List.getD, List.getElem?_eq_getElem (by rw [rv_len, HN.out]; omega)] at this
        simpa using this
      have v2 : ((rv xs k).map (Value.int .i64))[m]? = some (.int .i64 (xs.getD m 0)) := by
        have := rv_get (xs := xs) (k := k) (i := m) (by rw [HN.out]; omega)
        rw [if_neg (by rw [HN.out]; omega)] at this
        rw [List.getElem?_map, List.getElem?_eq_getElem (by rw [rv_len, HN.out]; omega)]
        rw [List.getD, List.getElem?_eq_getElem (by rw [rv_len, HN.out]; omega)] at this
        simpa using this
      rw [v1] at q1
      rw [v2] at q2
      have HS := Lib.hid (by
        have := own_put12 (own_put12 HO.out k (.int .i64 (xs.getD m 0))) m (.int .i64 (xs.getD k 0))
        rw [← List.map_set, ← List.map_set] at this
        have e := rv_step (xs := xs) (k := k) (by rw [HN.out]; omega)
        rw [HN.out, ← hm] at e
        rw [e] at this
        exact this)
      have HM := Lib.hid hm
      obtain ⟨x, hx⟩ : ∃ x, xs.getD k 0 = x := ⟨_, rfl⟩
      obtain ⟨y, hy⟩ : ∃ y, xs.getD m 0 = y := ⟨_, rfl⟩
      rw [hx] at q1 HS
      rw [hy] at q2 HS
      have hne : k ≠ m := by omega
      clear v1 v2 hm hx hy HO
      rw [hm1]
      clear hm1
      go_wp2_with fail
      go_region
      all_goals
        go_wp2_with fail
        go_roundg (n - k)
        case measure => omega
        case rel => exact ⟨k + 1, by omega, by omega, by omega, by go_num, by have := HM.out; go_num, HS, Lib.hid (grown_trans HG.out (grown_drew12 (grown_trans (grown_setCell wr ⟨L, k, none⟩ _) (grown_setCell _ ⟨L, m, none⟩ _))))⟩
    · go_wp2
      go_end0
      refine ⟨rfl, ?_, HG.out⟩
      have := HO.out
      rwa [rv_full (by rw [HN.out]; omega)] at this

theorem rev_at {base L c n : Nat} {xs : List Int} {w : World} (hn : xs.length = n) (h : w.ownsRow base 3 1 (.slice (some ⟨L, 0, none⟩) n c) n (xs.map (Value.int .i64))) (hl : n ≤ 1000000) :
    Calls Try.prog 32 #[.slice (some ⟨L, 0, none⟩) n c] w fun e w' => e = .returned (.tuple #[]) ∧ w'.ownsRow base 3 1 (.slice (some ⟨L, 0, none⟩) n c) n (xs.reverse.map (Value.int .i64)) ∧ w.grownBy w' (some L) := by
  subst hn
  exact reverse_any h hl
theorem ints_map {xs : List Int} {n : Nat} (h : xs.length = n) : ((List.range n).map fun j => Value.int .i64 (xs.getD j 0)) = xs.map (Value.int .i64) := by
  subst h
  apply List.ext_getElem
  · simp
  · intro i h1 h2
    simp at h1
    simp [List.getD, h1]
end Go.Proofs.Ytihljekdipengaa
