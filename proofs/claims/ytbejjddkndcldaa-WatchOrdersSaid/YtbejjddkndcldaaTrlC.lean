/- Copies of rows, rows turned round, rows cut. Back. Assignment. -/
import Derived.Test.YtbejjddkndcldaaTrlB
import Derived.Deep.LoopGhost
import Derived.Deep.DeepCutAuto
import Derived.Deep.CutBlock
import Derived.Deep.CutRange
import Derived.Deep.RegionLaw
namespace Go.Proofs.Ytbejjddkndcldaa
open Go.RowKit
set_option linter.unusedVariables false
set_option linter.unusedSimpArgs false

theorem run_front12 {P : Program} {t e : TypeId} (ht : P.underlying t = some (.slice e)) (w : World) (hz : (sizeOf e).run P w = .ok 1 w) (b off n c k : Nat) (hk : k ≤ c) : (Instr.slice t (.slice (some ⟨b, off, none⟩) n c) none (some (.int .i64 k)) none).run P w = .ok (.slice (some ⟨b, off, none⟩) k c) w := by
  have h1 : (0 : Int) ≤ (k : Int) := Int.natCast_nonneg _
  have h2 : (k : Int) ≤ (c : Int) := by omega
  simp [Instr.slice, run_underlying ht, Instr.sliceBounds, go_sem, h1, h2, hz, Result.andThen]
theorem run_back12 {P : Program} {t e : TypeId} (ht : P.underlying t = some (.slice e)) (w : World) (hz : (sizeOf e).run P w = .ok 1 w) (b off n c k : Nat) (hk : k ≤ n) (hn : n ≤ c) : (Instr.slice t (.slice (some ⟨b, off, none⟩) n c) (some (.int .i64 k)) none none).run P w = .ok (.slice (if c = k then some ⟨b, off, none⟩ else some ⟨b, off + k, none⟩) (n - k) (c - k)) w := by
  have h1 : (0 : Int) ≤ (k : Int) := Int.natCast_nonneg _
  have h2 : (k : Int) ≤ (n : Int) := by omega
  have h3 : (n : Int) ≤ (c : Int) := by omega
  simp [Instr.slice, run_underlying ht, Instr.sliceBounds, go_sem, h1, h2, h3, hk, hn, hz, Result.andThen]
theorem wpList_slice12 {P : Program} {ops : Array Oper} {rest : List Oper} {o : Oper} {a : Act} {Q : Exit → Act → World → Prop} {w : World} (hg : o.guard = none) (t : TypeId) (x : Operand) (lo hi mx : Option Operand) (hop : o.op = Op.slice t x lo hi mx)
    (v r : Value) (hx : a.eval x = v) (lo' hi' mx' : Option Value) (hlo : lo.map a.eval = lo') (hhi : hi.map a.eval = hi') (hmx : mx.map a.eval = mx') (hrun : (Instr.slice t v lo' hi' mx').run P w = .ok r w) (hund : P.underlying t = some (.slice (P.elem t))) (hK : wpList P ops Q rest (a.put o.dst r) w) : wpList P ops Q (o :: rest) a w := by
  refine wpList_plain hg fun K' hK' => ?_
  subst hlo hhi hmx
  unfold Oper.wp
  simp [execOp, hop, hx, hrun, run_sliceAt_slice, hund, Result.andThen]
  exact hK' _ _ hK
theorem own_put12 {w : World} {base e L n c : Nat} {xs : List Value} (h : w.ownsRow base e 1 (.slice (some ⟨L, 0, none⟩) n c) n xs) (j : Nat) (u : Value) : (w.setCell ⟨L, j, none⟩ u).ownsRow base e 1 (.slice (some ⟨L, 0, none⟩) n c) n (xs.set j u) := by
  refine ⟨by rw [List.length_set]; exact h.1, ?_⟩
  rcases h.2 with ⟨hv, _⟩ | ⟨g', cap', cur, hv, hb', hg', hnc, hmx, hcs, htk⟩
  · cases hv
  · injection hv with hA _ hC
    injection hA with hA
    injection hA with hA
    subst hA hC
    refine .inr ⟨L, c, cur.setIfInBounds j u, rfl, hb', ?_, hnc, hmx, by rw [Array.size_setIfInBounds]; exact hcs, ?_⟩
    · simp [World.setCell, Array.getElem?_modify, hg']
    · rw [Array.toList_setIfInBounds, List.take_set, htk]

set_option maxHeartbeats 1000000 in
theorem clone_int (n : Nat) (f : Nat → Value) (B : Nat) (A : Option Addr) (c : Nat) (w : World) (hn : n ≤ 1000000) (h1 : ∀ j, j < n → (f j).oneCell' = true) (h : Cells w B A n f) (hB : B ≤ w.heap.size) :
    Calls Try.prog 63 #[.slice A n c] w fun e w' => ∃ A' c', e = .returned (.slice A' n c') ∧ w'.ownsRow w.heap.size 3 1 (.slice A' n c') n ((List.range n).map f) ∧ Below w.heap.size w w' := by
  have hnil := fun (w : World) (a : Option Addr) (n c : Nat) => Lib.run_eql_slice_nil (P := Try.prog) w 32 3 a n c 0 0 Try.underlying32
  obtain ⟨i0, hi, hz0, hz1, hz2⟩ := info_parts infoI12
  have H := Lib.hid h
  have H1 := Lib.hid h1
  clear h h1
  rcases A with _ | ad
  · go_enter Try.func63, Try.ntmps63
    go_wp2
    go_ret
    have h0 : n = 0 := by
      rcases Nat.eq_zero_or_pos n with h0 | h0
      · exact h0
      · obtain ⟨b, off, e, _⟩ := H.out h0
        cases e
    subst h0
    exact ⟨_, _, rfl, World.ownsRow_nil _ _ _ _, Below.refl _ _⟩
  · go_enter Try.func63, Try.ntmps63
    go_wp2_with (at_builtin; refine wpList_append_cells _ rfl _ _ 32 rfl w.heap.size 3 i0 (.int .i64 0) 8 Try.underlying32 hi hz0 hz1 hz2 rfl _ 0 [] rfl (World.ownsRow_lit w #[] 0 (Nat.le_refl _) (Nat.zero_le _) rfl) B _ n _ f rfl (H.out.alloc hB _) H1.out (by unfold maxLen; omega) (by omega) (by simp) ?_)
    intro v' w1 hown hg _
    have HO := Lib.hid hown
    have HG := Lib.hid hg
    clear hown hg
    go_wp2
    go_ret
    have ho : w1.ownsRow w.heap.size 3 1 v' n ((List.range n).map f) := by simpa using HO.out
    obtain ⟨A', c', hv', _⟩ := own_slice ho
    rw [hv'] at ho ⊢
    refine ⟨_, _, rfl, ho, ((Below.refl _ _).alloc (Nat.le_refl _) _).grown HG.out (by simp) (fun k hk => ?_)⟩
    simp [Value.ownBlock] at hk
    omega

set_option maxHeartbeats 1000000 in
theorem clone_bool (n : Nat) (f : Nat → Value) (B : Nat) (A : Option Addr) (c : Nat) (w : World) (hn : n ≤ 1000000) (h1 : ∀ j, j < n → (f j).oneCell' = true) (h : Cells w B A n f) (hB : B ≤ w.heap.size) :
    Calls Try.prog 52 #[.slice A n c] w fun e w' => ∃ A' c', e = .returned (.slice A' n c') ∧ w'.ownsRow w.heap.size 4 1 (.slice A' n c') n ((List.range n).map f) ∧ Below w.heap.size w w' := by
  have hnil := fun (w : World) (a : Option Addr) (n c : Nat) => Lib.run_eql_slice_nil (P := Try.prog) w 51 4 a n c 0 0 Try.underlying51
  obtain ⟨i0, hi, hz0, hz1, hz2⟩ := info_parts infoB12
  have H := Lib.hid h
  have H1 := Lib.hid h1
  clear h h1
  rcases A with _ | ad
  · go_enter Try.func52, Try.ntmps52
    go_wp2
    go_ret
    have h0 : n = 0 := by
      rcases Nat.eq_zero_or_pos n with h0 | h0
      · exact h0
      · obtain ⟨b, off, e, _⟩ := H.out h0
        cases e
    subst h0
    exact ⟨_, _, rfl, World.ownsRow_nil _ _ _ _, Below.refl _ _⟩
  · go_enter Try.func52, Try.ntmps52
    go_wp2_with (at_builtin; refine wpList_append_cells _ rfl _ _ 51 rfl w.heap.size 4 i0 (.bool false) 1 Try.underlying51 hi hz0 hz1 hz2 rfl _ 0 [] rfl (World.ownsRow_lit w #[] 0 (Nat.le_refl _) (Nat.zero_le _) rfl) B _ n _ f rfl (H.out.alloc hB _) H1.out (by unfold maxLen; omega) (by omega) (by simp) ?_)
    intro v' w1 hown hg _
    have HO := Lib.hid hown
    have HG := Lib.hid hg
    clear hown hg
    go_wp2
    go_ret
    have ho : w1.ownsRow w.heap.size 4 1 v' n ((List.range n).map f) := by simpa using HO.out
    obtain ⟨A', c', hv', _⟩ := own_slice ho
    rw [hv'] at ho ⊢
    refine ⟨_, _, rfl, ho, ((Below.refl _ _).alloc (Nat.le_refl _) _).grown HG.out (by simp) (fun k hk => ?_)⟩
    simp [Value.ownBlock] at hk
    omega

theorem grown_drew12 {a b : World} {row : Option Nat} (h : a.grownBy b row) : a.grownBy b.drew row := ⟨h.os, h.tape, h.output, h.size, h.block⟩
theorem own_take {w : World} {base e n c k : Nat} {A : Option Addr} {xs : List Value} (h : w.ownsRow base e 1 (.slice A n c) n xs) (hk : k ≤ n) (hA : A ≠ none) : w.ownsRow base e 1 (.slice A k c) k (xs.take k) := by
  have hl := h.1
  rcases h.2 with ⟨hv, _⟩ | ⟨g', cap', cur, hv, hb', hg', hnc, hmx, hcs, htk⟩
  · injection hv with hv
    exact absurd hv hA
  · injection hv with hv _ hc
    subst hv hc
    refine ⟨?_, .inr ⟨g', c, cur, rfl, hb', hg', by omega, hmx, hcs, ?_⟩⟩
    · rw [List.length_take]; omega
    · rw [← htk, List.take_take]
      congr 1
      omega

/-- a row, its outer k places on either side turned round -/
def rv (xs : List Int) (k : Nat) : List Int := (List.range xs.length).map fun i => if i < k ∨ xs.length - k ≤ i then xs.getD (xs.length - 1 - i) 0 else xs.getD i 0
theorem rv_len (xs : List Int) (k : Nat) : (rv xs k).length = xs.length := by simp [rv]
theorem rv_zero (xs : List Int) : rv xs 0 = xs := by
  apply List.ext_getElem
  · simp [rv]
  · intro i h1 h2
    simp [rv, List.getD, h2]
    omega
theorem rv_get {xs : List Int} {k i : Nat} (h : i < xs.length) : (rv xs k).getD i 0 = if i < k ∨ xs.length - k ≤ i then xs.getD (xs.length - 1 - i) 0 else xs.getD i 0 := by
  simp [rv, List.getD, h]
theorem rv_full {xs : List Int} {k : Nat} (h : xs.length ≤ 2 * k + 1) : rv xs k = xs.reverse := by
  apply List.ext_getElem
  · simp [rv]
  · intro i h1 h2
    have h3 : i < xs.length := by simpa using h2
    rw [List.getElem_reverse]
    simp only [rv, List.getElem_map, List.getElem_range]
    by_cases hc : i < k ∨ xs.length - k ≤ i
    · rw [if_pos hc]
      simp [List.getD, show xs.length - 1 - i < xs.length by omega]
    · rw [if_neg hc]
      have : xs.length - 1 - i = i := by omega
      simp only [this]
      simp [List.getD, h3]
theorem rv_step {xs : List Int} {k : Nat} (h : 2 * k + 1 < xs.length) : ((rv xs k).set k (xs.getD (xs.length - 1 - k) 0)).set (xs.length - 1 - k) (xs.getD k 0) = rv xs (k + 1) := by
  apply List.ext_getElem
  · simp [rv]
  · intro i h1 h2
    have h3 : i < xs.length := by simpa [rv] using h2
    rw [List.getElem_set, List.getElem_set]
    simp only [rv, List.getElem_map, List.getElem_range]
    by_cases e1 : xs.length - 1 - k = i
    · rw [if_pos e1, if_pos (by omega)]
      congr 1
      omega
    · rw [if_neg e1]
      by_cases e2 : k = i
      · rw [if_pos e2, if_pos (by omega), e2]
      · rw [if_neg e2]
        by_cases hc : i < k ∨ xs.length - k ≤ i
        · rw [if_pos hc, if_pos (by omega)]
        · rw [if_neg hc, if_neg (by omega)]

theorem ints_map {xs : List Int} {n : Nat} (h : xs.length = n) : ((List.range n).map fun j => Value.int .i64 (xs.getD j 0)) = xs.map (Value.int .i64) := by
  subst h
  apply List.ext_getElem
  · simp
  · intro i h1 h2
    simp at h1
    simp [List.getD, h1]

end Go.Proofs.Ytbejjddkndcldaa

namespace Go.Proofs.Ytbejjddkndcldaa
open Go.RowKit
set_option linter.unusedVariables false
set_option linter.unusedSimpArgs false

theorem sz12 (w : World) : (sizeOf 3).run Try.prog w = .ok 1 w := by
  have h := infoI12
  rcases hi : Try.prog.info? 3 with _ | i
  · rw [hi] at h; simp at h
  · rw [hi] at h
    simp at h
    simp [sizeOf, typeInfo, hi, h.2.1]
theorem Vals.pop {w : World} {V n k : Nat} {rs : List Rec} {r : Rec} (h : Vals w V n (rs ++ [r])) (hk : k < n) (hr : r.l.natAbs = k + 1) (hu : find rs r.l = none) : Vals (w.setCell ⟨V, k, none⟩ (.int .i8 0)) V n rs := by
  obtain ⟨cs, h1, h2, h3⟩ := h
  refine ⟨cs.setIfInBounds k (.int .i8 0), h1.set_ k _, by simpa using h2, fun j hj => ?_⟩
  by_cases e : j = k
  · subst e
    rw [Array.getElem?_setIfInBounds_self, if_pos (by omega), valT_none.2]
    rw [find_abs (m := r.l) (by omega)]
    exact hu
  · rw [Array.getElem?_setIfInBounds_ne (Ne.symm e), h3 j hj, valT_snoc_other (by omega)]

/-- blocks of other types stay, whatever one block becomes -/
theorem Tn.one {ts : List TypeId} {base P : Nat} {w w' w'' : World} (h : Tn ts base P w w') {q : Nat} {ty : TypeId} {X : Array Value} (hq : Blk w' q ty X) (ht : ty ∈ ts) (hb : base ≤ q) (hB : base ≤ w'.heap.size) (hg : w'.grownBy w'' (some q)) : Tn ts base P w w'' := by
  refine h.trans ⟨(Below.refl base w').grown hg hB (fun k hk => by injection hk with hk; omega), fun q' o hq' h1 h2 => ?_⟩
  refine (hg.block q' (Array.getElem?_eq_some_iff.1 hq').1 fun e => ?_).trans hq'
  injection e with e
  subst e
  unfold Blk at hq
  rw [hq] at hq'
  injection hq' with hq'
  exact h2 _ _ _ hq'.symm ht

/-- what Back leaves -/
theorem TrM.cut {w w5 wr : World} {base g P V S K s q c p d : Nat} {t : TS} (hgood : t.Good) (hK : t.starts[K]? = some s) (b1 : Blk w5 g 97 #[.slice (some ⟨q, 0, none⟩) t.recs.length c, .slice (some ⟨p, 0, none⟩) t.starts.length d, .slice (some ⟨V, 0, none⟩) t.ph.length t.ph.length, .slice (some ⟨S, 0, none⟩) t.ph.length t.ph.length, .slice (some ⟨P, 0, none⟩) t.ph.length t.ph.length])
    (b2 : w5.ownsRow base 3 1 (.slice (some ⟨q, 0, none⟩) t.recs.length c) t.recs.length (litsV t.recs)) (b3 : w5.ownsRow base 3 1 (.slice (some ⟨p, 0, none⟩) t.starts.length d) t.starts.length (startsV t.starts))
    (hne : q ≠ p) (cv : Array Value) (b4 : Blk w5 V 100 cv) (b5 : Spots w5 S t.ph.length t.recs) (b6 : BlkB w5 P 4 t.ph) (hV : base ≤ V) (hS : base ≤ S) (hP : base ≤ P) (hg : base ≤ g) (hB : base ≤ w5.heap.size)
    (hv : Vals wr V t.ph.length (t.recs.take s)) (hgr : w5.grownBy wr (some V)) (ht : Tn [100, 97] base P w w5) :
    TrM ((wr.setCell ⟨g, 0, none⟩ (.slice (some ⟨q, 0, none⟩) s c)).setCell ⟨g, 1, none⟩ (.slice (some ⟨p, 0, none⟩) K d)) base g P ⟨t.recs.take s, t.starts.take K, t.ph⟩ ∧ Tn [100, 97] base P w ((wr.setCell ⟨g, 0, none⟩ (.slice (some ⟨q, 0, none⟩) s c)).setCell ⟨g, 1, none⟩ (.slice (some ⟨p, 0, none⟩) K d)) := by
  have hs := hgood.start s (List.mem_of_getElem? hK)
  have hKl := (List.getElem?_eq_some_iff.1 hK).1
  have hKe : (t.starts.take K).length = K := by rw [List.length_take]; omega
  have hse : (t.recs.take s).length = s := by rw [List.length_take]; omega
  have n1 : g ≠ V := b1.ne_ b4 (by decide)
  have r1 := b1.grown hgr (by simpa using n1)
  have r2 := b2.kept hgr (.inr (Ne.symm (own_blk_ne b2 b4 (by decide))))
  have r3 := b3.kept hgr (.inr (Ne.symm (own_blk_ne b3 b4 (by decide))))
  obtain ⟨cs, s1, s2, s3⟩ := b5
  have r5 := s1.grown hgr (by simpa using s1.ne_ b4 (by decide))
  have r6 : Blk wr P 4 (boolCells t.ph) := Blk.grown b6 hgr (by simpa using Blk.ne_ b6 b4 (by decide))
  have x1 := r1.set_ 0 (.slice (some ⟨q, 0, none⟩) s c)
  have x2 := own_setCell r2 (p := ⟨g, 0, none⟩) (.slice (some ⟨q, 0, none⟩) s c) (own_blk_ne r2 r1 (by decide))
  have x3 := own_setCell r3 (p := ⟨g, 0, none⟩) (.slice (some ⟨q, 0, none⟩) s c) (own_blk_ne r3 r1 (by decide))
  have K2 : ∀ {q' : Nat} {ty : TypeId} {X : Array Value}, Blk wr q' ty X → ty ≠ 97 → Blk ((wr.setCell ⟨g, 0, none⟩ (.slice (some ⟨q, 0, none⟩) s c)).setCell ⟨g, 1, none⟩ (.slice (some ⟨p, 0, none⟩) K d)) q' ty X := fun hq hne => (hq.far (hq.ne_ r1 hne) _).far (hq.ne_ r1 hne) _
  have y2 := own_take (own_setCell x2 (p := ⟨g, 1, none⟩) (.slice (some ⟨p, 0, none⟩) K d) (own_blk_ne x2 x1 (by decide))) (Nat.le_of_lt hs) (by simp)
  have y3 := own_take (own_setCell x3 (p := ⟨g, 1, none⟩) (.slice (some ⟨p, 0, none⟩) K d) (own_blk_ne x3 x1 (by decide))) (Nat.le_of_lt hKl) (by simp)
  refine ⟨⟨⟨V, S, some ⟨q, 0, none⟩, some ⟨p, 0, none⟩, c, d, ?_, ?_, ?_, ?_, hv.keep fun X hX => K2 hX (by decide), ⟨cs, K2 r5 (by decide), s2, fun i r hr => ?_⟩, hV, hS⟩, K2 r6 (by decide), hg, hP⟩, ?_⟩
  · have := x1.set_ 1 (.slice (some ⟨p, 0, none⟩) K d)
    rw [hse, hKe]
    simpa using this
  · rw [hse]
    unfold litsV at y2 ⊢
    rw [List.map_take]
    exact y2
  · rw [hKe]
    unfold startsV at y3 ⊢
    rw [List.map_take]
    exact y3
  · intro x h1 h2
    simp [Value.ownBlock] at h1 h2
    omega
  · have hi : i < s := by
      have := (List.getElem?_eq_some_iff.1 hr).1
      simp at this
      omega
    rw [List.getElem?_take, if_pos hi] at hr
    exact s3 i r hr
  · exact ((ht.one b4 (by simp) hV hB hgr).set r1 (.inl (by simp)) hg _ _).set x1 (.inl (by simp)) hg _ _

end Go.Proofs.Ytbejjddkndcldaa

namespace Go.Proofs.Ytbejjddkndcldaa
open Go.RowKit
set_option linter.unusedVariables false
set_option linter.unusedSimpArgs false

/-- phases, with the values of the first literals -/
def asgK (rs : List Rec) (ph : List Bool) : List Bool := rs.foldl (fun a r => a.set (r.l.natAbs - 1) (decide (0 < r.l))) ph
theorem asgK_len (rs : List Rec) : ∀ ph, (asgK rs ph).length = ph.length := by
  induction rs with
  | nil => intro ph; rfl
  | cons r rs ih => intro ph; show (asgK rs _).length = _; rw [ih]; simp
theorem asgK_snoc (rs : List Rec) (r : Rec) (ph : List Bool) : asgK (rs ++ [r]) ph = (asgK rs ph).set (r.l.natAbs - 1) (decide (0 < r.l)) := by
  simp [asgK, List.foldl_append]
theorem bools_map {xs : List Bool} {n : Nat} (h : xs.length = n) : ((List.range n).map fun j => Value.bool (xs.getD j false)) = xs.map Value.bool := by
  subst h
  apply List.ext_getElem
  · simp
  · intro i h1 h2
    simp at h1
    simp [List.getD, h1]

end Go.Proofs.Ytbejjddkndcldaa
