/- The law's own list of the clauses there are: a map gone through, in any order. -/
import Derived.Test.YtfmcgodgflpggaaBeg13b
import Derived.Maps.RangeWalk
namespace Go.Proofs.Ytfmcgodgflpggaa
open Go.RowKit Go.Maps
set_option linter.unusedVariables false
set_option linter.unusedSimpArgs false

def key13 (yss : List (List Int)) (j : Nat) : Lit := .int .i64 (total (csOf (yss.take j)) : Nat)
theorem tot_step {yss : List (List Int)} {j : Nat} (h : j < yss.length) : total (csOf (yss.take j)) < total (csOf (yss.take (j + 1))) := by
  rw [List.take_succ_eq_append_getElem h, csOf_snoc, total_append, total_cons]
  unfold Cl.size
  omega
theorem tot_lt {yss : List (List Int)} {j : Nat} : ∀ {k : Nat}, j < k → k ≤ yss.length → total (csOf (yss.take j)) < total (csOf (yss.take k))
  | 0, h, _ => absurd h (Nat.not_lt_zero _)
  | k + 1, h, hk => by
    have h1 := tot_step (yss := yss) (j := k) (by omega)
    rcases (by omega : j < k ∨ j = k) with e | rfl
    · have := tot_lt (yss := yss) e (by omega); omega
    · exact h1
theorem key13_inj {yss : List (List Int)} {i j : Nat} (hi : i < yss.length) (hj : j < yss.length) (h : key13 yss i = key13 yss j) : i = j := by
  unfold key13 at h
  injection h with _ h
  rcases (by omega : i < j ∨ i = j ∨ j < i) with e | e | e
  · have := tot_lt (yss := yss) e (by omega); omega
  · exact e
  · have := tot_lt (yss := yss) e (by omega); omega
theorem key13_lit (yss : List (List Int)) (j : Nat) : WideAt.IsKeyLit (key13 yss j) := trivial
theorem dOf_isMap (yss : List (List Int)) (vs : List Value) : ∀ k, IsMap (dOf yss vs k)
  | 0 => isMap_empty
  | k + 1 => (dOf_isMap yss vs k).put _ _
theorem dOf_at {yss : List (List Int)} {vs : List Value} {kl : Lit} {c : Value} : ∀ {k : Nat}, (∀ zd, (dOf yss vs k).atKey kl zd = .held c) → ∃ j, j < k ∧ kl = key13 yss j ∧ c = vs.getD j undef
  | 0, h => by
    have := h (.map [])
    simp [dOf, DataW.atKey] at this
  | k + 1, h => by
    by_cases e : kl = key13 yss k
    · have h1 := h (.map [])
      rw [e] at h1
      have h2 : (dOf yss vs (k + 1)).atKey (key13 yss k) (.map []) = .held (vs.getD k undef) := atKey_put_same (dOf_isMap yss vs k) (key13_lit yss k) _ _
      rw [h2] at h1
      injection h1 with h1
      exact ⟨k, by omega, e, h1.symm⟩
    · obtain ⟨j, hj, h1, h2⟩ := dOf_at (k := k) fun zd => by
        have h1 := h zd
        have h2 : (dOf yss vs (k + 1)).atKey kl zd = (dOf yss vs k).atKey kl zd := atKey_put_other e _ _
        rw [← h2]
        exact h1
      exact ⟨j, by omega, h1, h2⟩
theorem dOf_has {yss : List (List Int)} {vs : List Value} : ∀ {k j : Nat}, j < k → has (dOf yss vs k) (key13 yss j) = true
  | 0, j, h => absurd h (Nat.not_lt_zero _)
  | k + 1, j, h => by
    by_cases e : key13 yss j = key13 yss k
    · rw [e]; exact has_put_same (dOf_isMap yss vs k) (key13_lit yss k) _
    · have h2 : has (dOf yss vs (k + 1)) (key13 yss j) = has (dOf yss vs k) (key13 yss j) := has_put_other e _
      rw [h2]
      refine dOf_has ?_
      rcases (by omega : j < k ∨ j = k) with e' | rfl
      · exact e'
      · exact absurd rfl e
theorem ranges_cnt {H : Type} {P : Program} {k : TypeId} {R : Value → Option (DataW H × List MemPlace)} {w : World} {b r n : Nat} {D : DataW H} {left : Lit → Bool} {cnt : Nat} (h : w.ranges P k R b r n D left cnt) : cnt ≤ n := by
  obtain ⟨es, clock, since, seen, c0, _, _, h3, _, _, _, h7, _⟩ := h
  rw [← h7]
  refine Nat.le_trans ?_ h3
  unfold leftOf
  exact Array.size_filter_le

set_option maxRecDepth 100000 in
set_option maxHeartbeats 4000000 in
theorem clauses13_any {w0 w : World} {N : Nat} {yss : List (List Int)} {vs : List Value} {gX ML : Nat} {px : Px} {G : Nat → Prop} {s : WS} {hd : Nat → Value} (h : Begun w0 w N yss vs gX ML px G s hd) (hn : yss.length ≤ 1000) :
    Calls Try.prog 12 #[.pointer (some ⟨gX, 0, none⟩)] w fun e w' => ∃ A c css, e = .returned (.slice A css.length c) ∧ Rows w' w'.heap.size A css ∧ (∀ d, d ∈ css ↔ d ∈ yss) ∧ css.length ≤ yss.length ∧ Below w.heap.size w w' := by
  have x3 := h.blk.cell 3
  simp at x3
  have hgl := h.blk.lt
  obtain ⟨n, hyn⟩ : ∃ n, yss.length = n := ⟨_, rfl⟩
  have hmap := h.map
  have hro := h.rows
  rw [hyn] at hmap hro hn ⊢
  have hmlt := hmap.lt
  have HRO := Lib.hid hro
  have HM := Lib.hid hmap
  have HYN := Lib.hid hyn
  obtain ⟨i0, hi, hz0, hz1, hz2⟩ := info_parts Try.infoInts
  obtain ⟨D, hD⟩ : ∃ D, dOf yss vs n = D := ⟨_, rfl⟩
  have HD := Lib.hid hD
  rw [hD] at HM
  clear h hmap hro hyn hD
  go_enter Try.func12, Try.ntmps12
  go_wp2_with (first
    | (at_range; refine wpList_range_own _ rfl _ 41 rfl 3 33 intLaw Try.underlying41 held13 ML n D rfl HM.out ?_; intro w1 hrg0 hg0 hs0)
    | go_in)
  go_frame
  go_loopw [3] (fun o wr => ∃ (left : Lit → Bool) (cnt : Nat) (A : Option Addr) (c : Nat) (css : List (List Int)) (vvs : List Value), o = .slice A css.length c ∧ wr.ranges Try.prog 3 held13 ML w.heap.size n D left cnt ∧ css.length + cnt ≤ n ∧
      wr.ownsRow (w.heap.size + 1) 33 1 (.slice A css.length c) css.length vvs ∧ Hid (∀ j, j < css.length → ∃ Aj cj, vvs[j]? = some (.slice Aj (css.getD j []).length cj) ∧ Ints w w.heap.size Aj (css.getD j [])) ∧
      Hid (∀ d, d ∈ css → d ∈ yss) ∧ Hid (∀ j, j < n → left (key13 yss j) = false → yss.getD j [] ∈ css) ∧ Below w.heap.size w wr)
    (fun _ wr => wr.rangeLeft ML w.heap.size)
  case atStart =>
    refine ⟨_, _, none, 0, [], [], rfl, hrg0, by have := ranges_cnt hrg0; simpa using this, World.ownsRow_nil _ _ _ _, Lib.hid (fun j hj => absurd hj (Nat.not_lt_zero _)), Lib.hid (fun d hd => by cases hd), Lib.hid (fun j hj hl => ?_), (Below.refl _ _).grown hg0 (Nat.le_refl _) (fun j hj => by cases hj)⟩
    rw [← HD.out, dOf_has hj] at hl
    cases hl
  case round =>
    obtain ⟨left, cnt, A, c, css, vvs, rfl, hrg, hcs, hown, hel, hin, hall, hb⟩ := hrel
    have HRG := Lib.hid hrg
    have HO := Lib.hid hown
    have HB := Lib.hid hb
    have hsz := hb.size
    have hrl := hrg.lt
    clear hrg hown hb hrg0
    go_wp2_with (first
      | (at_next; refine wpList_next_ranges _ rfl _ rfl 3 intLaw held13 (Value.int .i64) (fun v => v) (fun key kl hkey => by obtain ⟨x, rfl, _⟩ := Maps.keyOf_int_inv Try.underlying3 hkey; exact ⟨x, rfl⟩) (fun v y _ => ⟨v, rfl⟩) ML w.heap.size n D _ _ rfl HRG.out ?_ ?_)
      | go_in)
    · intro hc0 hl0
      go_wp2
      go_ret
      refine ⟨A, c, css, rfl, fun hpos => ?_, fun d => ⟨hin.out d, fun hd => ?_⟩, by omega, HB.out⟩
      · obtain ⟨q, rfl, hq1, hq2⟩ := own_addr HO.out hpos
        refine ⟨q, 0, rfl, hq2, fun j hj => ?_⟩
        obtain ⟨Aj, cj, h1, h2⟩ := hel.out j hj
        refine ⟨Aj, cj, ?_, ?_⟩
        · rw [Nat.zero_add, World.ownsRow.cellAt HO.out j (by omega)]; exact h1
        · exact Cells.more (Cells.below h2 HB.out) HB.out.size
      · obtain ⟨j, hj, rfl⟩ := List.mem_iff_getElem.1 hd
        have := hall.out j (by have := HYN.out; omega) (hl0 _)
        simpa [List.getD, hj] using this
    · intro x v kl yd ys w1 cnt1 hkey hlk hR hat hrg1 hlt hg1 hs1 hen
      have hy := Option.some.inj hR
      injection hy with hy1 hy2
      subst hy1 hy2
      have hat2 : ∀ zd, (dOf yss vs n).atKey kl zd = .held v := fun zd => by rw [HD.out]; exact hat zd
      obtain ⟨j, hj, hkl, hv⟩ := dOf_at hat2
      obtain ⟨Aj, cj, hvj, hij⟩ := HRO.out j hj
      rw [hvj] at hv
      obtain ⟨y, hyj⟩ : ∃ y, yss.getD j [] = y := ⟨_, rfl⟩
      rw [hyj] at hv hij
      subst hv
      have HRG1 := Lib.hid hrg1
      have HO1 := Lib.hid (own_agree HO.out fun g h1 h2 => hg1.block g h2 (by intro e; have := Option.some.inj e; omega))
      have HB1 := Lib.hid (HB.out.grown hg1 hsz (fun j hj => by cases hj; exact Nat.le_refl _))
      have hs1' : w.heap.size + 1 ≤ w1.heap.size := by omega
      have HEN := Lib.hid hen
      have HKJ := Lib.hid hkl
      have HYJ := Lib.hid (And.intro hyj hij)
      have HLT := Lib.hid hlt
      clear hrg1 hg1 hat hat2 hR hkey hlk hkl hyj hij hlt hs1
      have hen := HEN.out
      go_wp2_with (at_builtin; refine wpList_append1 _ rfl _ _ 27 rfl (w.heap.size + 1) 33 i0 (.slice none 0 0) 24 Try.underlying27 hi hz0 hz1 hz2 rfl _ _ _ rfl (HO1.out.alloc _) (.slice Aj y.length cj) w1.heap.size rfl (by go_cell) rfl (by unfold maxLen; omega) (by omega) (by simp; omega) ?_)
      intro v' w3 hown3 hg3 hob3
      obtain ⟨A3, c3, hv3, _⟩ := own_slice hown3
      subst hv3
      have hrg3 := (HRG1.out.alloc (.cells #[.slice Aj y.length cj] 33)).kept hg3 (fun e => by have := (HO1.out.lt ML e.symm).1; omega) (fun e => by have := (HO1.out.lt w.heap.size e.symm).1; omega)
      have hb3 := (HB1.out.alloc (by omega) (.cells #[.slice Aj y.length cj] 33)).grown hg3 (by simp; omega) (fun g hg => by have := (HO1.out.lt g hg).1; omega)
      have HR3 := Lib.hid (And.intro hrg3 (And.intro hb3 hown3))
      clear hrg3 hb3 hown3 hg3 hob3
      go_wp2
      have hvl : vvs.length = css.length := by have := HO1.out.1; omega
      have e1 : (css ++ [y]).length = css.length + 1 := by simp
      go_roundw
      case rel =>
        refine ⟨_, cnt1, A3, c3, css ++ [y], vvs ++ [.slice Aj y.length cj], by rw [e1], HR3.out.1, by rw [e1]; have := HLT.out; omega, by rw [e1]; exact HR3.out.2.2, Lib.hid (fun i hi => ?_), Lib.hid (fun d hd => ?_), Lib.hid (fun i hi hl => ?_), HR3.out.2.1⟩
        · rw [e1] at hi
          rcases (by omega : i < css.length ∨ i = css.length) with hi | rfl
          · obtain ⟨Ai, ci, h1, h2⟩ := hel.out i hi
            have e2 : (css ++ [y]).getD i [] = css.getD i [] := by simp [List.getD, List.getElem?_append_left hi]
            exact ⟨Ai, ci, by rw [e2, List.getElem?_append_left (by omega)]; exact h1, by rw [e2]; exact h2⟩
          · have e2 : (css ++ [y]).getD css.length [] = y := by simp [List.getD]
            exact ⟨Aj, cj, by rw [e2, ← hvl]; simp, by rw [e2]; exact HYJ.out.2⟩
        · rcases List.mem_append.1 hd with hd | hd
          · exact hin.out d hd
          · rw [List.mem_singleton.1 hd, ← HYJ.out.1]
            have hjl : j < yss.length := by have := HYN.out; omega
            simp only [List.getD, List.getElem?_eq_getElem hjl, Option.getD_some]
            exact List.getElem_mem hjl
        · rcases hlx : left (key13 yss i) with _ | _
          · exact List.mem_append_left _ (hall.out i hi hlx)
          · rw [hlx] at hl
            simp at hl
            rw [HKJ.out] at hl
            have := key13_inj (by have := HYN.out; omega) (by have := HYN.out; omega) (WideAt.sameKey_eq hl)
            subst this
            rw [HYJ.out.1]
            simp
      case measure => rw [HR3.out.1.left_eq, HRG.out.left_eq]; exact HLT.out
end Go.Proofs.Ytfmcgodgflpggaa
