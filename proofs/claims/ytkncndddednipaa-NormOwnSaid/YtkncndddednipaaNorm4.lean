/- What Resolve and Formula answer. -/
import Derived.Test.YtkncndddednipaaNorm3
namespace Go.Proofs.Ytkncndddednipaa
open Go.RowKit

set_option maxRecDepth 100000 in
theorem grow_nil_any (n : Nat) (w : World) (hn : n ≤ 1099511627776) :
    Calls Try.prog 38 #[.slice none 0 0, .int .i64 n] w fun e w' => ∃ v, e = .returned v ∧ w'.ownsRow w.heap.size 3 1 v 0 [] ∧ Below w.heap.size w w' := by
  rcases Nat.eq_zero_or_pos n with h0 | h0
  · subst h0
    exact (Any8.slices_Grow_room Try.growI none 0 0 0 w (by omega) (by omega) (by omega) (by omega)).mono fun _ _ ⟨he, hw⟩ => ⟨_, he, by rw [hw]; exact World.ownsRow_nil _ _ _ _, by rw [hw]; exact Below.refl _ _⟩
  · obtain ⟨i0, hi, hz0, hz1, hz2⟩ := info_parts Try.infoInt3
    have hcon := Any8.slices_Grow_grow Try.growI i0 (.int .i64 0) hi hz0 (by omega) none 0 0 n [] w (by omega) (by omega) (by rw [hz2]; omega) (by omega) (by simp) (fun _ => rfl) (fun _ h => by cases h)
    refine hcon.mono ?_
    rintro e w' ⟨rfl, rfl⟩
    refine ⟨_, rfl, ⟨rfl, .inr ⟨w.heap.size, _, _, rfl, Nat.le_refl _, heap_alloc_new w.drew _, Nat.zero_le _, grownCap_le_maxLen w _ _ _ (by unfold maxLen; omega), ?_, rfl⟩⟩, ?_⟩
    · have := grownCap_ge w (0 + n) 0 (Try.growI_ren.t 25)
      show _ = grownCap w (0 + n) 0 (Try.growI_ren.t 25) * 1
      simp [Builtin.zeroCells, Value.cells]
      simp at this
      omega
    · exact below_undrew ((Below.refl _ _).alloc (Nat.le_refl _) _)

theorem flatten_take {xss : List (List Int)} {k : Nat} (h : k < xss.length) : (xss.take (k + 1)).flatten = (xss.take k).flatten ++ xss.getD k [] := by
  rw [List.take_succ_eq_append_getElem h, List.flatten_append]
  simp [List.getD, h]
theorem flatten_len (xss : List (List Int)) : xss.flatten.length = litCount xss := by
  unfold litCount; rw [List.length_flatten]

set_option maxRecDepth 100000 in
theorem concat_any (xss : List (List Int)) (B : Nat) (A : Option Addr) (c : Nat) (w : World) (hx : xss.length ≤ 1099511627776) (hl : litCount xss ≤ 1099511627776) (h : Rows w B A xss) (hB : B ≤ w.heap.size) :
    Calls Try.prog 28 #[.slice A xss.length c] w (OwnInts xss.flatten w) := by
  have H := Lib.hid h
  clear h
  obtain ⟨i0, hi, hz0, hz1, hz2⟩ := info_parts Try.infoInt3
  go_enter Try.func28, Try.ntmps28
  go_wp2
  go_loopg [3, 11] (xss.length + 1) (fun g s i wr => ∃ (k : Nat) (n : Nat), w = wr ∧ k ≤ xss.length ∧ g = xss.length - k + 1 ∧ i = .int .i64 k ∧ s = .int .i64 n ∧ n = litCount (xss.take k))
  case atStart => exact ⟨0, 0, rfl, by omega, by omega, rfl, rfl, rfl⟩
  case round =>
    obtain ⟨k, n, rfl, hk, rfl, rfl, rfl, hn⟩ := hrel
    have hnb : n ≤ 1099511627776 := by have := litCount_take_le xss k; omega
    by_cases hlt : k < xss.length
    · obtain ⟨b, off, Ak, ck, rfl, _, hcell, _⟩ := H.out.at_ hlt
      have hs := litCount_take hlt
      have hs2 := litCount_take_le xss (k + 1)
      rw [← hn] at hs
      obtain ⟨m, hm⟩ : ∃ m, m = (xss.getD k []).length := ⟨_, rfl⟩
      rw [← hm] at hcell hs
      have hmb : n + m ≤ 1099511627776 := by omega
      have HS := Lib.hid hs
      clear hm hn hs hs2
      go_wp2
      go_roundg (xss.length - k)
      case measure => omega
      case rel => exact ⟨k + 1, n + m, rfl, by omega, by omega, by go_num, by go_num, HS.out.symm⟩
    · obtain rfl : k = xss.length := by omega
      have hn' : n = litCount xss := by rw [hn, List.take_of_length_le (Nat.le_refl _)]
      have HN := Lib.hid hn'
      clear hn hn'
      go_wp2_with fail
      refine (grow_nil_any n w hnb).mono ?_
      rintro e w1 ⟨v, rfl, hown, hb⟩
      have HO := Lib.hid hown
      have HBel := Lib.hid hb
      clear hown hb
      go_wp2
      go_loopw [6, 27] (fun v i wr => ∃ (k : Nat) (fs : List Int), k ≤ xss.length ∧ i = .int .i64 k ∧ Hid (fs = (xss.take k).flatten) ∧ wr.ownsRow w.heap.size 3 1 v fs.length (fs.map (Value.int .i64)) ∧ Below w.heap.size w wr) (fun _ i _ => xss.length - (intOf i).toNat)
      case atStart => exact ⟨0, [], by omega, rfl, Lib.hid rfl, HO.out, HBel.out⟩
      case round =>
        obtain ⟨k, fs, hk, rfl, HFS, hown, hbel⟩ := hrel
        have HO2 := Lib.hid hown
        have HB2 := Lib.hid hbel
        have hsz := hbel.size
        clear hown hbel
        by_cases hlt : k < xss.length
        · obtain ⟨b, off, Ak, ck, rfl, _, hcell, hint⟩ := (H.out.below (HB2.out.mono hB)).at_ hlt
          have hf := flatten_take hlt
          have hfl : fs.length + (xss.getD k []).length ≤ 1099511627776 := by
            have h1 := litCount_take hlt
            have h2 := litCount_take_le xss (k + 1)
            rw [HFS.out, flatten_len]
            omega
          rw [← HFS.out] at hf
          obtain ⟨xs, hxs⟩ : ∃ xs, xs = xss.getD k [] := ⟨_, rfl⟩
          rw [← hxs] at hcell hint hf hfl
          have HF := Lib.hid hf
          obtain ⟨f, hff⟩ : ∃ f : Nat → Value, f = fun j => .int .i64 (xs.getD j 0) := ⟨_, rfl⟩
          have h1c : Hid (∀ j, j < xs.length → (f j).oneCell' = true) := Lib.hid fun j _ => by rw [hff]; rfl
          have HI : Hid (Cells wr B Ak xs.length f) := Lib.hid (by rw [hff]; exact hint)
          have HFF := Lib.hid hff
          clear hxs hf hint hff
          go_wp2_with (at_builtin; refine wpList_append_cells _ rfl _ _ 24 rfl w.heap.size 3 i0 (.int .i64 0) 8 Try.underlying24 hi hz0 hz1 hz2 rfl _ _ _ rfl HO2.out B Ak xs.length ck _ rfl HI.out h1c.out (by unfold maxLen; omega) (by omega) (by omega) ?_)
          intro v' w2 hown1 hg1 _
          rw [HFF.out, range_map_ints] at hown1
          have hb1 := HB2.out.grown hg1 (by omega) (fun k hk => (HO2.out.lt k hk).1)
          have HO3 := Lib.hid hown1
          have HB3 := Lib.hid hb1
          clear hown1 hg1 hb1
          go_wp2
          go_roundw
          case rel =>
            refine ⟨k + 1, fs ++ xs, by omega, by go_num, Lib.hid HF.out.symm, ?_, HB3.out⟩
            have := HO3.out
            rw [List.map_append, List.length_append]
            exact this
          case measure => simp [intOf]; omega
        · go_wp2
          go_ret
          obtain rfl : k = xss.length := by omega
          have ho := HO2.out
          have hfs := HFS.out
          rw [List.take_of_length_le (Nat.le_refl _)] at hfs
          rw [hfs] at ho
          obtain ⟨A', c', hv', _⟩ := own_slice ho
          rw [hv'] at ho ⊢
          exact ⟨_, _, rfl, ho, HB2.out⟩

set_option maxRecDepth 100000 in
theorem resolve_any (xs ys : List Int) (l : Int) (B B' : Nat) (A A' : Option Addr) (c c' : Nat) (w : World) (hx : Lits xs) (hy : Lits ys) (hxy : xs.length + ys.length ≤ 1000000000) (hl1 : -1000000 ≤ l) (hl2 : l ≤ 1000000)
    (h : Ints w B A xs) (h' : Ints w B' A' ys) (hB : B ≤ w.heap.size) (hB' : B' ≤ w.heap.size) :
    Calls Try.prog 19 #[.slice A xs.length c, .slice A' ys.length c', .int .i64 l] w (OwnInts (resolveOf xs ys l) w) := by
  have HX := Lib.hid hx
  have HY := Lib.hid hy
  have H := Lib.hid h
  have H' := Lib.hid h'
  have hla : (withoutOf xs l).length + (withoutOf ys (-l)).length ≤ 1000000000 := by have := without_len xs l; have := without_len ys (-l); omega
  have hLits : Lits ([withoutOf xs l, withoutOf ys (-l)].flatten) := by
    refine ⟨by simpa using hla, fun x hm => ?_⟩
    simp at hm
    rcases hm with hm | hm
    · exact hx.2 x (mem_withoutOf.1 hm).1
    · exact hy.2 x (mem_withoutOf.1 hm).1
  have hres : resolveOf xs ys l = normOf [withoutOf xs l, withoutOf ys (-l)].flatten := by unfold resolveOf; simp
  have HL := Lib.hid hLits
  have HRES := Lib.hid hres
  clear hx hy h h' hLits hres
  go_enter Try.func19, Try.ntmps19
  go_wp2_with fail
  refine (without_any xs l B A c w HX.out H.out hB).mono ?_
  rintro e w1 ⟨A1, c1, rfl, hown, hb⟩
  have HO1 := Lib.hid hown
  have HB1 := Lib.hid hb
  have hs1 := hb.size
  clear hown hb
  go_wp2_with fail
  refine (without_any ys (-l) B' A' c' w1 HY.out (Cells.below H'.out (HB1.out.mono hB')) (by omega)).mono ?_
  rintro e w2 ⟨A2, c2, rfl, hown, hb⟩
  have HI1 : Hid (Ints w2 w1.heap.size A1 (withoutOf xs l)) := Lib.hid (Cells.below (ints_of_own HO1.out) hb)
  have HI2 : Hid (Ints w2 w2.heap.size A2 (withoutOf ys (-l))) := Lib.hid (ints_of_own hown)
  have HB2 := Lib.hid (HB1.out.trans (hb.mono HB1.out.size))
  have hs2 := hb.size
  clear hown hb
  go_wp2_with fail
  obtain ⟨fl, hfl⟩ : ∃ fl, fl = [withoutOf xs l, withoutOf ys (-l)].flatten := ⟨_, rfl⟩
  rw [← hfl] at HL HRES
  obtain ⟨w3, hw3⟩ : ∃ w3, w3 = w2.alloc (Obj.cells #[Value.slice A1 (withoutOf xs l).length c1, Value.slice A2 (withoutOf ys (-l)).length c2] 24) := ⟨_, rfl⟩
  rw [← hw3]
  have hR3 : Rows w3 w3.heap.size (some ⟨w2.heap.size, 0, none⟩) [withoutOf xs l, withoutOf ys (-l)] := by
    rw [hw3]
    refine rows_blk4 (t := 24) (vs := [Value.slice A1 (withoutOf xs l).length c1, Value.slice A2 (withoutOf ys (-l)).length c2]) (Blk.new w2 _ _) (by simp) fun j hj => ?_
    match j, hj with
    | 0, _ => exact ⟨_, _, rfl, Cells.more (Cells.alloc HI1.out hs2 _) (by simp; omega)⟩
    | 1, _ => exact ⟨_, _, rfl, Cells.more (Cells.alloc HI2.out (Nat.le_refl _) _) (by simp)⟩
  have HB3 := Lib.hid (show Below w.heap.size w w3 by rw [hw3]; exact HB2.out.alloc (by omega) _)
  clear hw3
  have hr : Calls Try.prog 28 #[.slice (some ⟨w2.heap.size, 0, none⟩) 2 2] w3 (OwnInts fl w3) := by
    rw [hfl]
    exact concat_any [withoutOf xs l, withoutOf ys (-l)] _ _ 2 w3 (by simp) (by simp [litCount]; omega) hR3 (Nat.le_refl _)
  refine hr.mono ?_
  clear hr hR3 hfl
  rintro e w4 ⟨A4, c4, rfl, hown, hb⟩
  have HC := Lib.hid (norm_clause_any fl w4.heap.size A4 c4 w4 HL.out (ints_of_own hown) (Nat.le_refl _))
  have HB4 := Lib.hid (HB3.out.trans (hb.mono HB3.out.size))
  clear hown hb
  rw [← HRES.out] at HC
  go_wp2_with fail
  refine HC.out.mono ?_
  rintro e w5 ⟨A5, c5, rfl, hown, hb⟩
  have HO5 := Lib.hid hown
  have HB5 := Lib.hid (HB4.out.trans (hb.mono HB4.out.size))
  have hs4 := HB4.out.size
  clear hown hb
  go_wp2
  go_ret
  have ho := own_more (base' := w.heap.size) HO5.out (by omega)
  exact ⟨_, _, rfl, ho, HB5.out⟩
end Go.Proofs.Ytkncndddednipaa
