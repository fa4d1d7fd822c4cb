/- Compact. -/
import Derived.Test.YtnjcegjcaaplgaaCompact1
namespace Go.Proofs.Ytnjcegjcaaplgaa
open Go.RowKit Go.Shelf
attribute [local go_sem] Oper.semAt_some
set_option linter.unusedVariables false
set_option linter.unusedSimpArgs false

set_option maxRecDepth 100000 in
set_option maxHeartbeats 4000000 in
theorem compact_any {w : World} {base g b : Nat} {gw : Option Nat} {lim : Int} {cs : List Cl} (h : Ar w base g b gw lim cs) (ht : total cs ≤ 1099511627776) :
    Calls Try.prog 12 #[.pointer (some ⟨g, 0, none⟩)] w fun e w' => ∃ bm, e = .returned (.map (some bm)) ∧ Ar w' base g b gw lim (live cs) ∧ Turn w w' g b gw ∧ Moved w' bm cs ∧ w.heap.size ≤ bm := by
  have hmm := fun (x : Int) (w : World) => run_makeMap_hint (P := Try.prog) Try.underlying45 x w
  have HCC := Lib.hid (fun w' (hb : Below w.heap.size w w') => Lib.hid (count_any (h.below hb)))
  have H := Lib.hid h
  clear h
  refine (callsIn_wide (n := 20)).1 ?_
  refine callsIn_of_wp_marks Try.func12 rfl trivial ?_ rfl
  simp only [Try.ntmps12, List.size_toArray, List.length_cons, List.length_nil, Nat.reduceAdd, Nat.reduceSub, Array.replicate_succ, Array.replicate_zero, List.push_toArray, List.append_toArray, List.nil_append, List.cons_append]
  refine wpIn_wide.2 ?_
  go_wp2_with fail
  have hb0 : Below w.heap.size w (w.alloc (Obj.cells #[Value.pointer (some ⟨g, 0, none⟩)] 25)) := (Below.refl _ _).alloc (Nat.le_refl _) _
  refine ((HCC.out _ hb0).out).mono ?_
  rintro e w1 ⟨rfl, rfl⟩
  go_wp2_with fail
  refine (all_any _ _).mono ?_
  rintro e w2 ⟨rfl, rfl⟩
  clear hmm
  go_wp2_with fail
  -- the world at the loop
  obtain ⟨wl, hwl⟩ : ∃ wl, wl = (((((w.alloc (Obj.cells #[Value.pointer (some ⟨g, 0, none⟩)] 25)).alloc (Obj.map #[] 0)).alloc (Obj.cells #[Value.map (some (w.heap.size + 1))] 45)).alloc
      (Obj.cells #[Value.int IntKind.i64 0] 3)).alloc (Obj.cells #[Value.pointer (some ⟨g, 0, none⟩)] 25)) := ⟨_, rfl⟩
  rw [← hwl]
  have hbl : Below w.heap.size w wl := by rw [hwl]; exact (((((Below.refl _ _).alloc (Nat.le_refl _) _).alloc (by simp) _).alloc (by simp; omega) _).alloc (by simp; omega) _).alloc (by simp; omega) _
  have hsz : wl.heap.size = w.heap.size + 5 := by rw [hwl]; simp
  have hal := H.out.below hbl
  obtain ⟨A, c, hblk, hown, hgw⟩ := hal.ex
  obtain ⟨T, hT⟩ : ∃ T, T = total cs := ⟨_, rfl⟩
  rw [← hT] at hblk hown hgw
  have hci : CI w base g b T c A lim cs [] cs wl := by
    refine ⟨?_, ?_, ?_, ?_, hblk, ⟨wordsOf cs, hown, rfl, rfl⟩, hal.map, ⟨.map [], 0, ?_, fun x => rfl, fun x y z h => (by cases h), rfl, Nat.le_refl _⟩, Turn.of_below hbl, H.out.glt, H.out.blt, fun k hk => (H.out.wlt k (by rw [← hgw]; exact hk)).2, rfl⟩
    · rw [hwl]; exact ((((Blk.new w _ _).alloc _).alloc _).alloc _).alloc _
    · rw [hwl]; have := Blk.new ((w.alloc (Obj.cells #[Value.pointer (some ⟨g, 0, none⟩)] 25)).alloc (Obj.map #[] 0)) 45 #[Value.map (some (w.heap.size + 1))]; simp at this; exact (this.alloc _).alloc _
    · rw [hwl]; have := Blk.new (((w.alloc (Obj.cells #[Value.pointer (some ⟨g, 0, none⟩)] 25)).alloc (Obj.map #[] 0)).alloc (Obj.cells #[Value.map (some (w.heap.size + 1))] 45)) 3 #[Value.int IntKind.i64 0]; simp at this; exact this.alloc _
    · rw [hwl]; have := Blk.new ((((w.alloc (Obj.cells #[Value.pointer (some ⟨g, 0, none⟩)] 25)).alloc (Obj.map #[] 0)).alloc (Obj.cells #[Value.map (some (w.heap.size + 1))] 45)).alloc (Obj.cells #[Value.int IntKind.i64 0] 3)) 25 #[Value.pointer (some ⟨g, 0, none⟩)]; simpa using this
    · rw [hwl]; have := World.ownsMap_made (w.alloc (Obj.cells #[Value.pointer (some ⟨g, 0, none⟩)] 25)) Try.prog 3 (plainElem (H := Unit) Try.prog 3); simp at this; exact ((this.alloc _).alloc _).alloc _
  have HAL := Lib.hid hal
  have HCI := Lib.hid hci
  have HSZ := Lib.hid hsz
  have HTT := Lib.hid hT
  have HTB := Lib.hid ht
  have HGW := Lib.hid hgw
  clear hblk hown hal hci hwl hbl hT ht hgw HCC hb0
  have HSEQ := Lib.hid (all_seq_of HAL.out HTB.out (w.heap.size + 4) (by rw [hsz]; omega) (HCI.out.bc.cell 0) 19 (by omega))
  rw [show w.heap.size + 1 + 1 + 1 + 1 = w.heap.size + 4 by omega, show w.heap.size + 1 + 1 + 1 = w.heap.size + 3 by omega, show w.heap.size + 1 + 1 = w.heap.size + 2 by omega]
  refine (wpIn_wide (n := 20)).1 ?_
  refine range_at rfl (enters_of Try.func25 (by kernel_rfl) rfl) HSEQ.out rfl
    (fun k W => ∃ pre post, pre.length = k ∧ CI w base g b T c A lim cs pre post W) (fun _ _ => False) ?hI (fun _ _ _ h _ => h) ⟨[], cs, rfl, HCI.out⟩ ?hgone ?hrd
    (fun k => { tmps := #[.pointer (some ⟨g, 0, none⟩), .pointer (some ⟨w.heap.size, 0, none⟩), .map none, .pointer (some ⟨w.heap.size + 2, 0, none⟩), .pointer (some ⟨w.heap.size + 3, 0, none⟩), .int .i64 (startOf cs k), undef, undef,
        .pointer (some ⟨g, 0, none⟩), .int .i64 (countOf cs : Nat), .map (some (w.heap.size + 1)), .pointer (some ⟨g, 0, none⟩), .func (.func 25) #[] #[.pointer (some ⟨w.heap.size + 4, 0, none⟩)], .int .i64 (startOf cs k), undef, undef, undef, undef, undef, undef, undef, undef, undef, undef, undef, undef, undef, undef, undef, undef, undef, undef, undef, undef, undef, undef, undef, undef, undef, undef, undef, undef, undef, undef, undef, undef, undef, undef, undef, undef, undef, undef, undef, undef, undef, undef, undef, undef, undef, undef, undef], defers := [] }) ?hassign ?hbody ?hhere ?hdone ?hstop
  case hI =>
    rintro k W W' ⟨pre, post, h1, h2⟩ hb
    exact ⟨pre, post, h1, h2.below hb (by have := HSZ.out; omega)⟩
  case hgone =>
    rintro k W ⟨pre, post, rfl, h2⟩ hk ⟨al, ha, hf⟩
    cases post with
    | nil => have := h2.hc; rw [List.append_nil] at this; rw [this] at hk; omega
    | cons cl post =>
      have h3 := h2.next_alive ha
      rw [hf] at h3
      exact ⟨pre ++ [cl], post, by simp, h2.skip h3.symm⟩
  case hrd =>
    rintro k W ⟨pre, post, rfl, h2⟩
    exact ⟨h2.bc.cell 0, _, h2.hasAt⟩
  case hhere =>
    rintro k W W' ⟨al, h1, h2⟩ ⟨pre, post, _, h3⟩ hb
    exact ⟨al, h1.below hb (by have := h3.hg; have := HSZ.out; omega) (by have := h3.hb; have := HSZ.out; omega), h2⟩
  case hassign =>
    intro l k W K hK
    gi_wp2
    exact hK
  case hstop =>
    rintro D cc W _ h _
    exact h.elim
  case hbody =>
    rintro l k W hWs ⟨pre, post, rfl, hci⟩ hk ⟨al, hal, htr⟩
    cases post with
    | nil => have := hci.hc; rw [List.append_nil] at this; rw [this] at hk; omega
    | cons cl post =>
      have HAV := Lib.hid ((hci.next_alive hal).symm.trans htr)
      have hst : startOf cs pre.length = total pre := by rw [hci.hc]; exact startOf_mid pre cl post
      rw [hst]
      obtain ⟨D, n, d1, d2, d3, d4, d5⟩ := hci.mv
      have c2 := hci.bm.cell 0
      have c3 := hci.be.cell 0
      simp at c2 c3
      have hle := total_live_le pre
      have hsl := size_le_total pre post cl
      have ht := HTB.out
      rw [hci.hc] at ht
      obtain ⟨p, hp⟩ : ∃ p, p = total pre := ⟨_, rfl⟩
      obtain ⟨e, he⟩ : ∃ e, e = total (live pre) := ⟨_, rfl⟩
      rw [← hp] at hsl hle ⊢
      rw [← he] at c3 hle
      have hpp : p ≤ 1099511627776 := by omega
      have hnn : n < maxLen := by have h1 := length_le_total pre; unfold maxLen; omega
      have HD := Lib.hid d1
      have HDD := Lib.hid (And.intro d2 (And.intro d3 (And.intro d4 d5)))
      have HC := Lib.hid hci
      have HP := Lib.hid hp
      have HE := Lib.hid he
      have HL := Lib.hid hal
      have HSL := Lib.hid (And.intro hsl ht)
      clear d1 d2 d3 d4 d5 hci hp he hal hst htr hk hsl ht
      gi_wp2_with (gi_at_mapUpdate; refine wpListIn_mapUpdate_own _ rfl _ _ _ 45 rfl 3 3 intLaw Try.underlying45 _ (w.heap.size + 1) n D rfl HD.out hnn _ _ _ rfl rfl (Maps.keyOf_int_mk Try.underlying3 (WalkArith.wf_i64 (by omega))) _ [] (plainElem_int Try.underlying3 (WalkArith.wf_i64 (by omega))) ?_; intro w1 hm1 hg1)
      have hgl : g < w.heap.size := HC.out.hg
      have hb1 := HC.out.ba.grown hg1 (by simp)
      have hbe := HC.out.be.grown hg1 (by simp)
      have hbg := HC.out.bg.grown hg1 (by intro e; injection e with e; omega)
      have b1 := hb1.cell 0
      have b2 := hbe.cell 0
      have b3 := hbg.cell 0
      rw [← HE.out] at b2
      simp at b1 b2 b3
      obtain ⟨ws, r1, r2, r3⟩ := HC.out.row
      have hT : T = total (pre ++ cl :: post) := by rw [HTT.out, HC.out.hc]
      have hpT : p + cl.size ≤ T := by rw [hT]; exact HSL.out.1
      have hTb : T ≤ 1099511627776 := by rw [hT]; exact HSL.out.2
      have hsp := cl.size_pos
      obtain ⟨gg, hA, hgg1, hgg2⟩ := own_addr r1 (by omega)
      have hcap : T ≤ c := by
        obtain ⟨A', c', e9, hc9, _⟩ := own_slice r1
        injection e9 with _ _ e9
        omega
      have hcm : c ≤ 9223372036854775807 := by
        rcases r1.2 with ⟨hv, h0⟩ | ⟨g', cap', cur, hv, hb', hg', hnc, hmx, _⟩
        · omega
        · injection hv with _ _ hC; subst hC; unfold maxLen at hmx; omega
      rw [hA] at b3
      have hce : ¬ c = e := by omega
      have hcp : ¬ c = p := by omega
      have heT : (e : Int) ≤ T := by omega
      obtain ⟨q, hq⟩ : ∃ q, q = p + cl.size := ⟨_, rfl⟩
      have hggw : gg < w.heap.size := HC.out.hw gg (by rw [hA]; rfl)
      obtain ⟨cur, hcs, hcurW, hctk⟩ := own_cur (hA ▸ r1)
      have hcur1 : w1.heap[gg]? = some (.cells cur 3 (0, 0)) := (hg1.block gg (by omega) (by intro e; injection e with e; omega)).trans hcurW
      have HGN : Hid (g ≠ gg) := Lib.hid (by
        rintro rfl
        have := HC.out.bg
        unfold Blk at this
        rw [hcurW] at this
        injection this with this
        injection this with _ this
        exact absurd this (by decide))
      have hwp : ∀ j, j < cl.size → w1.drew.cell? ⟨gg, p + j, none⟩ = some (.int .i64 (cl.words.getD j 0)) := fun j hj => (cell_of_row w1 gg (p + j) cur 3 (0, 0) hcur1).trans (cur_word hctk (by rw [HP.out]; exact r3) hpT j hj)
      have hwl : (cl.words.map (Value.int .i64)).length = cl.size := by rw [List.length_map, Cl.words_length]
      have HWL := Lib.hid hwl
      have HLN : Hid ((cl.words.map (Value.int .i64)).length = Nat.min (q - p) (T - e)) := Lib.hid (by rw [hwl, hq, Nat.add_sub_cancel_left]; exact (Nat.min_eq_left (by omega)).symm)
      have HSRC : Hid (∀ j v, (cl.words.map (Value.int .i64))[j]? = some v → w1.drew.cell? (Addr.add ⟨gg, p, none⟩ j) = some v) := Lib.hid fun j v hv => words_src hwp hv
      have HCUR : Hid (w1.drew.heap[gg]? = some (.cells cur 3 (0, 0))) := Lib.hid hcur1
      have HCURW := Lib.hid hcurW
      clear hwl hcur1 hcurW hctk
      have hcell : w1.drew.cell? ⟨gg, p, none⟩ = some (.int .i64 cl.head) := hwp 0 (by omega)
      clear hwp
      obtain ⟨hd0, hd1⟩ := head_bd cl
      have hlen : cl.lits.length + 3 = cl.size := rfl
      have hhalf := head_half cl
      obtain ⟨hd, hhd⟩ : ∃ hd, hd = cl.head := ⟨_, rfl⟩
      rw [← hhd] at hcell hd0 hd1 hhalf
      have hd3 : hd ≤ 2199023255553 := by omega
      have hd4 : (p : Int) + 3 + hd / 2 = ((p + cl.size : Nat) : Int) := by omega
      have HN := Lib.hid (next_raw (show w1.drew.cell? _ = _ from b3) hcell (by omega) hTb hd0 hd3)
      rw [hd4] at HN
      rw [← hq] at HN hpT
      have hpq : p < q := by omega
      have hes : (e : Int) + cl.size ≤ 1099511627776 := by omega
      have hpq' : p ≤ q := by omega
      have hqc : q ≤ c := by omega
      have hec : e + cl.size ≤ c := by omega
      have HQ := Lib.hid hq
      clear hq
      clear hcell hd0 hd1 hhalf hhd hd3 hd4 hlen
      refine region_round_but (fun w' => w'.cell? ⟨w.heap.size, 0, none⟩ = some (.pointer (some ⟨g, 0, none⟩)) ∧ w'.cell? ⟨w.heap.size + 3, 0, none⟩ = some (.int .i64 e) ∧ w'.cell? ⟨g, 0, none⟩ = some (.slice (some ⟨gg, 0, none⟩) T c)) 18 (by kernel_rfl) (by kernel_rfl) ⟨b1, b2, b3⟩ (fun hHeld => ?_)
      have HM1 := Lib.hid hm1
      have HG1 := Lib.hid hg1
      have HR := Lib.hid (And.intro r1 (And.intro r2 r3))
      have HAA := Lib.hid hA
      have HBS := Lib.hid (And.intro hb1 (And.intro hbe hbg))
      have HTP := Lib.hid hT
      clear hm1 hg1 r1 r2 r3 hA hb1 hbe hbg b1 b2 b3 hT c2 c3
      refine but_take (i := 0) (v := .int .i64 e) rfl (by kernel_rfl) (by kernel_rfl) (by kernel_rfl) (by kernel_rfl) (fun _ _ _ h => h) (Or.inl ⟨by rfl, ?_⟩) (by assumption) ?_
      · (intro w9 hSw; obtain ⟨s1, s2, s3⟩ := hSw; go_simp)
      try simp only [Act.put, List.setIfInBounds_toArray, List.set_cons_zero, List.set_cons_succ]
      refine but_take (i := 1) (v := .pointer (some ⟨g, 0, none⟩)) rfl (by kernel_rfl) (by kernel_rfl) (by kernel_rfl) (by kernel_rfl) (fun _ _ _ h => h) (Or.inl ⟨by rfl, ?_⟩) (by assumption) ?_
      · (intro w9 hSw; obtain ⟨s1, s2, s3⟩ := hSw; go_simp)
      try simp only [Act.put, List.setIfInBounds_toArray, List.set_cons_zero, List.set_cons_succ]
      refine but_take (i := 2) (v := .pointer (some ⟨g, 0, none⟩)) rfl (by kernel_rfl) (by kernel_rfl) (by kernel_rfl) (by kernel_rfl) (fun _ _ _ h => h) (Or.inl ⟨by rfl, ?_⟩) (by assumption) ?_
      · (intro w9 hSw; obtain ⟨s1, s2, s3⟩ := hSw; go_simp)
      try simp only [Act.put, List.setIfInBounds_toArray, List.set_cons_zero, List.set_cons_succ]
      refine but_take (i := 3) (v := .pointer (some ⟨g, 0, none⟩)) rfl (by kernel_rfl) (by kernel_rfl) (by kernel_rfl) (by kernel_rfl) (fun _ _ _ h => h) (Or.inl ⟨by rfl, ?_⟩) (by assumption) ?_
      · (intro w9 hSw; obtain ⟨s1, s2, s3⟩ := hSw; go_simp)
      try simp only [Act.put, List.setIfInBounds_toArray, List.set_cons_zero, List.set_cons_succ]
      refine but_take (i := 4) (v := .slice (some ⟨gg, 0, none⟩) T c) rfl (by kernel_rfl) (by kernel_rfl) (by kernel_rfl) (by kernel_rfl) (fun _ _ _ h => h) (Or.inl ⟨by rfl, ?_⟩) (by assumption) ?_
      · (intro w9 hSw; obtain ⟨s1, s2, s3⟩ := hSw; go_simp)
      try simp only [Act.put, List.setIfInBounds_toArray, List.set_cons_zero, List.set_cons_succ]
      refine but_take (i := 5) (v := .int .i64 e) rfl (by kernel_rfl) (by kernel_rfl) (by kernel_rfl) (by kernel_rfl) (fun _ _ _ h => h) (Or.inl ⟨by rfl, ?_⟩) (by assumption) ?_
      · (intro w9 hSw; obtain ⟨s1, s2, s3⟩ := hSw; go_simp)
      try simp only [Act.put, List.setIfInBounds_toArray, List.set_cons_zero, List.set_cons_succ]
      refine but_take (i := 6) (v := .slice (some ⟨gg, e, none⟩) (T - e) (c - e)) rfl (by kernel_rfl) (by kernel_rfl) (by kernel_rfl) (by kernel_rfl) (fun _ _ _ h => h) (Or.inl ⟨by rfl, ?_⟩) (by assumption) ?_
      · (intro w9 hSw; obtain ⟨s1, s2, s3⟩ := hSw; go_simp)
      try simp only [Act.put, List.setIfInBounds_toArray, List.set_cons_zero, List.set_cons_succ]
      refine but_take (i := 7) (v := .pointer (some ⟨g, 0, none⟩)) rfl (by kernel_rfl) (by kernel_rfl) (by kernel_rfl) (by kernel_rfl) (fun _ _ _ h => h) (Or.inl ⟨by rfl, ?_⟩) (by assumption) ?_
      · (intro w9 hSw; obtain ⟨s1, s2, s3⟩ := hSw; go_simp)
      try simp only [Act.put, List.setIfInBounds_toArray, List.set_cons_zero, List.set_cons_succ]
      refine but_take (i := 8) (v := .pointer (some ⟨g, 0, none⟩)) rfl (by kernel_rfl) (by kernel_rfl) (by kernel_rfl) (by kernel_rfl) (fun _ _ _ h => h) (Or.inl ⟨by rfl, ?_⟩) (by assumption) ?_
      · (intro w9 hSw; obtain ⟨s1, s2, s3⟩ := hSw; go_simp)
      try simp only [Act.put, List.setIfInBounds_toArray, List.set_cons_zero, List.set_cons_succ]
      refine but_take (i := 9) (v := .pointer (some ⟨g, 0, none⟩)) rfl (by kernel_rfl) (by kernel_rfl) (by kernel_rfl) (by kernel_rfl) (fun _ _ _ h => h) (Or.inl ⟨by rfl, ?_⟩) (by assumption) ?_
      · (intro w9 hSw; obtain ⟨s1, s2, s3⟩ := hSw; go_simp)
      try simp only [Act.put, List.setIfInBounds_toArray, List.set_cons_zero, List.set_cons_succ]
      refine but_take (i := 10) (v := .slice (some ⟨gg, 0, none⟩) T c) rfl (by kernel_rfl) (by kernel_rfl) (by kernel_rfl) (by kernel_rfl) (fun _ _ _ h => h) (Or.inl ⟨by rfl, ?_⟩) (by assumption) ?_
      · (intro w9 hSw; obtain ⟨s1, s2, s3⟩ := hSw; go_simp)
      try simp only [Act.put, List.setIfInBounds_toArray, List.set_cons_zero, List.set_cons_succ]
      refine but_take (i := 11) (v := .int .i64 p) rfl (by kernel_rfl) (by kernel_rfl) (by kernel_rfl) (by kernel_rfl) (fun _ _ _ h => h) (Or.inl ⟨by rfl, ?_⟩) (by assumption) ?_
      · (intro w9 hSw; obtain ⟨s1, s2, s3⟩ := hSw; go_simp)
      try simp only [Act.put, List.setIfInBounds_toArray, List.set_cons_zero, List.set_cons_succ]
      refine but_take (i := 12) (v := .pointer (some ⟨g, 0, none⟩)) rfl (by kernel_rfl) (by kernel_rfl) (by kernel_rfl) (by kernel_rfl) (fun _ _ _ h => h) (Or.inl ⟨by rfl, ?_⟩) (by assumption) ?_
      · (intro w9 hSw; obtain ⟨s1, s2, s3⟩ := hSw; go_simp)
      try simp only [Act.put, List.setIfInBounds_toArray, List.set_cons_zero, List.set_cons_succ]
      refine but_take (i := 13) (v := .int .i64 p) rfl (by kernel_rfl) (by kernel_rfl) (by kernel_rfl) (by kernel_rfl) (fun _ _ _ h => h) (Or.inl ⟨by rfl, ?_⟩) (by assumption) ?_
      · (intro w9 hSw; obtain ⟨s1, s2, s3⟩ := hSw; go_simp)
      try simp only [Act.put, List.setIfInBounds_toArray, List.set_cons_zero, List.set_cons_succ]
      -- the call
      refine but_one (i := 14) (by kernel_rfl) rfl (fun K hK => ?_)
      have HK := Lib.hid hK
      clear hK
      go_simp
      refine HN.out.mono ?_
      rintro e1 w2 ⟨rfl, rfl⟩
      refine HK.out.out _ _ (fun _ => hHeld) ?_
      clear HK HN
      try simp only [Act.put, List.setIfInBounds_toArray, List.set_cons_zero, List.set_cons_succ]
      refine but_take (i := 15) (v := .slice (some ⟨gg, p, none⟩) (q - p) (c - p)) rfl (by kernel_rfl) (by kernel_rfl) (by kernel_rfl) (by kernel_rfl) (fun _ _ _ h => h) (Or.inl ⟨by rfl, ?_⟩) (by assumption) ?_
      · (intro w9 hSw; obtain ⟨s1, s2, s3⟩ := hSw; go_simp)
      try simp only [Act.put, List.setIfInBounds_toArray, List.set_cons_zero, List.set_cons_succ]
      refine but_one (i := 16) (by kernel_rfl) rfl (fun K hK => ?_)
      have HK := Lib.hid hK
      clear hK
      refine step_copy_here rfl (.tmp 23) (.tmp 32) 31 31 rfl 3 Try.underlying31 (by kernel_rfl) gg e ⟨gg, p, none⟩ (T - e) (c - e) (q - p) (c - p) rfl rfl cur 3 HCUR.out (cl.words.map (Value.int .i64)) HLN.out HSRC.out (by rw [HWL.out]; omega) (by intro v hv; obtain ⟨x, _, rfl⟩ := List.mem_map.1 hv; rfl) ?_
      intro w2 hg2 hrs
      have B1 := hrs.blk HBS.out.1.drew_ (by omega)
      have B2 := hrs.blk HBS.out.2.1.drew_ (by omega)
      have B3 := hrs.blk HBS.out.2.2.drew_ HGN.out
      rw [HWL.out]
      have c1 := B1.cell 0
      have c2 := B2.cell 0
      have c3 := B3.cell 0
      have f2 := B2.frozen 0
      rw [← HE.out] at c2
      rw [HAA.out] at c3
      simp at c1 c2 c3
      have hHeld2 : (fun w' : World => w'.cell? ⟨w.heap.size, 0, none⟩ = some (.pointer (some ⟨g, 0, none⟩)) ∧ w'.cell? ⟨w.heap.size + 3, 0, none⟩ = some (.int .i64 e) ∧ w'.cell? ⟨g, 0, none⟩ = some (.slice (some ⟨gg, 0, none⟩) T c)) w2 := ⟨c1, c2, c3⟩
      refine HK.out.out _ _ (fun _ => hHeld2) ?_
      clear HK hHeld
      have HG2 := Lib.hid hg2
      have HRS := Lib.hid hrs
      have HB2 := Lib.hid B2
      clear hg2 hrs B1 B2 B3
      try simp only [Act.put, List.setIfInBounds_toArray, List.set_cons_zero, List.set_cons_succ]
      refine but_take (i := 17) (v := .int .i64 ((e : Int) + cl.size)) rfl (by kernel_rfl) (by kernel_rfl) (by kernel_rfl) (by kernel_rfl) (fun _ _ _ h => h) (Or.inl ⟨by rfl, ?_⟩) (by assumption) ?_
      · (intro w9 hSw; obtain ⟨s1, s2, s3⟩ := hSw; go_simp; exact IntWalk.i64_in _ (by omega))
      try simp only [Act.put, List.setIfInBounds_toArray, List.set_cons_zero, List.set_cons_succ]
      refine but_one (i := 18) (by kernel_rfl) rfl (fun K hK => ?_)
      have HK := Lib.hid hK
      clear hK
      go_simp
      refine HK.out.out _ _ (fun h => absurd rfl h) ?_
      clear HK
      refine but_done (by kernel_rfl) ?_ _
      have hA := HAA.out
      have hE := HE.out
      subst hA hE
      have hP := HP.out
      subst hP
      obtain ⟨k1, k2⟩ := HC.out.round HAV.out HTT.out HD.out HDD.out HM1.out HG1.out HRS.out HCURW.out HG2.out.out HB2.out
      rw [← HSZ.out] at k1
      exact (show KeptUp wl.heap.size W _ ∧ ∃ pre1 post1 : List Cl, pre1.length = pre.length + 1 ∧ CI w base g b T c _ lim cs pre1 post1 _ from ⟨k1, _, _, by simp, k2⟩)
  case hdone =>
    rintro D W hD ⟨pre, post, hl, hci⟩ hdf
    cases post with
    | cons cl post =>
      have := hci.hc
      rw [this] at hl
      simp at hl
    | nil =>
      have hpre : pre = cs := by have := hci.hc; rw [List.append_nil] at this; exact this.symm
      subst hpre
      clear hl
      have HC := Lib.hid hci
      have HDF := Lib.hid hdf
      have b1 := hci.ba.cell 0
      have b3 := hci.bg.cell 0
      have b2 := hci.be.cell 0
      have b4 := hci.bm.cell 0
      have f3 := hci.bg.frozen 0
      simp at b1 b2 b3 b4
      have hle := total_live_le pre
      have ht := HTB.out
      obtain ⟨e, he⟩ : ∃ e, e = total (live pre) := ⟨_, rfl⟩
      rw [← he] at b2 hle
      have HE := Lib.hid he
      clear hci hdf he
      have heT : e ≤ T := by rw [HTT.out]; exact hle
      obtain ⟨hcT, hcm, hAA⟩ := slice_ends HC.out.row
      have hec : e ≤ c := by omega
      have heci : (e : Int) ≤ c := by omega
      go_wp2_with fail
      obtain ⟨k1, k2, k3⟩ := HC.out.cut HTT.out (by rw [← HSZ.out]; exact hD) HDF.out
      rw [← HE.out] at k1 k2 k3
      have K1 := Lib.hid k1.drew_
      have K2 := Lib.hid (show Moved ((W.setCell ⟨g, 0, none⟩ (.slice A e c)).drew) (w.heap.size + 1) pre from k2)
      have K3 := Lib.hid (show There ((W.setCell ⟨g, 0, none⟩ (.slice A e c)).drew) b pre from k3)
      clear k1 k2 k3
      have HBB := Lib.hid (And.intro H.out.hg H.out.hb)
      have HGE := Lib.hid (show (Value.slice A e c).ownBlock = gw from (by cases A <;> rfl : (Value.slice A e c).ownBlock = (Value.slice A T c).ownBlock).trans HGW.out)
      clear HCI HC HGW HAL H hD HDF
      rcases hAA with ⟨rfl, hc0⟩ | ⟨gg, rfl⟩
      · have HC0 := Lib.hid hc0
        clear hc0
        go_region
        generalize (W.setCell ⟨g, 0, none⟩ _).drew = X at K1 K2 K3 ⊢
        clear b1 b2 b3 b4 f3 heT hcT hcm hec heci hle
        obtain ⟨es, clock, hes⟩ := K3.out.clear
        obtain ⟨X1, hrun, hheap, hgr⟩ := run_clear_map (ty := 0) Try.underlying51 hes
        obtain ⟨DM, n, hm, m2, m3, m4, m5⟩ := K2.out.data
        have hbl := K1.out.hb
        have hm1 := owns_grown hm hgr (by intro e; injection e with e; omega)
        have k1 := K1.out.grown (.inl rfl) (by have := K1.out.hD; omega) hgr
        have x1 := K1.out.ba.cell 0
        have x3 := K1.out.bg.cell 2
        have y1 := k1.ba.cell 0
        have y2 := k1.bm.cell 0
        simp at x1 x3 y1 y2
        have K4 := Lib.hid k1
        have HM1 := Lib.hid hm1
        have HMM := Lib.hid (And.intro m2 (And.intro m3 m4))
        have HF0 := Lib.hid (owns_none hheap)
        have HMN := Lib.hid m5
        clear k1 hm1 hm m2 m3 m4 m5 hes hheap hgr K2 K3
        go_wp2_with (at_range; refine wpList_range_own _ rfl _ 45 rfl 3 3 intLaw Try.underlying45 _ (w.heap.size + 1) n DM rfl HM1.out ?_; intro X2 hrg hg2 hs2)
        have hx1 := K4.out.tn.size
        have hdl : D < X1.heap.size := (Array.getElem?_eq_some_iff.1 K4.out.df).1
        have hd5 := K4.out.hD
        obtain ⟨r, hr⟩ : ∃ r, r = X1.heap.size := ⟨_, rfl⟩
        rw [← hr] at hrg hdl
        have hg2b := hg2.but (some r)
        have k5 := K4.out.grown (.inr (show w.heap.size + 5 ≤ r by omega)) (by omega) hg2b
        have hf5 := (Filled.start HF0.out HMM.out.1 HMM.out.2.2).grown hg2b (by intro e; injection e with e; omega)
        have HRG := Lib.hid hrg
        have K5 := Lib.hid k5
        have HF5 := Lib.hid hf5
        have HR := Lib.hid hr
        have HRD := Lib.hid (And.intro (show w.heap.size + 5 ≤ r by omega) (show r ≠ D by omega))
        rw [← hr]
        clear k5 hf5 hrg hg2 hg2b hs2 hx1 hdl hd5 x1 x3 y1 y2 hrun hr
        go_frame
        go_loopw [7] (fun v wr => ∃ (left : Lit → Bool) (cnt : Nat), wr.ranges Try.prog 3 (plainElem (H := Unit) Try.prog 3) (w.heap.size + 1) r n DM left cnt ∧ CE w base g b e c none lim pre D wr ∧ Filled wr b pre left cnt ∧ (∀ kl, left kl = true → Maps.has DM kl = true))
          (fun v wr => wr.rangeLeft (w.heap.size + 1) r)
        case atStart => exact ⟨_, _, HRG.out, K5.out, HF5.out, fun _ h => h⟩
        case round =>
          obtain ⟨left, cnt, hrg, hce, hfl, hlf⟩ := hrel
          have HRG2 := Lib.hid hrg
          have HCE := Lib.hid hce
          have HFL := Lib.hid hfl
          have HLF := Lib.hid hlf
          have q2 := hce.bm.cell 0
          simp at q2
          clear hrg hce hfl hlf
          go_wp2_with (at_next; refine wpList_next_ranges_ii _ rfl _ rfl 3 3 .i64 .i64 intLaw Try.underlying3 Try.underlying3 (w.heap.size + 1) r n _ _ _ rfl HRG2.out ?_ ?_)
          · intro hc0 hl0
            subst hc0
            go_wp2_with fail
            refine ⟨by simp, .inl ⟨_, _, rfl, run_takeDeferred HCE.out.df, ?_⟩⟩
            have hE := HE.out
            subst hE
            obtain ⟨f1, f2, f3⟩ := HCE.out.fin (X' := wr.putObj D (.deferred none)) (HFL.out.done hl0) HGE.out HBB.out.1 HBB.out.2 HRG2.out.owns HMM.out HMN.out ⟨rfl, rfl, rfl, by simp, fun k hk => World.putObj_heap_other hk⟩
            exact ⟨_, results_tmp rfl _ _ _, _, rfl, f1, f2, f3, by omega⟩
          · intro x c2 w1 cnt1 hwx hwc hlx hat hrg1 hlt hg1 hs1 hen
            obtain ⟨DE, nE, hmE, hhE, hnE⟩ := HFL.out.grown hg1 (by intro e; injection e with e; have := HRD.out.1; omega)
            have hce1 := HCE.out.grown (.inr HRD.out.1) HRD.out.2 hg1
            have hmk := moved_key HMM.out.1 HMM.out.2.1 (HLF.out _ hlx) hat
            have hnn : nE < maxLen := by have h1 := length_le_total pre; have h2 := countOf_le pre; have h3 := HTB.out; unfold maxLen; omega
            have z1 := hce1.ba.cell 0
            have z3 := hce1.bg.cell 2
            simp at z1 z3
            have HME := Lib.hid hmE
            have HHE := Lib.hid hhE
            have HRG3 := Lib.hid hrg1
            have HCE1 := Lib.hid hce1
            have HMK := Lib.hid hmk
            have HLX := Lib.hid hlx
            clear hmE hhE hrg1 hce1 hmk hlx hat hg1 hs1
            go_wp2_with (at_mapUpdate; refine wpList_mapUpdate_own _ rfl _ _ _ 51 rfl 3 54 intLaw Try.underlying51 _ b nE DE rfl HME.out hnn _ _ _ rfl rfl (Maps.keyOf_int_mk Try.underlying3 hwc) _ [] unitElem_mk ?_; intro w2 hm2 hgr2)
            go_frame
            go_roundw
            case rel =>
              refine ⟨_, cnt1, HRG3.out.kept hgr2 (by intro e; injection e with e; omega) (by intro e; injection e with e; have := HRD.out.1; omega), HCE1.out.grown (.inl rfl) (by have := HCE1.out.hD; omega) hgr2, Filled.more HHE.out hnE HME.out.isMap HLX.out HMK.out hlt hm2, fun kl hk => HLF.out kl ?_⟩
              have hk : (left kl && !kl.sameKey (.int .i64 x)) = true := hk
              exact (Bool.and_eq_true_iff.1 hk).1
            case measure =>
              rw [(HRG3.out.kept hgr2 (by intro e; injection e with e; omega) (by intro e; injection e with e; have := HRD.out.1; omega)).left_eq, HRG2.out.left_eq]
              exact hlt
      · go_region
        generalize (W.setCell ⟨g, 0, none⟩ _).drew = X at K1 K2 K3 ⊢
        clear b1 b2 b3 b4 f3 heT hcT hcm hec heci hle
        obtain ⟨es, clock, hes⟩ := K3.out.clear
        obtain ⟨X1, hrun, hheap, hgr⟩ := run_clear_map (ty := 0) Try.underlying51 hes
        obtain ⟨DM, n, hm, m2, m3, m4, m5⟩ := K2.out.data
        have hbl := K1.out.hb
        have hm1 := owns_grown hm hgr (by intro e; injection e with e; omega)
        have k1 := K1.out.grown (.inl rfl) (by have := K1.out.hD; omega) hgr
        have x1 := K1.out.ba.cell 0
        have x3 := K1.out.bg.cell 2
        have y1 := k1.ba.cell 0
        have y2 := k1.bm.cell 0
        simp at x1 x3 y1 y2
        have K4 := Lib.hid k1
        have HM1 := Lib.hid hm1
        have HMM := Lib.hid (And.intro m2 (And.intro m3 m4))
        have HF0 := Lib.hid (owns_none hheap)
        have HMN := Lib.hid m5
        clear k1 hm1 hm m2 m3 m4 m5 hes hheap hgr K2 K3
        go_wp2_with (at_range; refine wpList_range_own _ rfl _ 45 rfl 3 3 intLaw Try.underlying45 _ (w.heap.size + 1) n DM rfl HM1.out ?_; intro X2 hrg hg2 hs2)
        have hx1 := K4.out.tn.size
        have hdl : D < X1.heap.size := (Array.getElem?_eq_some_iff.1 K4.out.df).1
        have hd5 := K4.out.hD
        obtain ⟨r, hr⟩ : ∃ r, r = X1.heap.size := ⟨_, rfl⟩
        rw [← hr] at hrg hdl
        have hg2b := hg2.but (some r)
        have k5 := K4.out.grown (.inr (show w.heap.size + 5 ≤ r by omega)) (by omega) hg2b
        have hf5 := (Filled.start HF0.out HMM.out.1 HMM.out.2.2).grown hg2b (by intro e; injection e with e; omega)
        have HRG := Lib.hid hrg
        have K5 := Lib.hid k5
        have HF5 := Lib.hid hf5
        have HR := Lib.hid hr
        have HRD := Lib.hid (And.intro (show w.heap.size + 5 ≤ r by omega) (show r ≠ D by omega))
        rw [← hr]
        clear k5 hf5 hrg hg2 hg2b hs2 hx1 hdl hd5 x1 x3 y1 y2 hrun hr
        go_frame
        go_loopw [7] (fun v wr => ∃ (left : Lit → Bool) (cnt : Nat), wr.ranges Try.prog 3 (plainElem (H := Unit) Try.prog 3) (w.heap.size + 1) r n DM left cnt ∧ CE w base g b e c (some ⟨gg, 0, none⟩) lim pre D wr ∧ Filled wr b pre left cnt ∧ (∀ kl, left kl = true → Maps.has DM kl = true))
          (fun v wr => wr.rangeLeft (w.heap.size + 1) r)
        case atStart => exact ⟨_, _, HRG.out, K5.out, HF5.out, fun _ h => h⟩
        case round =>
          obtain ⟨left, cnt, hrg, hce, hfl, hlf⟩ := hrel
          have HRG2 := Lib.hid hrg
          have HCE := Lib.hid hce
          have HFL := Lib.hid hfl
          have HLF := Lib.hid hlf
          have q2 := hce.bm.cell 0
          simp at q2
          clear hrg hce hfl hlf
          go_wp2_with (at_next; refine wpList_next_ranges_ii _ rfl _ rfl 3 3 .i64 .i64 intLaw Try.underlying3 Try.underlying3 (w.heap.size + 1) r n _ _ _ rfl HRG2.out ?_ ?_)
          · intro hc0 hl0
            subst hc0
            go_wp2_with fail
            refine ⟨by simp, .inl ⟨_, _, rfl, run_takeDeferred HCE.out.df, ?_⟩⟩
            have hE := HE.out
            subst hE
            obtain ⟨f1, f2, f3⟩ := HCE.out.fin (X' := wr.putObj D (.deferred none)) (HFL.out.done hl0) HGE.out HBB.out.1 HBB.out.2 HRG2.out.owns HMM.out HMN.out ⟨rfl, rfl, rfl, by simp, fun k hk => World.putObj_heap_other hk⟩
            exact ⟨_, results_tmp rfl _ _ _, _, rfl, f1, f2, f3, by omega⟩
          · intro x c2 w1 cnt1 hwx hwc hlx hat hrg1 hlt hg1 hs1 hen
            obtain ⟨DE, nE, hmE, hhE, hnE⟩ := HFL.out.grown hg1 (by intro e; injection e with e; have := HRD.out.1; omega)
            have hce1 := HCE.out.grown (.inr HRD.out.1) HRD.out.2 hg1
            have hmk := moved_key HMM.out.1 HMM.out.2.1 (HLF.out _ hlx) hat
            have hnn : nE < maxLen := by have h1 := length_le_total pre; have h2 := countOf_le pre; have h3 := HTB.out; unfold maxLen; omega
            have z1 := hce1.ba.cell 0
            have z3 := hce1.bg.cell 2
            simp at z1 z3
            have HME := Lib.hid hmE
            have HHE := Lib.hid hhE
            have HRG3 := Lib.hid hrg1
            have HCE1 := Lib.hid hce1
            have HMK := Lib.hid hmk
            have HLX := Lib.hid hlx
            clear hmE hhE hrg1 hce1 hmk hlx hat hg1 hs1
            go_wp2_with (at_mapUpdate; refine wpList_mapUpdate_own _ rfl _ _ _ 51 rfl 3 54 intLaw Try.underlying51 _ b nE DE rfl HME.out hnn _ _ _ rfl rfl (Maps.keyOf_int_mk Try.underlying3 hwc) _ [] unitElem_mk ?_; intro w2 hm2 hgr2)
            go_frame
            go_roundw
            case rel =>
              refine ⟨_, cnt1, HRG3.out.kept hgr2 (by intro e; injection e with e; omega) (by intro e; injection e with e; have := HRD.out.1; omega), HCE1.out.grown (.inl rfl) (by have := HCE1.out.hD; omega) hgr2, Filled.more HHE.out hnE HME.out.isMap HLX.out HMK.out hlt hm2, fun kl hk => HLF.out kl ?_⟩
              have hk : (left kl && !kl.sameKey (.int .i64 x)) = true := hk
              exact (Bool.and_eq_true_iff.1 hk).1
            case measure =>
              rw [(HRG3.out.kept hgr2 (by intro e; injection e with e; omega) (by intro e; injection e with e; have := HRD.out.1; omega)).left_eq, HRG2.out.left_eq]
              exact hlt
end Go.Proofs.Ytnjcegjcaaplgaa
