/- What the law's begin does. -/
import Derived.Test.YtbejjddkndcldaaBeg13
namespace Go.Proofs.Ytbejjddkndcldaa
open Go.RowKit Go.Maps
set_option linter.unusedVariables false
set_option linter.unusedSimpArgs false

/-- what begin answers -/
structure Begun (w w' : World) (N : Nat) (yss : List (List Int)) (vs : List Value) (gX ML : Nat) (px : Px) (G : Nat → Prop) (s : WS) (hd : Nat → Value) : Prop where
  blk : Blk w' gX 41 #[.pointer (some ⟨px.gA, 0, none⟩), .pointer (some ⟨px.gT, 0, none⟩), .pointer (some ⟨px.gW, 0, none⟩), .map (some ML)]
  ob : Ob w' (w.heap.size + 1) px N G (csOf yss) (TS.fresh N) s hd
  pi : PI N (csOf yss) (csOf yss) (TS.fresh N) s
  vis : s.vis = 0
  frl : s.fresh.length ≤ yss.length
  map : w'.ownsMap Try.prog 3 held13 ML yss.length (dOf yss vs yss.length)
  rows : ∀ j, j < yss.length → ∃ Aj cj, vs.getD j undef = .slice Aj (yss.getD j []).length cj ∧ Ints w' w'.heap.size Aj (yss.getD j [])
  nG : ∀ q, G q → q ≠ gX ∧ q ≠ ML
  hX : w.heap.size < gX
  hM : w.heap.size < ML
  ne : gX ≠ ML
  below : Below w.heap.size w w'
/-- in the midst of begin's loop -/
structure Lp (w wf wr : World) (N gX ML lo hi : Nat) (yss : List (List Int)) (vs : List Value) (k : Nat) : Prop where
  ex : ∃ (px : Px) (G : Nat → Prop) (s : WS) (hd : Nat → Value), Blk wr gX 41 #[.pointer (some ⟨px.gA, 0, none⟩), .pointer (some ⟨px.gT, 0, none⟩), .pointer (some ⟨px.gW, 0, none⟩), .map (some ML)] ∧ Ob wr (w.heap.size + 1) px N G (csOf (yss.take k)) (TS.fresh N) s hd ∧
    PI N (csOf (yss.take k)) (csOf (yss.take k)) (TS.fresh N) s ∧ s.vis = 0 ∧ s.fresh.length ≤ k ∧ ∀ q, G q → q ≠ gX ∧ q ≠ ML ∧ (q < lo ∨ hi ≤ q)
  map : wr.ownsMap Try.prog 3 held13 ML k (dOf yss vs k)
  rows : ∀ q, lo ≤ q → q < hi → wr.heap[q]? = wf.heap[q]?
  hh : hi ≤ wr.heap.size
  below : Below w.heap.size w wr

theorem size_al (p : World) (o : Obj) : (p.alloc o).heap.size = p.heap.size + 1 := by simp
theorem size_dr (p : World) : p.drew.heap.size = p.heap.size := rfl
theorem ints_of_blocks {w w' : World} {A : Option Addr} {c lo : Nat} {xs : List Int} (h : w.ownsRow lo 3 1 (.slice A xs.length c) xs.length (xs.map (Value.int .i64))) (hk : ∀ q, lo ≤ q → q < w.heap.size → w'.heap[q]? = w.heap[q]?) (hs : w.heap.size ≤ w'.heap.size) : Ints w' w'.heap.size A xs := by
  have h2 : w'.ownsRow lo 3 1 (.slice A xs.length c) xs.length (xs.map (Value.int .i64)) := owns_stay h fun q o hq hqo => (hk q (h.lt q hq).1 (h.lt q hq).2).trans hqo
  exact ints_of_own h2

set_option maxRecDepth 100000 in
set_option maxHeartbeats 4000000 in
theorem begin_any {w : World} (N : Nat) (hN : N ≤ 1000) (xss : List (List Int)) (hL : LightForm N xss) (B : Nat) (A : Option Addr) (c : Nat) (hr : Rows w B A xss) (hB : B ≤ w.heap.size) :
    Calls Try.prog 13 #[.agg #[.int .i64 (N : Nat), .slice A xss.length c]] w fun e w' => ∃ gX ML px G s hd vs, e = .returned (.pointer (some ⟨gX, 0, none⟩)) ∧ Begun w w' N (normForm xss) vs gX ML px G s hd := by
  obtain ⟨k, hk⟩ : ∃ k, xss.length = k := ⟨_, rfl⟩
  obtain ⟨wb, hwb⟩ : ∃ wb, wb = w.alloc (Obj.cells #[.int .i64 (N : Nat), .slice A k c] 30) := ⟨_, rfl⟩
  have bF : Blk wb w.heap.size 30 #[.int .i64 (N : Nat), .slice A k c] := by rw [hwb]; exact Blk.new w _ _
  have hbw : Below w.heap.size w wb := by rw [hwb]; exact below_al _ _
  have hbs : wb.heap.size = w.heap.size + 1 := by rw [hwb]; simp
  have x0 := bF.cell 0
  simp at x0
  have hbl := bF.lt
  have CA := Lib.hid (fun p => new_any 0 p.heap.size p (Nat.le_refl _))
  have CT := Lib.hid (fun p => trail_new N (by omega) p)
  have HWB := Lib.hid hwb
  have HBF := Lib.hid bF
  have HBW := Lib.hid (And.intro hbw hbs)
  have HR := Lib.hid hr
  have HL := Lib.hid hL
  have HKK := Lib.hid hk
  rw [hk]
  clear hwb bF hbw hbs hr hL hk
  have hmm := @run_makeMap Try.prog
  go_enter Try.func13, Try.ntmps13
  go_upto_region 1 with fail
  rw [← HWB.out]
  have hsel : Sel w.heap.size (.int .i64 (N : Nat)) wb := ⟨hbl, x0⟩
  go_cut [3] (fun v wx => ∃ gX gA bA gT P ML FT, v = .pointer (some ⟨gX, 0, none⟩) ∧ Hid (Beg1 wb wx N gX gA bA gT P ML FT))
  case first =>
    go_region_held3 (fun w' => w.heap.size < w'.heap.size ∧ w'.cell? ⟨w.heap.size, 0, none⟩ = some (.int .i64 (N : Nat))) (first | exact hsel | exact Sel.below (by assumption) HA.out.2 | exact Sel.below (by assumption) HT.out.2 | exact Sel.alloc (by assumption) _ | exact Sel.drew (Sel.alloc (by assumption) _)) (first
      | (go_at_call 40; refine (CA.out _).mono ?_; rintro e wA ⟨gA, bA, rfl, hA, hbA⟩; have HA := Lib.hid (show BornA _ wA gA bA from ⟨hA, hbA⟩); clear hA hbA)
      | (go_at_call 41; refine (CT.out _).mono ?_; rintro e wT ⟨gT, P, rfl, hT, hbT⟩; have HT := Lib.hid (show BornT _ wT gT P N from ⟨hT, hbT⟩); clear hT hbT))
    all_goals
      go_wp2_with fail
      go_meet
      have hA := HA.out
      have hT := HT.out
      have s1 := hA.2.size
      have s2 := hT.2.size
      first
        | (obtain ⟨gX, a, b', g, p, ml, F, e1, e2, e3, e4, hb⟩ := beg1 hA hT (below_dr wb) (Below.tr (below_dr wb) hA.2) (Below.tr (Below.tr (below_dr wb) hA.2) hT.2) (Below.tr hT.2 (below_al _ (.map #[] 0))) (below_al _ (.map #[] 0)) (Below.refl _ _) (.inl (by first | omega | (simp only [size_al, size_dr] at s1 s2 ⊢ <;> omega) | (simp only [size_al, size_dr] at s1 s2 ⊢))) (.inl (by first | omega | (simp only [size_al, size_dr] at s1 s2 ⊢ <;> omega) | (simp only [size_al, size_dr] at s1 s2 ⊢))) (.inl (by first | omega | (simp only [size_al, size_dr] at s1 s2 ⊢ <;> omega) | (simp only [size_al, size_dr] at s1 s2 ⊢))); exact ⟨gX, a, b', g, p, ml, F, (by rw [e1] <;> simp), hb⟩)
        | (obtain ⟨gX, a, b', g, p, ml, F, e1, e2, e3, e4, hb⟩ := beg1 hA hT (below_dr wb) (Below.tr (Below.tr (below_dr wb) hA.2) (below_al _ (.map #[] 0))) (Below.tr (below_dr wb) hA.2) (Below.tr (below_al _ (.map #[] 0)) hT.2) (Below.refl _ _) hT.2 (.inl (by first | omega | (simp only [size_al, size_dr] at s1 s2 ⊢ <;> omega) | (simp only [size_al, size_dr] at s1 s2 ⊢))) (.inl (by first | omega | (simp only [size_al, size_dr] at s1 s2 ⊢ <;> omega) | (simp only [size_al, size_dr] at s1 s2 ⊢))) (.inr (by first | omega | (simp only [size_al, size_dr] at s1 s2 ⊢ <;> omega) | (simp only [size_al, size_dr] at s1 s2 ⊢))); exact ⟨gX, a, b', g, p, ml, F, (by rw [e1] <;> simp), hb⟩)
        | (obtain ⟨gX, a, b', g, p, ml, F, e1, e2, e3, e4, hb⟩ := beg1 hA hT (Below.tr (below_dr wb) hT.2) (below_dr wb) (Below.tr (Below.tr (below_dr wb) hT.2) hA.2) (below_al _ (.map #[] 0)) (Below.tr hA.2 (below_al _ (.map #[] 0))) (Below.refl _ _) (.inr (by first | omega | (simp only [size_al, size_dr] at s1 s2 ⊢ <;> omega) | (simp only [size_al, size_dr] at s1 s2 ⊢))) (.inl (by first | omega | (simp only [size_al, size_dr] at s1 s2 ⊢ <;> omega) | (simp only [size_al, size_dr] at s1 s2 ⊢))) (.inl (by first | omega | (simp only [size_al, size_dr] at s1 s2 ⊢ <;> omega) | (simp only [size_al, size_dr] at s1 s2 ⊢))); exact ⟨gX, a, b', g, p, ml, F, (by rw [e1] <;> simp), hb⟩)
        | (obtain ⟨gX, a, b', g, p, ml, F, e1, e2, e3, e4, hb⟩ := beg1 hA hT (Below.tr (Below.tr (below_dr wb) hT.2) (below_al _ (.map #[] 0))) (below_dr wb) (Below.tr (below_dr wb) hT.2) (Below.refl _ _) (Below.tr (below_al _ (.map #[] 0)) hA.2) hA.2 (.inr (by first | omega | (simp only [size_al, size_dr] at s1 s2 ⊢ <;> omega) | (simp only [size_al, size_dr] at s1 s2 ⊢))) (.inr (by first | omega | (simp only [size_al, size_dr] at s1 s2 ⊢ <;> omega) | (simp only [size_al, size_dr] at s1 s2 ⊢))) (.inl (by first | omega | (simp only [size_al, size_dr] at s1 s2 ⊢ <;> omega) | (simp only [size_al, size_dr] at s1 s2 ⊢))); exact ⟨gX, a, b', g, p, ml, F, (by rw [e1] <;> simp), hb⟩)
        | (obtain ⟨gX, a, b', g, p, ml, F, e1, e2, e3, e4, hb⟩ := beg1 hA hT (Below.tr (below_dr wb) (below_al _ (.map #[] 0))) (Below.tr (Below.tr (below_dr wb) (below_al _ (.map #[] 0))) hA.2) (below_dr wb) hT.2 (Below.refl _ _) (Below.tr hA.2 hT.2) (.inl (by first | omega | (simp only [size_al, size_dr] at s1 s2 ⊢ <;> omega) | (simp only [size_al, size_dr] at s1 s2 ⊢))) (.inr (by first | omega | (simp only [size_al, size_dr] at s1 s2 ⊢ <;> omega) | (simp only [size_al, size_dr] at s1 s2 ⊢))) (.inr (by first | omega | (simp only [size_al, size_dr] at s1 s2 ⊢ <;> omega) | (simp only [size_al, size_dr] at s1 s2 ⊢))); exact ⟨gX, a, b', g, p, ml, F, (by rw [e1] <;> simp), hb⟩)
        | (obtain ⟨gX, a, b', g, p, ml, F, e1, e2, e3, e4, hb⟩ := beg1 hA hT (Below.tr (Below.tr (below_dr wb) (below_al _ (.map #[] 0))) hT.2) (Below.tr (below_dr wb) (below_al _ (.map #[] 0))) (below_dr wb) (Below.refl _ _) hA.2 (Below.tr hT.2 hA.2) (.inr (by first | omega | (simp only [size_al, size_dr] at s1 s2 ⊢ <;> omega) | (simp only [size_al, size_dr] at s1 s2 ⊢))) (.inr (by first | omega | (simp only [size_al, size_dr] at s1 s2 ⊢ <;> omega) | (simp only [size_al, size_dr] at s1 s2 ⊢))) (.inr (by first | omega | (simp only [size_al, size_dr] at s1 s2 ⊢ <;> omega) | (simp only [size_al, size_dr] at s1 s2 ⊢))); exact ⟨gX, a, b', g, p, ml, F, (by rw [e1] <;> simp), hb⟩)
  case rest =>
    obtain ⟨gX, gA, bA, gT, P, ML, FT, rfl, HB1⟩ := hcut
    obtain ⟨w1, rfl⟩ : ∃ w1, w1 = wc := ⟨_, rfl⟩
    have b1 := HB1.out
    have hbs := HBW.out.2
    have HF1 := Lib.hid (HBF.out.below b1.below hbl)
    have x1 := HF1.out.cell 0
    simp at x1
    have y0 := b1.blk.cell 0
    have y1 := b1.blk.cell 1
    simp at y0 y1
    have hgl := b1.blk.lt
    have hfl := HF1.out.lt
    have CW := Lib.hid (wnew_any (w := w1.drew) (base := wb.heap.size) (N := N) b1.below.size (b1.ar.stay fun _ _ _ h => h) (b1.tr.drewE ⟨1, rfl⟩) b1.dj (fun q hq => (b1.ft q hq).2.2) (by omega))
    have HB2 := Lib.hid (fun w2 (hb : Below w1.drew.heap.size w1.drew w2) => b1.blk.below (below_undrew hb) b1.blk.lt)
    clear b1 hsel x0 CA CT hmm
    go_wp2_with fail
    go_region_law (first | (go_simp; go_at_call 42; refine CW.out.mono ?_; rintro e w2 ⟨gW, L, G, rfl, hob, hb2, hG⟩; have k2 := (HB2.out w2 hb2).cell 2; have kf := (HB2.out w2 hb2).frozen 2; simp at k2; have H2 := Lib.hid (And.intro hob (And.intro hb2 hG)); clear hob hb2 hG))
    all_goals
      obtain ⟨hob, hb2, hG⟩ := H2.out
      have b1 := HB1.out
      have hb2' := below_undrew hb2
      have hGX : ∀ q, G q → q ≠ gX ∧ q ≠ ML ∧ w.heap.size < q := fun q hq => by
        rcases hG q hq with e | e | e
        · have := b1.fa q e; have := (b1.ar.flt q e).1; omega
        · have := b1.ft q e; omega
        · have e' : w1.heap.size ≤ q := e
          have := b1.blk.lt
          have : ML < w1.heap.size := b1.map.lt
          have := b1.below.size
          omega
      obtain ⟨w3, hw3⟩ : ∃ w3, w2.setCell ⟨gX, 2, none⟩ (.pointer (some ⟨gW, 0, none⟩)) = w3 := ⟨_, rfl⟩
      have hbk2 := HB2.out w2 hb2
      have hob3 : Ob w3 wb.heap.size ⟨gA, bA, none, gT, P, gW, L⟩ N G [] (TS.fresh N) WS.zero hd0 := by rw [← hw3]; exact hob.far (fun e => (hGX gX e).1 rfl) _ _
      have hbk3 : Blk w3 gX 41 #[.pointer (some ⟨gA, 0, none⟩), .pointer (some ⟨gT, 0, none⟩), .pointer (some ⟨gW, 0, none⟩), .map (some ML)] := by
        rw [← hw3]
        have := hbk2.set_ 2 (.pointer (some ⟨gW, 0, none⟩))
        simpa using this
      have hm3 : w3.ownsMap Try.prog 3 held13 ML 0 (.map []) := by
        have hm2 : w2.ownsMap Try.prog 3 held13 ML 0 (.map []) := b1.map.kept (grown_of_below hb2' none) (by simp)
        rw [← hw3]
        exact hm2.setCell (a := ⟨gX, 2, none⟩) (fun e => b1.ne e.symm) _
      have hbw3 : Below w.heap.size w w3 := by
        rw [← hw3]
        exact (Below.tr (Below.tr HBW.out.1 b1.below) hb2').setCell (p := ⟨gX, 2, none⟩) (by have := b1.hX; show w.heap.size ≤ gX; omega) _
      have hbF3 : Blk w3 w.heap.size 30 #[.int .i64 (N : Nat), .slice A k c] := by
        rw [← hw3]
        exact (HF1.out.below hb2' hfl).far (by have := b1.hX; show w.heap.size ≠ gX; omega) _
      have hs3 : w2.heap.size = w3.heap.size := by rw [← hw3]; simp [World.setCell]
      have HX := Lib.hid (show w.heap.size < gX ∧ w.heap.size < ML ∧ gX ≠ ML ∧ gX < w3.heap.size ∧ ML < w3.heap.size by
        have h1 := b1.hX
        have h2 := b1.hM
        have h3 := hbk3.lt
        have h4 := hm3.lt
        exact ⟨by omega, by omega, b1.ne, h3, h4⟩)
      have HG := Lib.hid hGX
      have H3 := Lib.hid (And.intro hob3 (And.intro hbk3 (And.intro hm3 (And.intro hbw3 hbF3))))
      have hbF2 := HF1.out.below hb2' hfl
      have f0 := hbF2.cell 0
      have f1 := hbF2.cell 1
      simp at f0 f1
      have HW3 := Lib.hid hw3
      have CN := Lib.hid (formula_norm_any (N : Nat) xss B A c w3 (by have := HL.out.few; omega) (fun j => HL.out.lit (by omega) j) (HR.out.below (hbw3.mono hB)) (by have := hbw3.size; omega))
      rw [HKK.out] at CN
      clear hob hb2 hG b1 hb2' hGX hbk2 hob3 hbk3 hm3 hbw3 hbF3 hbF2 hs3 hw3 H2 HB1 HB2 HF1 x1 y0 y1 hgl hfl CW
      go_wp2_with fail
      rw [HW3.out]
      refine CN.out.mono ?_
      rintro e wf ⟨A4, c4, vs, rfl, horow, hol, hbf⟩
      obtain ⟨yss, hyss⟩ : ∃ yss, normForm xss = yss := ⟨_, rfl⟩
      rw [hyss] at horow hol ⊢
      obtain ⟨n, hn⟩ : ∃ n, yss.length = n := ⟨_, rfl⟩
      have HLY := Lib.hid (show LightForm N yss from hyss ▸ HL.out.norm)
      have HRI := Lib.hid (show ∀ y ∈ yss, y.Nodup from fun y hy => by
        rw [← hyss] at hy
        obtain ⟨c, _, rfl⟩ := normForm_mem hy
        exact rising_nodup (rising_normOf c))
      have HLP := Lib.hid (show Lp w wf wf N gX ML w3.heap.size wf.heap.size yss vs 0 from by
        obtain ⟨hob3, hbk3, hm3, hbw3, hbF3⟩ := H3.out
        have hX := HX.out
        refine ⟨⟨⟨gA, bA, none, gT, P, gW, L⟩, G, WS.zero, hd0, hbk3.below hbf hbk3.lt, ?_, PI.empty (by omega), rfl, Nat.le_refl _, fun q hq => ?_⟩, hm3.kept (grown_of_below hbf none) (by simp), fun _ _ _ => rfl, Nat.le_refl _, hbw3.trans (hbf.mono hbw3.size)⟩
        · rw [← HBW.out.2]
          exact hob3.below hbf
        · have h1 := HG.out q hq
          have h2 := (hob3.bd q hq).2
          exact ⟨h1.1, h1.2.1, .inl h2⟩)
      rw [hn] at horow ⊢
      have HOL := Lib.hid (And.intro horow hol)
      have HNN := Lib.hid hn
      have HYSS := Lib.hid hyss
      have HX2 := Lib.hid (show gX < w3.heap.size ∧ ML < w3.heap.size ∧ w3.heap.size ≤ wf.heap.size from ⟨HX.out.2.2.2.1, HX.out.2.2.2.2, hbf.size⟩)
      have hn40 : n ≤ 40 := by rw [← hn]; exact HLY.out.few
      clear horow hol hbf hn hyss H3 CN k2 kf f0 f1 HW3
      go_wp2_with fail
      go_loopg [55] (n + 1) (fun gk iv wr => ∃ i : Nat, i ≤ n ∧ gk = n - i + 1 ∧ iv = .int .i64 i ∧ Hid (Lp w wf wr N gX ML w3.heap.size wf.heap.size yss vs i))
      case atStart => exact ⟨0, by omega, by omega, rfl, HLP⟩
      case round =>
        obtain ⟨i, hin, rfl, rfl, HM⟩ := hrel
        by_cases hlt : i < n
        · obtain ⟨px, G2, s, hd, hbk, hob, hpi, hvs, hfr, hnG⟩ := HM.out.ex
          obtain ⟨y, hy⟩ : ∃ y, yss.getD i [] = y := ⟨_, rfl⟩
          have hil : i < yss.length := by have := HNN.out; omega
          have hym : y ∈ yss := by rw [← hy]; simp [List.getD, hil]
          obtain ⟨Ai, ci, hvi, hoi⟩ := HOL.out.2.each i hil
          rw [hy] at hvi hoi
          have htk : yss.take (i + 1) = yss.take i ++ [y] := by
            rw [List.take_add_one, List.getElem?_eq_getElem hil, ← hy]
            simp [List.getD, hil]
          have htot : total (csOf (yss.take i)) ≤ 480 := by
            have h1 := csOf_total HLY.out
            have h2 : csOf yss = csOf (yss.take i) ++ csOf (yss.drop i) := by unfold csOf; rw [← List.map_append, List.take_append_drop]
            rw [h2, total_append] at h1
            omega
          have hyl : y.length ≤ 9 := HLY.out.short y hym
          have hyb : ∀ x ∈ y, x ≠ 0 ∧ x.natAbs ≤ N := fun x hx => by have := HLY.out.lits y hym x hx; omega
          have orow : wr.ownsRow w3.heap.size 32 1 (.slice A4 n c4) n vs := owns_stay HOL.out.1 fun q o hq hqo => (HM.out.rows q (HOL.out.1.lt q hq).1 (HOL.out.1.lt q hq).2).trans hqo
          obtain ⟨q4, rfl, _, hq4⟩ := own_addr orow (by omega)
          have q1 := World.ownsRow.cellAt orow i (by omega)
          rw [hvi] at q1
          have CA := Lib.hid (ob_add hob (by have := HM.out.below.size; have := HX2.out.1; have := HX.out.1; have := hbk.lt; omega) Ai y ci (by omega) (fun w' hf => ints_of_blocks hoi (fun q h1 h2 => (hf.block q (by have := HM.out.hh; omega) (fun e => by have := (hnG q e).2.2; omega)).trans (HM.out.rows q h1 h2)) (Nat.le_trans HM.out.hh hf.size)))
          have y0 := hbk.cell 0
          simp at y0
          have hgl := hbk.lt
          have HS := Lib.hid (And.intro hbk (And.intro hob (And.intro hpi (And.intro hvs (And.intro hfr hnG)))))
          have HY := Lib.hid (And.intro htk (And.intro htot (And.intro hyl (And.intro hyb (HRI.out y hym)))))
          have HV := Lib.hid (And.intro hvi hil)
          have hii : (i : Int) < (n : Int) := by omega
          obtain ⟨T, hT⟩ : ∃ T, total (csOf (yss.take i)) = T := ⟨_, rfl⟩
          obtain ⟨yn, hyn⟩ : ∃ yn, y.length = yn := ⟨_, rfl⟩
          rw [hT, hyn] at CA
          rw [hyn] at q1
          have HT := Lib.hid (And.intro hT hyn)
          have hT480 : T ≤ 480 := by omega
          clear hbk hob hpi hvs hfr hnG hvi hoi htk htot hyl hyb orow hil hym hy hT hyn
          go_wp2_with fail
          refine CA.out.mono ?_
          rintro e w4 ⟨rfl, gw', G4, hob4, hst4⟩
          obtain ⟨hbk, hob, hpi, hvs, hfr, hnG⟩ := HS.out
          obtain ⟨htk, htot, hyl, hyb, hyn⟩ := HY.out
          have hbk4 := hst4.ft.blk hbk (fun e => (hnG gX e).1 rfl)
          have hnG4 : ∀ q, G4 q → q ≠ gX ∧ q ≠ ML ∧ (q < w3.heap.size ∨ wf.heap.size ≤ q) := fun q hq => by
            rcases hst4.nw q hq with e | e
            · exact hnG q e
            · have h1 := HM.out.hh
              have h2 := HX2.out
              exact ⟨by omega, by omega, .inr (by omega)⟩
          have hat : at? (csOf (yss.take i) ++ [clOf y]) (T : Nat) = some (clOf y) := by rw [← HT.out.1, at?_snoc _ _ rfl, if_pos rfl]
          have CT := Lib.hid (attach_any hob4 (by have h1 := HM.out.below.size; have h2 := hst4.size; have h3 := HX2.out.1; have h4 := HX.out.1; have h5 := hbk.lt; omega) (by omega) (by rw [total_snoc]; have : (clOf y).size = y.length + 3 := rfl; omega) (TS.Good.fresh (by omega)) rfl hat hyb (fun j hj => by have := hpi.lst.len hj; omega) (by omega))
          have z2 := hbk4.cell 2
          have z0 := hbk4.cell 0
          simp at z2 z0
          have hgl4 := hbk4.lt
          have H4 := Lib.hid (And.intro hbk4 (And.intro hst4 hnG4))
          clear hbk hob hpi hvs hfr hnG htk htot hyl hyb hyn hob4 hst4 hbk4 hnG4 hat CA q1 y0 hgl
          go_wp2_with fail
          refine CT.out.mono ?_
          rintro e w5 ⟨rfl, G5, hd5, hob5, hst5⟩
          obtain ⟨hbk4, hst4, hnG4⟩ := H4.out
          obtain ⟨hbk, hob, hpi, hvs, hfr, hnG⟩ := HS.out
          obtain ⟨htk, htot, hyl, hyb, hyn⟩ := HY.out
          have hbk5 := hst5.ft.blk hbk4 (fun e => (hnG4 gX e).1 rfl)
          have hm5 : w5.ownsMap Try.prog 3 held13 ML i (dOf yss vs i) := hst5.ft.map (hst4.ft.map HM.out.map fun e => (hnG ML e).2.1 rfl) fun e => (hnG4 ML e).2.1 rfl
          have HM5 := Lib.hid hm5
          have z3 := hbk5.cell 3
          simp at z3
          have hgl5 := hbk5.lt
          have HN := Lib.hid (fun (w6 : World) (hm6 : w6.ownsMap Try.prog 3 held13 ML (i + 1) ((dOf yss vs i).put (.int .i64 (T : Nat)) (.held (.slice Ai yn ci)))) (hg6 : w5.grownBy w6 (some ML)) => (show Lp w wf w6 N gX ML w3.heap.size wf.heap.size yss vs (i + 1) from by
            have hnG5 : ∀ q, G5 q → q ≠ gX ∧ q ≠ ML ∧ (q < w3.heap.size ∨ wf.heap.size ≤ q) := fun q hq => by
              rcases hst5.nw q hq with e | e
              · exact hnG4 q e
              · have h0 := hst4.size
                have h1 := HM.out.hh
                have h2 := HX2.out
                exact ⟨by omega, by omega, .inr (by omega)⟩
            have f45 := hst4.ft.trans hst5.ft hst4.nw
            have f6 : Ft (fun q => q = ML) w5 w6 := (Ft.refl w5).grown hg6 fun q hq _ => by injection hq with hq; exact hq.symm
            have s45 := f45.size
            refine ⟨⟨{ px with gw := gw' }, G5, s.attach (T : Nat) y, hd5, f6.blk hbk5 HX.out.2.2.1, ?_, ?_, ?_, ?_, hnG5⟩, ?_, fun q h1 h2 => ?_, ?_, ?_⟩
            · rw [htk, csOf_snoc]
              exact hob5.apart f6 fun q h1 h2 => (hnG5 q h1).2.1 h2
            · have hp := hpi.attach rfl hyn hyb
              rw [HT.out.1] at hp
              rw [htk, csOf_snoc]
              exact hp
            · rw [(attach_rest s (T : Nat) y).2.2.2]; exact hvs
            · rw [(attach_rest s (T : Nat) y).1]
              split
              · rw [List.length_append, List.length_singleton]; omega
              · omega
            · have e1 : vs.getD i undef = .slice Ai yn ci := by rw [List.getD, HV.out.1, ← HT.out.2]; rfl
              show w6.ownsMap _ _ _ _ _ ((dOf yss vs i).put (.int .i64 (total (csOf (yss.take i)) : Nat)) (.held (vs.getD i undef)))
              rw [e1, HT.out.1]
              exact hm6
            · have k1 := HM.out.hh
              have k2 := HX2.out
              rw [hg6.block q (by omega) (fun e => by injection e with e; omega), f45.block q (by omega) (fun e => by have := (hnG q e).2.2; omega)]
              exact HM.out.rows q h1 h2
            · have k1 := HM.out.hh
              have := hg6.size
              omega
            · refine (HM.out.below.trans (f45.below HM.out.below.size fun q hq => ?_)).grown hg6 ?_ fun q hq => ?_
              · have := (hob.bd q hq).1; omega
              · have := HM.out.below.size; omega
              · injection hq with hq; have := HX.out.2.1; omega))
          clear hbk4 hst4 hnG4 hbk hob hpi hvs hfr hnG htk htot hyl hyb hyn hob5 hst5 hbk5 hm5 CT z2 z0 hgl4
          go_wp2_with (at_mapUpdate; refine wpList_mapUpdate_own _ rfl _ _ _ 39 rfl 3 32 intLaw Try.underlying39 held13 ML i (dOf yss vs i) rfl HM5.out (by unfold maxLen; omega) _ _ _ rfl rfl (Maps.keyOf_int_mk Try.underlying3 (WalkArith.wf_i64 (by omega))) (.held (.slice Ai yn ci)) [] rfl ?_; intro w6 hm6 hg6)
          have HNX := Lib.hid (HN.out w6 hm6 hg6)
          clear hm6 hg6 z3 hgl5 HN
          go_wp2_with fail
          go_roundg (n - i)
          case measure => omega
          case rel => exact ⟨i + 1, by omega, by omega, by go_num, HNX⟩
        · obtain rfl : i = n := by omega
          go_wp2
          go_ret
          obtain ⟨px, G2, s, hd, hbk, hob, hpi, hvs, hfr, hnG⟩ := HM.out.ex
          have e : yss.take i = yss := List.take_of_length_le (by have := HNN.out; omega)
          rw [e] at hob hpi
          rw [HYSS.out]
          refine ⟨gX, ML, px, G2, s, hd, vs, rfl, ⟨hbk, hob, hpi, hvs, by rw [HNN.out]; exact hfr, by rw [HNN.out]; exact HM.out.map, fun j hj => ?_, fun q hq => ⟨(hnG q hq).1, (hnG q hq).2.1⟩, HX.out.1, HX.out.2.1, HX.out.2.2.1, HM.out.below⟩⟩
          obtain ⟨Aj, cj, h1, h2⟩ := HOL.out.2.each j hj
          exact ⟨Aj, cj, by rw [List.getD, h1]; rfl, ints_of_blocks h2 (fun q h3 h4 => HM.out.rows q h3 h4) HM.out.hh⟩
end Go.Proofs.Ytbejjddkndcldaa
