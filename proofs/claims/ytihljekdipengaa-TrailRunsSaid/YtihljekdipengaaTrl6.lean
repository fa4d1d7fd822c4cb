/- Back. -/
import Derived.Test.YtihljekdipengaaTrl5
import Derived.Deep.DeepCutAuto
import Derived.Deep.CutBlock
import Derived.Deep.CutRange
import Derived.Deep.RegionLaw
namespace Go.Proofs.Ytihljekdipengaa
open Go.RowKit
set_option linter.unusedVariables false
set_option linter.unusedSimpArgs false

theorem sz12 (w : World) : (sizeOf 3).run Try.prog w = .ok 1 w := by
  have h := infoI12
  rcases hi : Try.prog.info? 3 with _ | i
  · rw [hi] at h; simp at h
  · rw [hi] at h
    simp at h
    simp [sizeOf, typeInfo, hi, h.2.1]
theorem Vals.pop {w : World} {V n k : Nat} {rs : List Rec} {r : Rec} (h : Vals w V n (rs ++ [r])) (hk : k < n) (hr : r.l.natAbs = k + 1) (hu : find rs r.l = none) : Vals (w.setCell ⟨V, k, none⟩ (.int .i8 0)) V n rs := by
  obtain ⟨cs, h1, h2, h3⟩ := h
  refine ⟨cs.setIfInBounds k (.int .i8 0), h1.set_ k _, by simpa using h2, fun j hj => ?_⟩
  by_cases e : j = k
  · subst e
    rw [Array.getElem?_setIfInBounds_self, if_pos (by omega), valT_none.2]
    rw [find_abs (m := r.l) (by omega)]
    exact hu
  · rw [Array.getElem?_setIfInBounds_ne (Ne.symm e), h3 j hj, valT_snoc_other (by omega)]

/-- blocks of other types stay, whatever one block becomes -/
theorem Tn.one {ts : List TypeId} {base P : Nat} {w w' w'' : World} (h : Tn ts base P w w') {q : Nat} {ty : TypeId} {X : Array Value} (hq : Blk w' q ty X) (ht : ty ∈ ts) (hb : base ≤ q) (hB : base ≤ w'.heap.size) (hg : w'.grownBy w'' (some q)) : Tn ts base P w w'' := by
  refine h.trans ⟨(Below.refl base w').grown hg hB (fun k hk => by injection hk with hk; omega), fun q' o hq' h1 h2 => ?_⟩
  refine (hg.block q' (Array.getElem?_eq_some_iff.1 hq').1 fun e => ?_).trans hq'
  injection e with e
  subst e
  unfold Blk at hq
  rw [hq] at hq'
  injection hq' with hq'
  exact h2 _ _ _ hq'.symm ht

/-- what Back leaves -/
theorem TrM.cut {w w5 wr : World} {base g P V S K s q c p d : Nat} {t : TS} (hgood : t.Good) (hK : t.starts[K]? = some s) (b1 : Blk w5 g 55 #[.slice (some ⟨q, 0, none⟩) t.recs.length c, .slice (some ⟨p, 0, none⟩) t.starts.length d, .slice (some ⟨V, 0, none⟩) t.ph.length t.ph.length, .slice (some ⟨S, 0, none⟩) t.ph.length t.ph.length, .slice (some ⟨P, 0, none⟩) t.ph.length t.ph.length])
    (b2 : w5.ownsRow base 3 1 (.slice (some ⟨q, 0, none⟩) t.recs.length c) t.recs.length (litsV t.recs)) (b3 : w5.ownsRow base 3 1 (.slice (some ⟨p, 0, none⟩) t.starts.length d) t.starts.length (startsV t.starts))
    (hne : q ≠ p) (cv : Array Value) (b4 : Blk w5 V 59 cv) (b5 : Spots w5 S t.ph.length t.recs) (b6 : BlkB w5 P 4 t.ph) (hV : base ≤ V) (hS : base ≤ S) (hP : base ≤ P) (hg : base ≤ g) (hB : base ≤ w5.heap.size)
    (hv : Vals wr V t.ph.length (t.recs.take s)) (hgr : w5.grownBy wr (some V)) (ht : Tn [59, 55] base P w w5) :
    TrM ((wr.setCell ⟨g, 0, none⟩ (.slice (some ⟨q, 0, none⟩) s c)).setCell ⟨g, 1, none⟩ (.slice (some ⟨p, 0, none⟩) K d)) base g P ⟨t.recs.take s, t.starts.take K, t.ph⟩ ∧ Tn [59, 55] base P w ((wr.setCell ⟨g, 0, none⟩ (.slice (some ⟨q, 0, none⟩) s c)).setCell ⟨g, 1, none⟩ (.slice (some ⟨p, 0, none⟩) K d)) := by
  have hs := hgood.start s (List.mem_of_getElem? hK)
  have hKl := (List.getElem?_eq_some_iff.1 hK).1
  have hKe : (t.starts.take K).length = K := by rw [List.length_take]; omega
  have hse : (t.recs.take s).length = s := by rw [List.length_take]; omega
  have n1 : g ≠ V := b1.ne_ b4 (by decide)
  have r1 := b1.grown hgr (by simpa using n1)
  have r2 := b2.kept hgr (.inr (Ne.symm (own_blk_ne b2 b4 (by decide))))
  have r3 := b3.kept hgr (.inr (Ne.symm (own_blk_ne b3 b4 (by decide))))
  obtain ⟨cs, s1, s2, s3⟩ := b5
  have r5 := s1.grown hgr (by simpa using s1.ne_ b4 (by decide))
  have r6 : Blk wr P 4 (boolCells t.ph) := Blk.grown b6 hgr (by simpa using Blk.ne_ b6 b4 (by decide))
  have x1 := r1.set_ 0 (.slice (some ⟨q, 0, none⟩) s c)
  have x2 := own_setCell r2 (p := ⟨g, 0, none⟩) (.slice (some ⟨q, 0, none⟩) s c) (own_blk_ne r2 r1 (by decide))
  have x3 := own_setCell r3 (p := ⟨g, 0, none⟩) (.slice (some ⟨q, 0, none⟩) s c) (own_blk_ne r3 r1 (by decide))
  have K2 : ∀ {q' : Nat} {ty : TypeId} {X : Array Value}, Blk wr q' ty X → ty ≠ 55 → Blk ((wr.setCell ⟨g, 0, none⟩ (.slice (some ⟨q, 0, none⟩) s c)).setCell ⟨g, 1, none⟩ (.slice (some ⟨p, 0, none⟩) K d)) q' ty X := fun hq hne => (hq.far (hq.ne_ r1 hne) _).far (hq.ne_ r1 hne) _
  have y2 := own_take (own_setCell x2 (p := ⟨g, 1, none⟩) (.slice (some ⟨p, 0, none⟩) K d) (own_blk_ne x2 x1 (by decide))) (Nat.le_of_lt hs) (by simp)
  have y3 := own_take (own_setCell x3 (p := ⟨g, 1, none⟩) (.slice (some ⟨p, 0, none⟩) K d) (own_blk_ne x3 x1 (by decide))) (Nat.le_of_lt hKl) (by simp)
  refine ⟨⟨⟨V, S, some ⟨q, 0, none⟩, some ⟨p, 0, none⟩, c, d, ?_, ?_, ?_, ?_, hv.keep fun X hX => K2 hX (by decide), ⟨cs, K2 r5 (by decide), s2, fun i r hr => ?_⟩, hV, hS⟩, K2 r6 (by decide), hg, hP⟩, ?_⟩
  · have := x1.set_ 1 (.slice (some ⟨p, 0, none⟩) K d)
    rw [hse, hKe]
    simpa using this
  · rw [hse]
    unfold litsV at y2 ⊢
    rw [List.map_take]
    exact y2
  · rw [hKe]
    unfold startsV at y3 ⊢
    rw [List.map_take]
    exact y3
  · intro x h1 h2
    simp [Value.ownBlock] at h1 h2
    omega
  · have hi : i < s := by
      have := (List.getElem?_eq_some_iff.1 hr).1
      simp at this
      omega
    rw [List.getElem?_take, if_pos hi] at hr
    exact s3 i r hr
  · exact ((ht.one b4 (by simp) hV hB hgr).set r1 (.inl (by simp)) hg _ _).set x1 (.inl (by simp)) hg _ _

set_option maxHeartbeats 4000000 in
theorem back_any {w : World} {base g P : Nat} {t : TS} (h : Tr w base g P t) (hB : base ≤ w.heap.size) (lv : Int) :
    Calls Try.prog 12 #[.pointer (some ⟨g, 0, none⟩), .int .i64 lv] w fun e w' => ∃ A' c', e = .returned (.slice A' (t.gone lv).length c') ∧ w'.ownsRow w.heap.size 3 1 (.slice A' (t.gone lv).length c') (t.gone lv).length ((t.gone lv).map (Value.int .i64)) ∧
      Tr w' base g P (t.back lv) ∧ Tn [59, 55] base P w w' := by
  obtain ⟨V, S, A, D, c, d, b1, b2, b3, b4, hvals, hspots, b8, b9⟩ := h.ex
  obtain ⟨K, hK⟩ : ∃ K : Nat, lv.toNat = K := ⟨_, rfl⟩
  have c0 := b1.cell 0
  have c1 := b1.cell 1
  simp at c0 c1
  rcases hs : t.starts[K]? with _ | s
  · have e1 : t.gone lv = [] := by unfold TS.gone; rw [hK, hs]
    have e2 : t.back lv = t := by unfold TS.back; rw [hK, hs]
    rw [e1, e2]
    have hge : (t.starts.length : Int) ≤ (K : Int) := by have := List.getElem?_eq_none_iff.1 hs; omega
    have H := Lib.hid h
    clear h b1 b2 b3 b4 hvals hspots hs e1 e2
    go_enter Try.func12, Try.ntmps12
    go_upto_region 1 with fail
    go_cut [1] (fun v wx => v = .int .i64 (K : Int) ∧ wx = w)
    case first =>
      by_cases hp : 0 < lv
      · have HX := Lib.hid (show lv = (K : Int) by omega)
        go_wp2_with fail
        go_meet
        exact ⟨by rw [HX.out], rfl⟩
      · have HX := Lib.hid (show (0 : Int) = (K : Int) by omega)
        go_wp2_with fail
        go_meet
        exact ⟨by rw [← HX.out], rfl⟩
    case rest =>
      obtain ⟨rfl, rfl⟩ := hcut
      go_wp2
      go_ret
      exact ⟨none, 0, rfl, World.ownsRow_nil _ _ _ _, H.out, Tn.refl _⟩
  · obtain ⟨hKl, hKe⟩ := List.getElem?_eq_some_iff.1 hs
    have hsm := h.good.start s (List.mem_of_getElem? hs)
    obtain ⟨q, rfl, -, -⟩ := own_addr b2 (by omega)
    obtain ⟨p, rfl, -, -⟩ := own_addr b3 (by omega)
    have hqp : q ≠ p := fun e => b4 q rfl (by rw [e]; rfl)
    have hmc : t.recs.length ≤ c := by
      obtain ⟨A', c', hvq, hqc, -⟩ := own_slice b2
      injection hvq with _ _ e; omega
    have hsd : t.starts.length ≤ d := by
      obtain ⟨A', c', hvq, hqc, -⟩ := own_slice b3
      injection hvq with _ _ e; omega
    have k0 := World.ownsRow.cellAt b3 K (by omega)
    have e0 : (startsV t.starts)[K]? = some (.int .i64 (s : Nat)) := by simp [startsV, hs]
    rw [e0] at k0
    have hf := h.good.few
    have hml := h.good.len
    obtain ⟨cv, v1, v2, v3⟩ := id hvals
    have c2 := v1
    have e1 : t.gone lv = ((t.recs.drop s).map Rec.l).reverse := by unfold TS.gone; rw [hK, hs]
    have e2 : t.back lv = ⟨t.recs.take s, t.starts.take K, t.ph⟩ := by unfold TS.back; rw [hK, hs]
    have hgd := h.good.back lv
    rw [e2] at hgd
    rw [e1, e2]
    have hlen : ((t.recs.drop s).map Rec.l).length = t.recs.length - s := by simp
    obtain ⟨m, hm⟩ : ∃ m, t.recs.length = m := ⟨_, rfl⟩
    obtain ⟨xs, hxs⟩ : ∃ xs, (t.recs.drop s).map Rec.l = xs := ⟨_, rfl⟩
    rw [hxs] at hlen
    have hsl : ∀ w, (Instr.slice 36 (.slice (some ⟨q, 0, none⟩) m c) (some (.int .i64 s)) none none).run Try.prog w = .ok (.slice (some ⟨q, s, none⟩) (m - s) (c - s)) w := fun w => by
      have := run_back12 (P := Try.prog) Try.underlying36 w (sz12 w) q 0 m c s (by omega) (by omega)
      rw [if_neg (by omega), Nat.zero_add] at this
      exact this
    have hsl2 : ∀ w, (Instr.sliceAt 36 (.slice (some ⟨q, 0, none⟩) m c) (some (.int .i64 s)) none none).run Try.prog w = .ok (.slice (some ⟨q, s, none⟩) (m - s) (c - s)) w := fun w => (run_sliceAt_slice (P := Try.prog) w _ _ _ _ _ (by kernel_rfl)).trans (hsl w)
    have hcl : Cells w w.heap.size (some ⟨q, s, none⟩) (m - s) fun j => .int .i64 (xs.getD j 0) := fun hn => by
      refine ⟨q, s, rfl, (b2.lt q rfl).2, fun j hj => ?_⟩
      rw [World.ownsRow.cellAt b2 (s + j) (by omega), ← hxs]
      simp [litsV, List.getD, show s + j < t.recs.length by omega]
    have HCL := Lib.hid (fun w' (hc : Cells w' w.heap.size (some ⟨q, s, none⟩) (m - s) fun j => .int .i64 (xs.getD j 0)) (hB : w.heap.size ≤ w'.heap.size) => clone_int (m - s) _ w.heap.size (some ⟨q, s, none⟩) (c - s) w' (by omega) (fun _ _ => rfl) hc hB)
    have HC := Lib.hid hcl
    have H := Lib.hid h
    have HG := Lib.hid hgd
    have HB1 := Lib.hid b1
    have HB2 := Lib.hid b2
    have HB3 := Lib.hid b3
    have HVL := Lib.hid hvals
    have HSP := Lib.hid hspots
    have HV1 := Lib.hid v1
    have HV2 := Lib.hid v2
    have HVS := Lib.hid (And.intro b8 b9)
    have HS := Lib.hid hs
    have HM := Lib.hid hm
    have HX := Lib.hid hxs
    have HL := Lib.hid hlen
    rw [hm] at c0 hsm hmc hml
    have hge : (K : Int) < (t.starts.length : Int) := by omega
    clear h b1 b2 b3 hvals hspots v1 v2 v3 c2 hs e0 e1 e2 hgd hm hxs hcl hKe b8 b9 hlen hsl
    go_enter Try.func12, Try.ntmps12
    go_upto_region 1 with fail
    go_cut [1] (fun v wx => v = .int .i64 (K : Int) ∧ wx = w)
    case first =>
      by_cases hp : 0 < lv
      · have HX := Lib.hid (show lv = (K : Int) by omega)
        go_wp2_with fail
        go_meet
        exact ⟨by rw [HX.out], rfl⟩
      · have HX := Lib.hid (show (0 : Int) = (K : Int) by omega)
        go_wp2_with fail
        go_meet
        exact ⟨by rw [← HX.out], rfl⟩
    case rest =>
      obtain ⟨rfl, rfl⟩ := hcut
      go_wp2_with fail
      refine (HCL.out _ HC.out (Nat.le_refl _)).mono ?_
      rintro e w5 ⟨A5, c5, rfl, ho5, hb5⟩
      rw [ints_map (by rw [HL.out, HM.out])] at ho5
      obtain ⟨L, rfl, hL1, hL2⟩ := own_addr ho5 (by omega)
      have HO5 := Lib.hid ho5
      have HB5 := Lib.hid hb5
      clear ho5 hb5
      go_wp2_with fail
      refine (rev_at (by rw [HL.out, HM.out]) HO5.out (by omega)).mono ?_
      rintro e w6 ⟨rfl, ho6, hg6⟩
      have hs5 := HB5.out.size
      have hb6 : Below wc.heap.size wc w6 := HB5.out.grown hg6 hs5 (fun k hk => by injection hk with hk; omega)
      have HO6 := Lib.hid ho6
      have HB6 := Lib.hid hb6
      have C1 := HB1.out.below hb6 HB1.out.lt
      have CV := HV1.out.below hb6 HV1.out.lt
      have HC1 := Lib.hid C1
      have HCV := Lib.hid CV
      have HVL6 := Lib.hid (HVL.out.keep (w' := w6) fun X hX => hX.below hb6 hX.lt)
      have x0 := C1.cell 0
      have x1 := C1.cell 1
      have x2 := C1.cell 2
      simp at x0 x1 x2
      clear ho6 hg6 hb6 c0 c1 k0 C1 CV
      go_wp2_with fail
      go_loopg [36] (m - s + 1) (fun gk i wr => ∃ j : Nat, j ≤ m - s ∧ gk = m - s - j + 1 ∧ i = .int .i64 j ∧ Hid (Vals wr V t.ph.length (t.recs.take (m - j))) ∧ Hid (w6.grownBy wr (some V)))
      case atStart => exact ⟨0, by omega, by omega, rfl, Lib.hid (by rw [List.take_of_length_le (by have := HM.out; omega)]; exact HVL6.out), Lib.hid (World.grownBy.refl _ _)⟩
      case round =>
        obtain ⟨j, hj, rfl, rfl, HVJ, HGJ⟩ := hrel
        have n1 : g ≠ V := HC1.out.ne_ HCV.out (by decide)
        have D1 := HC1.out.grown HGJ.out (by simpa using n1)
        have y0 := D1.cell 0
        have y1 := D1.cell 1
        have y2 := D1.cell 2
        have z0 := D1.frozen 0
        have z1 := D1.frozen 1
        simp at y0 y1 y2
        clear x0 x1 x2
        by_cases hlt : j < m - s
        · have OJ := HO6.out.kept HGJ.out (.inr (Ne.symm (own_blk_ne HO6.out HCV.out (by decide))))
          have q1 := World.ownsRow.cellAt OJ j (by omega)
          obtain ⟨r, hr⟩ : ∃ r, t.recs[m - 1 - j]? = some r := ⟨_, List.getElem?_eq_getElem (by have := HM.out; omega)⟩
          have er : (xs.reverse.map (Value.int .i64))[j]? = some (.int .i64 r.l) := by
            have hxl : xs.length = m - s := by rw [HL.out, HM.out]
            rw [List.getElem?_map, List.getElem?_reverse (by omega), ← HX.out, List.getElem?_map, List.getElem?_drop, show s + (((t.recs.drop s).map Rec.l).length - 1 - j) = m - 1 - j by rw [HX.out]; omega, hr]
            rfl
          rw [er] at q1
          have hlit := H.out.good.lit r (List.mem_of_getElem? hr)
          obtain ⟨k, hk⟩ : ∃ k : Nat, litVar r.l = (k : Int) + 1 := ⟨r.l.natAbs - 1, by unfold litVar; split <;> omega⟩
          have hk2 : r.l.natAbs = k + 1 := by unfold litVar at hk; split at hk <;> omega
          have HV := Lib.hid (fun w => hk ▸ var_any r.l w (by omega) (by omega))
          have hkn : (k : Int) < (t.ph.length : Int) := by omega
          have etk : t.recs.take (m - j) = t.recs.take (m - (j + 1)) ++ [r] := by
            rw [show m - j = m - 1 - j + 1 by omega, List.take_add_one, hr, show m - (j + 1) = m - 1 - j by omega]
            rfl
          have hun : find (t.recs.take (m - (j + 1))) r.l = none := by
            have hu : Uniq (t.recs.take (m - (j + 1)) ++ [r]) := by rw [← etk]; exact H.out.good.uniq.sublist (List.take_sublist _ _)
            refine find_none.2 fun x hx ho => ?_
            rw [Rec.of_abs] at ho
            exact (List.pairwise_append.1 hu).2.2 x hx r (by simp) ho
          have HVJ2 := HVJ.out
          rw [etk] at HVJ2
          have HP := Lib.hid (HVJ2.pop (by omega) hk2 hun)
          have hcv : ∃ z, wr.cell? ⟨V, k, none⟩ = some z := by
            obtain ⟨cs, h1, h2, h3⟩ := HVJ2
            exact ⟨_, (h1.cell k).trans (h3 k (by omega))⟩
          obtain ⟨z, hz⟩ := hcv
          have hfz : wr.frozen? ⟨V, k, none⟩ = false := by
            obtain ⟨cs, h1, h2, h3⟩ := HVJ2
            exact h1.frozen k
          obtain ⟨x, hx⟩ : ∃ x, r.l = x := ⟨_, rfl⟩
          rw [hx] at q1 HV
          have hwk : IntKind.i64.wrap (k : Int) = (k : Int) := i64_ok (by omega)
          have HGN := Lib.hid (grown_trans HGJ.out (grown_setCell wr ⟨V, k, none⟩ (.int .i8 0)))
          clear er hr hlit hk hk2 etk hun HVJ2 hx OJ D1
          go_wp2_with fail
          go_region_law (first | (go_simp; go_at_call 33; refine (HV.out _).mono ?_; rintro e3 w3 ⟨rfl, rfl⟩))
          all_goals
            go_wp2_with fail
            go_roundg (m - s - j)
            case measure => omega
            case rel => exact ⟨j + 1, by omega, by omega, by go_num, Lib.hid (HP.out.keep fun X hX => hX), Lib.hid (grown_drew12 HGN.out)⟩
        · obtain rfl : j = m - s := by omega
          go_wp2_with fail
          go_ret
          have hss : m - (m - s) = s := by omega
          have hV2 := HVJ.out
          rw [hss] at hV2
          have hgl := HB1.out.lt
          obtain ⟨k1, k2⟩ := TrM.cut H.out.good HS.out HC1.out (own_below HB2.out HB6.out fun k hk => (HB2.out.lt k hk).2) (own_below HB3.out HB6.out fun k hk => (HB3.out.lt k hk).2) hqp cv HCV.out
            (HSP.out.keep fun X hX => hX.below HB6.out hX.lt) (show BlkB w6 P _ _ from Blk.below H.out.phs HB6.out (Blk.lt H.out.phs)) HVS.out.1 HVS.out.2 H.out.hP H.out.hg (Nat.le_trans hB HB6.out.size) hV2 HGJ.out (Tn.of_below HB6.out hB)
          have hxl : xs.reverse.length = m - s := by rw [List.length_reverse, HL.out, HM.out]
          have o1 := HO6.out.kept HGJ.out (.inr (Ne.symm (own_blk_ne HO6.out HCV.out (by decide))))
          have D1 := HC1.out.grown HGJ.out (by simpa using n1)
          have o2 := own_setCell o1 (p := ⟨g, 0, none⟩) (.slice (some ⟨q, 0, none⟩) s c) (own_blk_ne o1 D1 (by decide))
          have D2 := D1.set_ 0 (.slice (some ⟨q, 0, none⟩) s c)
          have o3 := own_setCell o2 (p := ⟨g, 1, none⟩) (.slice (some ⟨p, 0, none⟩) K d) (own_blk_ne o2 D2 (by decide))
          rw [HX.out, hxl]
          exact ⟨_, _, rfl, o3, ⟨k1, HG.out⟩, k2⟩
end Go.Proofs.Ytihljekdipengaa
