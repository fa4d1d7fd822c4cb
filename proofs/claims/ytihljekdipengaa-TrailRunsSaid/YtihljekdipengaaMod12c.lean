/- The statements' own trail: back to a level. -/
import Derived.Test.YtihljekdipengaaMod12b
namespace Go.Proofs.Ytihljekdipengaa
open Go.RowKit Go.Maps
set_option linter.unusedVariables false
set_option linter.unusedSimpArgs false

theorem sz3_12 (w : World) : (sizeOf 42).run Try.prog w = .ok 3 w := by
  have h := infoT12
  rcases hi : Try.prog.info? 42 with _ | i
  · rw [hi] at h; simp at h
  · rw [hi] at h
    simp at h
    simp [sizeOf, typeInfo, hi, h.2.1]
theorem run_front3 {P : Program} {t e : TypeId} (ht : P.underlying t = some (.slice e)) (w : World) {s : Nat} (hz : (sizeOf e).run P w = .ok s w) (b off n c k : Nat) (hk : k ≤ c) : (Instr.slice t (.slice (some ⟨b, off, none⟩) n c) none (some (.int .i64 k)) none).run P w = .ok (.slice (some ⟨b, off, none⟩) k c) w := by
  have h1 : (0 : Int) ≤ (k : Int) := Int.natCast_nonneg _
  have h2 : (k : Int) ≤ (c : Int) := by omega
  simp [Instr.slice, run_underlying ht, Instr.sliceBounds, go_sem, h1, h2, hz, Result.andThen]
theorem own3_take {w : World} {base e n c k s : Nat} {A : Option Addr} {xs : List Value} (h : w.ownsRow base e s (.slice A n c) n xs) (hk : k ≤ n) (hA : A ≠ none) : w.ownsRow base e s (.slice A k c) k (xs.take (k * s)) := by
  have hl := h.1
  rcases h.2 with ⟨hv, _⟩ | ⟨g', cap', cur, hv, hb', hg', hnc, hmx, hcs, htk⟩
  · injection hv with hv
    exact absurd hv hA
  · injection hv with hv _ hc
    subst hv hc
    have hks : k * s ≤ n * s := Nat.mul_le_mul_right s hk
    refine ⟨?_, .inr ⟨g', c, cur, rfl, hb', hg', by omega, hmx, hcs, ?_⟩⟩
    · rw [List.length_take]; omega
    · rw [← htk, List.take_take, Nat.min_eq_left hks]

theorem own3_own {w : World} {base base' s s' : Nat} {e e' : TypeId} {n n' : Nat} {v v' : Value} {xs xs' : List Value} (h : w.ownsRow base e s v n xs) (h' : w.ownsRow base' e' s' v' n' xs') (hne : e ≠ e') : v.ownBlock = none ∨ v.ownBlock ≠ v'.ownBlock := by
  rcases h.2 with ⟨rfl, _⟩ | ⟨g', cap, cur, rfl, _, hh, _⟩
  · exact .inl rfl
  · right
    intro he
    have he' : v'.ownBlock = some g' := by rw [← he]; rfl
    exact own3_blk h' (show Blk w g' e cur from hh) (Ne.symm hne) he'.symm
theorem Tn.fresh {ts : List TypeId} {base P : Nat} {w w' w'' : World} {row : Option Nat} (h : Tn ts base P w w') (hg : w'.grownBy w'' row) (hr : ∀ g, row = some g → w.heap.size ≤ g) (hB : base ≤ w.heap.size) : Tn ts base P w w'' :=
  ⟨h.low.grown hg (Nat.le_trans hB h.low.size) (fun g hg' => Nat.le_trans hB (hr g hg')), fun q o hq h1 h2 => by
    have hlt := (Array.getElem?_eq_some_iff.1 hq).1
    refine (hg.block q (Nat.lt_of_lt_of_le hlt h.low.size) fun e => ?_).trans (h.keep q o hq h1 h2)
    have := hr q e.symm
    omega⟩
theorem own_slice3 {w : World} {base e n s : Nat} {v : Value} {xs : List Value} (h : w.ownsRow base e s v n xs) : ∃ A c, v = .slice A n c := by
  rcases h.2 with ⟨rfl, rfl⟩ | ⟨g, cap, cur, rfl, _⟩
  · exact ⟨none, 0, rfl⟩
  · exact ⟨_, _, rfl⟩

/-- what was taken away so far, the last one first -/
def goneK (rs : List Rec) (p : Nat) : List Int := ((rs.drop p).map Rec.l).reverse
theorem goneK_step {rs : List Rec} {p : Nat} {r : Rec} (h : rs[p]? = some r) : goneK rs p = goneK rs (p + 1) ++ [r.l] := by
  unfold goneK
  obtain ⟨hp, e⟩ := List.getElem?_eq_some_iff.1 h
  rw [List.drop_eq_getElem_cons hp, e]
  simp
theorem goneK_len (rs : List Rec) (p : Nat) : (goneK rs p).length = rs.length - p := by simp [goneK]

set_option maxHeartbeats 8000000 in
theorem mback_any {w : World} {base q mp kb : Nat} {t : TS} (h : Md w base q mp kb t) (hB : base ≤ w.heap.size) (lv : Int) :
    Calls Try.prog 13 #[.pointer (some ⟨q, 0, none⟩), .int .i64 lv] w fun e w' => ∃ A' c', e = .returned (.slice A' (t.gone lv).length c') ∧ w'.ownsRow w.heap.size 3 1 (.slice A' (t.gone lv).length c') (t.gone lv).length ((t.gone lv).map (Value.int .i64)) ∧
      Md w' base q mp kb (t.back lv) ∧ Tn modT base mp w w' := by
  obtain ⟨A, c, b1, b2⟩ := h.ex
  obtain ⟨k, D, m1, m2, m3⟩ := h.map
  obtain ⟨i0, hi, hz0, hz1, hz2⟩ := info_parts infoI12
  have c1 := b1.cell 1
  simp at c1
  have hgd := h.good
  have hf := hgd.few
  have hml := hgd.len
  have hsl := hgd.starts_len
  obtain ⟨K, hK⟩ : ∃ K, lv.toNat = K := ⟨_, rfl⟩
  obtain ⟨s, hs⟩ : ∃ s, t.upto K = s := ⟨_, rfl⟩
  have hsm : s ≤ t.recs.length := by rw [← hs]; exact TS.upto_le hgd K
  have e1 : t.gone lv = goneK t.recs s := by rw [TS.gone_upto, hK, hs]; rfl
  have e2 : (t.back lv).recs = t.recs.take s := by rw [TS.back_recs, hK, hs]
  have e3 : (t.back lv).starts.length = min K t.starts.length := by rw [TS.back_starts, hK]
  have e4 := TS.back_ph t lv
  have e5 := hgd.back lv
  obtain ⟨t6, ht6⟩ : ∃ t6, t.back lv = t6 := ⟨_, rfl⟩
  rw [ht6] at e2 e3 e4 e5
  rw [e1, ht6]
  obtain ⟨m, hm⟩ : ∃ m, t.recs.length = m := ⟨_, rfl⟩
  obtain ⟨L, hL⟩ : ∃ L, t.starts.length = L := ⟨_, rfl⟩
  obtain ⟨N, hN⟩ : ∃ N, min K L = N := ⟨_, rfl⟩
  have HG := Lib.hid hgd
  have H6 := Lib.hid (And.intro e2 (And.intro e3 (And.intro e4 e5)))
  have HM := Lib.hid hm
  have HLL := Lib.hid hL
  have HN := Lib.hid hN
  have HSU := Lib.hid hs
  have HQ := Lib.hid (And.intro h.hq h.hmp)
  have HKD := Lib.hid hK
  rw [hm] at hml hsm
  rw [hL] at c1
  rw [hm, hL] at hsl
  rw [hm] at b1 b2
  have HB1 := Lib.hid b1
  have HB2 := Lib.hid b2
  have HMAP := Lib.hid (And.intro m1 (And.intro m2 m3))
  have hlen : (goneK t.recs s).length = m - s := by rw [goneK_len, hm]
  rw [hlen]
  clear h b1 b2 m1 m2 m3 e1 e2 e3 e4 e5 ht6 hm hL hN hs hgd hlen
  go_enter Try.func13, Try.ntmps13
  go_upto_region 1 with fail
  go_cut [1] (fun v wx => v = .int .i64 (N : Int) ∧ wx = w)
  case first =>
    by_cases h1 : lv < 0
    · have HX := Lib.hid (show (0 : Int) = (N : Int) by have := HN.out; omega)
      go_wp2_with fail
      all_goals go_meet
      all_goals exact ⟨by rw [← HX.out] <;> (try (congr 1; omega)), rfl⟩
    · by_cases h2 : lv < (L : Int)
      · have HX := Lib.hid (show lv = (N : Int) by have := HN.out; omega)
        go_wp2_with fail
        all_goals go_meet
        all_goals first
          | exact ⟨by rw [HX.out], rfl⟩
          | exact ⟨by rw [← HX.out]; congr 1; omega, rfl⟩
      · have HX := Lib.hid (show (L : Int) = (N : Int) by have := HN.out; omega)
        go_wp2_with fail
        all_goals go_meet
        all_goals first
          | exact ⟨by rw [HX.out], rfl⟩
          | exact ⟨by rw [← HX.out]; congr 1; omega, rfl⟩
  case rest =>
    obtain ⟨rfl, rfl⟩ := hcut
    obtain ⟨w, rfl⟩ : ∃ w : World, w = wc := ⟨_, rfl⟩
    go_wp2_with fail
    go_loopg [5] (m - s + 1) (fun gk ov wr => ∃ (p : Nat) (A' : Option Addr) (c' : Nat), s ≤ p ∧ p ≤ m ∧ gk = p - s + 1 ∧ ov = .slice A' (m - p) c' ∧ Hid (wr.ownsRow w.heap.size 3 1 (.slice A' (m - p) c') (m - p) ((goneK t.recs p).map (Value.int .i64))) ∧
      Hid (Blk wr q 30 #[.int .i64 (t.ph.length : Nat), .int .i64 (t.starts.length : Nat), .slice A p c, .map (some mp)]) ∧ Hid (wr.ownsRow base 42 3 (.slice A p c) p (stepsV (t.recs.take p))) ∧
      Hid (wr.ownsMap Try.prog 3 (plainElem (H := Unit) Try.prog 4) mp k D) ∧ Hid (Tn modT base mp w wr))
    case atStart => exact ⟨m, none, 0, by omega, by omega, by omega, by rw [Nat.sub_self], Lib.hid (by rw [Nat.sub_self, show goneK t.recs m = [] by simp [goneK, HM.out]]; exact World.ownsRow_nil _ _ _ _), HB1, Lib.hid (by rw [List.take_of_length_le (by have := HM.out; omega)]; exact HB2.out), Lib.hid HMAP.out.1, Lib.hid (Tn.refl _)⟩
    case round =>
      obtain ⟨p, A', c', hp1, hp2, rfl, rfl, HO, HD, HR, HMP, HTN⟩ := hrel
      have g2 := HD.out.cell 2
      have f2 := HD.out.frozen 2
      have g1 := HD.out.cell 1
      have f1 := HD.out.frozen 1
      simp at g2 g1
      by_cases hlt : s < p
      · obtain ⟨j, rfl⟩ : ∃ j, p = j + 1 := ⟨p - 1, by omega⟩
        obtain ⟨r, hr⟩ : ∃ r, t.recs[j]? = some r := ⟨_, List.getElem?_eq_getElem (by have := HM.out; omega)⟩
        obtain ⟨G, rfl⟩ : ∃ G, A = some ⟨G, 0, none⟩ := by
          rcases HR.out.2 with ⟨hv, hz⟩ | ⟨G, cap, cur, hv, hb, hh, _⟩
          · omega
          · injection hv with hv
            exact ⟨G, hv⟩
        have hlu := TS.lev_upto HG.out (K := K) hr
        rw [HSU.out] at hlu
        have hll := (HG.out.lev j r hr).1
        rw [HLL.out] at hll
        obtain ⟨lev, hlev⟩ : ∃ lev, r.lev = lev := ⟨_, rfl⟩
        obtain ⟨x, hx⟩ : ∃ x, r.l = x := ⟨_, rfl⟩
        rw [hlev] at hlu hll
        have hgt : (N : Int) < (lev : Int) := by have := HN.out; omega
        have htk : (t.recs.take (j + 1))[j]? = some r := by rw [List.getElem?_take, if_pos (by omega)]; exact hr
        obtain ⟨s0, s1, s2⟩ := stepsV_get htk
        have y0 := (World.ownsRow.cellAt HR.out (j * 3) (by omega)).trans s0
        have y1 := (World.ownsRow.cellAt HR.out (j * 3 + 1) (by omega)).trans s1
        rw [hx] at y0
        rw [hlev] at y1
        have hwj : IntKind.i64.wrap (j : Int) = (j : Int) := i64_ok (by omega)
        have hj1 : (j : Int) < (j : Int) + 1 := by omega
        have HX := Lib.hid hx
        have HRC := Lib.hid hr
        clear hr hlev hx hlu hll htk s0 s1 s2
        go_wp2_with fail
        go_quiet (fail)
        obtain ⟨wq, hwq⟩ : ∃ wq, wr.drewN nq = wq := ⟨_, rfl⟩
        rw [hwq]
        have HDq := Lib.hid (show Blk wq q _ _ by rw [← hwq]; exact HD.out)
        have HRq := Lib.hid (show wq.ownsRow base 42 3 (.slice (some ⟨G, 0, none⟩) (j + 1) c) (j + 1) (stepsV (t.recs.take (j + 1))) by rw [← hwq]; exact HR.out)
        have HOq := Lib.hid (show wq.ownsRow w.heap.size 3 1 (.slice A' (m - (j + 1)) c') (m - (j + 1)) ((goneK t.recs (j + 1)).map (Value.int .i64)) by rw [← hwq]; exact HO.out)
        have HMq := Lib.hid (show wq.ownsMap Try.prog 3 (plainElem (H := Unit) Try.prog 4) mp k D by rw [← hwq]; exact HMP.out)
        have HTq := Lib.hid (HTN.out.drewE ⟨nq, hwq.symm⟩)
        have z0 : wq.cell? ⟨G, j * 3, none⟩ = some (.int .i64 x) := by rw [← hwq]; exact y0
        have z2 : wq.cell? ⟨q, 2, none⟩ = some (.slice (some ⟨G, 0, none⟩) (j + 1) c) := by rw [← hwq]; exact g2
        have hqz := HDq.out.lt
        have hGz : G < wq.heap.size := (HRq.out.lt G rfl).2
        clear hwq y0 y1 g1 g2 f1 f2
        obtain ⟨wa, hwa⟩ : ∃ wa, wa = (wq.alloc (.cells #[.int .i64 x] 3)).drew := ⟨_, rfl⟩
        have hba : Below wq.heap.size wq wa := by rw [hwa]; exact ((Below.refl _ _).alloc (Nat.le_refl _) _).drew
        have HA2 := Lib.hid (own_below HOq.out hba fun g hg => (HOq.out.lt g hg).2)
        have HAC := Lib.hid (show wa.cell? ⟨wq.heap.size, 0, none⟩ = some (.int .i64 x) by rw [hwa]; go_cell)
        have HAT := Lib.hid (HDq.out.below hba HDq.out.lt)
        have HAR := Lib.hid (own3_below HRq.out hba fun g hg => (HRq.out.lt g hg).2)
        have HAM := Lib.hid (show wa.ownsMap Try.prog 3 (plainElem (H := Unit) Try.prog 4) mp k D by rw [hwa]; exact HMq.out.alloc _)
        have HTA := Lib.hid (HTq.out.trans (Tn.of_below hba (Nat.le_trans hB HTq.out.low.size)))
        have HAS := Lib.hid (show w.heap.size ≤ wa.heap.size from HTA.out.low.size)
        have HWA := Lib.hid hwa
        clear hba hwa
        go_wp2_with fail
        go_region_law (first | (rw [← HWA.out]; refine step_app12 rfl (.tmp 36) (.tmp 50) 36 rfl w.heap.size 3 i0 (.int .i64 0) 8 Try.underlying36 hi hz0 hz1 hz2 rfl (.slice A' (m - (j + 1)) c') (m - (j + 1)) _ rfl HA2.out (.int .i64 x) wq.heap.size rfl HAC.out rfl (by unfold maxLen; omega) (by omega) HAS.out ?_; intro v' w9 hown3 hg3 hat3; obtain ⟨A3, c3, hv3⟩ := own_slice3 hown3; subst hv3; have HO3 := Lib.hid hown3; have HG3 := Lib.hid hg3; clear hown3 hg3 hat3))
        all_goals
          have hmj : m - (j + 1) + 1 = m - j := by omega
          have HO9 := HO3.out
          rw [← List.map_singleton (f := Value.int .i64), ← List.map_append, show goneK t.recs (j + 1) ++ [x] = goneK t.recs j by rw [goneK_step HRC.out, HX.out], hmj] at HO9
          rw [hmj]
          have HO9 := Lib.hid HO9
          have HD9 := Lib.hid (HAT.out.grown HG3.out (own_blk_ne HA2.out HAT.out (by decide)))
          have HR9 := Lib.hid (HAR.out.kept HG3.out (own3_own HAR.out HA2.out (by decide)))
          have HM9 := Lib.hid (HAM.out.kept HG3.out (map_ne_own HAM.out HA2.out))
          have HT9 := Lib.hid (HTA.out.fresh HG3.out (fun g hg => (HA2.out.lt g hg).1) hB)
          have v2 := HD9.out.cell 2
          have vf := HD9.out.frozen 2
          simp at v2
          have hcj : j + 1 ≤ c := by
            rcases HR9.out.2 with ⟨hv, _⟩ | ⟨_, cap, _, hv, _, _, hc, _⟩
            · cases hv
            · injection hv with _ _ hv; omega
          have hsl1 : ∀ w, (Instr.slice 28 (.slice (some ⟨G, 0, none⟩) (j + 1) c) none (some (.int .i64 j)) none).run Try.prog w = .ok (.slice (some ⟨G, 0, none⟩) j c) w := fun w => run_front3 (P := Try.prog) Try.underlying28 w (sz3_12 w) G 0 (j + 1) c j (by omega)
          have hsl2 : ∀ w, (Instr.sliceAt 28 (.slice (some ⟨G, 0, none⟩) (j + 1) c) none (some (.int .i64 j)) none).run Try.prog w = .ok (.slice (some ⟨G, 0, none⟩) j c) w := fun w => (run_sliceAt_slice (P := Try.prog) w _ _ _ _ _ (by kernel_rfl)).trans (hsl1 w)
          have o1 := own3_set HR9.out (p := ⟨q, 2, none⟩) (.slice (some ⟨G, 0, none⟩) j c) (own3_blk HR9.out HD9.out (by decide))
          have o2 := own3_take o1 (k := j) (by omega) (by simp)
          rw [stepsV_take, List.take_take, show min j (j + 1) = j by omega] at o2
          have d2 := HD9.out.set_ 2 (.slice (some ⟨G, 0, none⟩) j c)
          simp at d2
          have HR10 := Lib.hid o2
          have HD10 := Lib.hid d2
          have HO10 := Lib.hid (own_setCell HO9.out (p := ⟨q, 2, none⟩) (.slice (some ⟨G, 0, none⟩) j c) (own_blk_ne HO9.out HD9.out (by decide)))
          have HM10 := Lib.hid (HM9.out.setCell (a := ⟨q, 2, none⟩) (Ne.symm (map_ne_blk HM9.out HD9.out)) (.slice (some ⟨G, 0, none⟩) j c))
          have HT10 := Lib.hid (HT9.out.set HD9.out (.inl (by simp [modT])) HQ.out.1 2 (.slice (some ⟨G, 0, none⟩) j c))
          clear z0 z2 o1 o2 d2 hmj
          go_wp2_with fail
          go_region
          all_goals
            go_wp2_with fail
            go_roundg (j - s + 1)
            case measure => omega
            case rel => exact ⟨j, _, _, by omega, by omega, rfl, rfl, HO10, HD10, HR10, HM10, Lib.hid HT10.out.drew⟩
      · obtain rfl : s = p := by omega
        have fin : ∀ (wf : World) (hd : ∃ a, wf = wr.drewN a), Md (wf.setCell ⟨q, 1, none⟩ (.int .i64 (N : Nat))) base q mp kb t6 ∧ Tn modT base mp w (wf.setCell ⟨q, 1, none⟩ (.int .i64 (N : Nat))) ∧ (wf.setCell ⟨q, 1, none⟩ (.int .i64 (N : Nat))).ownsRow w.heap.size 3 1 (.slice A' (m - s) c') (m - s) ((goneK t.recs s).map (Value.int .i64)) := by
          rintro wf ⟨a, rfl⟩
          have hb := HD.out.drewN a
          have d1 := hb.set_ 1 (.int .i64 (N : Nat))
          have hsl6 : t6.recs.length = s := by rw [H6.out.1, List.length_take, HM.out]; omega
          refine ⟨⟨⟨A, c, ?_, ?_⟩, ⟨k, D, ?_, HMAP.out.2.1, by rw [H6.out.2.2.1]; exact HMAP.out.2.2⟩, H6.out.2.2.2, HQ.out.1, HQ.out.2⟩, ?_, ?_⟩
          · rw [H6.out.2.2.1, H6.out.2.1, hsl6, HLL.out, HN.out]
            simpa using d1
          · rw [hsl6, H6.out.1]
            exact own3_set (show (wr.drewN a).ownsRow _ _ _ _ _ _ from HR.out) (p := ⟨q, 1, none⟩) _ (own3_blk HR.out HD.out (by decide))
          · exact World.ownsMap.setCell (show (wr.drewN a).ownsMap _ _ _ _ _ _ from HMP.out) (a := ⟨q, 1, none⟩) (Ne.symm (map_ne_blk HMP.out HD.out)) _
          · exact (HTN.out.drewE ⟨a, rfl⟩).set hb (.inl (by simp [modT])) HQ.out.1 _ _
          · exact own_setCell (show (wr.drewN a).ownsRow _ _ _ _ _ _ from HO.out) (p := ⟨q, 1, none⟩) _ (own_blk_ne HO.out HD.out (by decide))
        have FIN := Lib.hid fin
        clear fin
        by_cases hz : 0 < s
        · obtain ⟨j, rfl⟩ : ∃ j, s = j + 1 := ⟨s - 1, by omega⟩
          obtain ⟨r, hr⟩ : ∃ r, t.recs[j]? = some r := ⟨_, List.getElem?_eq_getElem (by have := HM.out; omega)⟩
          obtain ⟨G, rfl⟩ : ∃ G, A = some ⟨G, 0, none⟩ := by
            rcases HR.out.2 with ⟨hv, hz⟩ | ⟨G, cap, cur, hv, hb, hh, _⟩
            · omega
            · injection hv with hv
              exact ⟨G, hv⟩
          have hlu := TS.lev_upto HG.out (K := K) hr
          rw [HSU.out] at hlu
          have hll := (HG.out.lev j r hr).1
          rw [HLL.out] at hll
          obtain ⟨lev, hlev⟩ : ∃ lev, r.lev = lev := ⟨_, rfl⟩
          rw [hlev] at hlu hll
          have hgt : (lev : Int) ≤ (N : Int) := by have := HN.out; omega
          have htk : (t.recs.take (j + 1))[j]? = some r := by rw [List.getElem?_take, if_pos (by omega)]; exact hr
          obtain ⟨s0, s1, s2⟩ := stepsV_get htk
          have y1 := (World.ownsRow.cellAt HR.out (j * 3 + 1) (by omega)).trans s1
          rw [hlev] at y1
          have hwj : IntKind.i64.wrap (j : Int) = (j : Int) := i64_ok (by omega)
          have hj1 : (j : Int) < (j : Int) + 1 := by omega
          clear hr hlev hlu hll htk s0 s1 s2
          go_wp2_with fail
          go_quiet (fail)
          go_wp2_with fail
          go_ret
          obtain ⟨k1, k2, k3⟩ := FIN.out _ ⟨_, rfl⟩
          exact ⟨_, _, rfl, k3, k1, k2⟩
        · obtain rfl : s = 0 := by omega
          go_wp2_with fail
          go_quiet (fail)
          go_wp2_with fail
          go_ret
          obtain ⟨k1, k2, k3⟩ := FIN.out _ ⟨_, rfl⟩
          exact ⟨_, _, rfl, k3, k1, k2⟩
end Go.Proofs.Ytihljekdipengaa
