/- The statements' own trail: a literal put there. -/
import Derived.Test.YtihljekdipengaaMod12
namespace Go.Proofs.Ytihljekdipengaa
open Go.RowKit Go.Maps
set_option linter.unusedVariables false
set_option linter.unusedSimpArgs false

theorem step_app3 {P : Program} {ops : Array Oper} {o : Oper} {a : Act} {w : World} {K : Act → World → Prop} {Q : Exit → Act → World → Prop} {E : Prop}
    (hg : o.guard = none) (s x : Operand) (t : TypeId) (hop : o.op = Op.call { callee := Callee.builtin Builtin.append, args := #[s, x], argTypes := #[t, t] })
    (base : Nat) (e : TypeId) (i : TypeInfo) (z : Value) (bytes : Nat) (ht : P.underlying t = some (.slice e)) (hi : P.info? e = some i) (hz : i.zero = some z)
    (hsize : i.size = 3) (hby : i.bytes = bytes) (hzs : z.cells.size = 3)
    (v : Value) (n : Nat) (xs : List Value) (hs : a.eval s = v) (hown : w.ownsRow base e 3 v n xs)
    (u0 u1 u2 : Value) (g : Nat) (hx : a.eval x = .slice (some ⟨g, 0, none⟩) 1 1) (hc0 : w.cell? ⟨g, 0, none⟩ = some u0) (hc1 : w.cell? ⟨g, 1, none⟩ = some u1) (hc2 : w.cell? ⟨g, 2, none⟩ = some u2) (h1 : u0.oneCell' = true ∧ u1.oneCell' = true ∧ u2.oneCell' = true)
    (h63 : n + 1 ≤ maxLen) (hbytes : (n + 1) * bytes ≤ 140737488355328) (hbase : base ≤ w.heap.size)
    (hK : ∀ v' w', w'.ownsRow base e 3 v' (n + 1) (xs ++ [u0, u1, u2]) → w.grownBy w' v.ownBlock → (v'.ownBlock = v.ownBlock ∨ v'.ownBlock = some w.heap.size) → K (a.put o.dst v') w') :
    if Region.wanted o (yielded ops a.tmps) = true then Oper.wp P o a w K Q else E := by
  have hw : Region.wanted o (yielded ops a.tmps) = true := by simp [Region.wanted, hg]
  rw [if_pos hw]
  obtain ⟨v', w', hrun, h2, h3, _, hat⟩ := run_append_own_at (P := P) w base t o.type e i z 3 bytes ht hi hz hsize hby hzs (by decide) v n xs hown ⟨g, 0, none⟩ 1 1 [u0, u1, u2] rfl
    (by intro j u' hu; match j, hu with | 0, hu => simp at hu; subst hu; simpa [Addr.add] using hc0 | 1, hu => simp at hu; subst hu; simpa [Addr.add] using hc1 | 2, hu => simp at hu; subst hu; simpa [Addr.add] using hc2) (by intro u' hu; simp at hu; rcases hu with rfl | rfl | rfl <;> first | exact h1.1 | exact h1.2.1 | exact h1.2.2) h63 hbytes hbase
  unfold Oper.wp
  simp [execOp, hop, resolve, invoke, builtin, hs, hx, hrun, Result.andThen]
  exact hK v' w' h2 h3 hat

theorem infoT12 : (Try.prog.info? 42).map (fun i => (i.zero, i.size, i.bytes)) = some (some (.agg #[.int .i64 0, .int .i64 0, .int .i64 0]), 3, 24) := by kernel_rfl
theorem info_parts3 {P : Program} {e : TypeId} {z : Value} {n b : Nat} (h : (P.info? e).map (fun i => (i.zero, i.size, i.bytes)) = some (some z, n, b)) : ∃ i, P.info? e = some i ∧ i.zero = some z ∧ i.size = n ∧ i.bytes = b := by
  obtain ⟨i, hi, hzz⟩ := Option.map_eq_some_iff.1 h
  simp only [Prod.mk.injEq] at hzz
  exact ⟨i, hi, hzz.1, hzz.2.1, hzz.2.2⟩
theorem own3_set {w : World} {base e n : Nat} {v : Value} {xs : List Value} {s : Nat} (h : w.ownsRow base e s v n xs) {p : Addr} (u : Value) (hp : some p.block ≠ v.ownBlock) : (w.setCell p u).ownsRow base e s v n xs :=
  h.kept (grown_setCell w p u) (.inr (Ne.symm hp))
theorem own3_below {w w' : World} {B base e n s : Nat} {v : Value} {xs : List Value} (h : w.ownsRow base e s v n xs) (hb : Below B w w') (hB : ∀ g, v.ownBlock = some g → g < B) : w'.ownsRow base e s v n xs := by
  refine ⟨h.1, ?_⟩
  rcases h.2 with hn | ⟨g, cap, cur, rfl, hg, hgg, rest⟩
  · exact .inl hn
  · exact .inr ⟨g, cap, cur, rfl, hg, by rw [hb.block g (hB g rfl)]; exact hgg, rest⟩
theorem own3_blk {w : World} {g : Nat} {t : TypeId} {cs : Array Value} {base s : Nat} {e : TypeId} {n : Nat} {v : Value} {xs : List Value} (h : w.ownsRow base e s v n xs) (hg : Blk w g t cs) (hne : e ≠ t) : some g ≠ v.ownBlock := by
  rcases h.2 with ⟨rfl, _⟩ | ⟨g', cap, cur, rfl, _, hh, _⟩
  · simp [Value.ownBlock]
  · intro he
    have : g = g' := by simpa [Value.ownBlock] using he
    subst this
    exact Blk.ne_ (t := e) hh hg hne rfl
theorem Tn.grown3 {ts : List TypeId} {base P : Nat} {w w' w'' : World} (h : Tn ts base P w w') {n s : Nat} {ty : TypeId} {v : Value} {xs : List Value} (ho : w'.ownsRow base ty s v n xs) (ht : ty ∈ ts) (hg : w'.grownBy w'' v.ownBlock) (hB : base ≤ w'.heap.size) : Tn ts base P w w'' := by
  refine h.trans ⟨(Below.refl base w').grown hg hB (fun q hq => (ho.lt q hq).1), fun q o hq h1 h2 => ?_⟩
  refine (hg.block q (Array.getElem?_eq_some_iff.1 hq).1 fun e => ?_).trans hq
  rcases ho.2 with ⟨rfl, _⟩ | ⟨g', cap, cur, rfl, _, hh, _⟩
  · simp [Value.ownBlock] at e
  · have : q = g' := by simpa [Value.ownBlock] using e
    subst this
    rw [hh] at hq
    injection hq with hq
    exact h2 _ _ _ hq.symm ht
theorem Tn.mapped {ts : List TypeId} {base P : Nat} {w w' w'' : World} (h : Tn ts base P w w') (hP : base ≤ P) (hB : base ≤ w'.heap.size) (hg : w'.grownBy w'' (some P)) : Tn ts base P w w'' := by
  refine h.trans ⟨(Below.refl base w').grown hg hB (fun q hq => by injection hq with hq; omega), fun q o hq h1 h2 => (hg.block q (Array.getElem?_eq_some_iff.1 hq).1 fun e => h1 (by injection e)).trans hq⟩
theorem map_ne_blk {w : World} {P : Program} {k : TypeId} {R : Value → Option (DataW Unit × List MemPlace)} {b n g : Nat} {D : DataW Unit} {t : TypeId} {cs : Array Value} (h : w.ownsMap P k R b n D) (hg : Blk w g t cs) : g ≠ b := by
  obtain ⟨es, clock, hb, _⟩ := h
  rintro rfl
  unfold Blk at hg
  rw [hb] at hg
  cases hg
theorem map_ne_own {w : World} {P : Program} {k : TypeId} {R : Value → Option (DataW Unit × List MemPlace)} {b n base s m : Nat} {D : DataW Unit} {e : TypeId} {v : Value} {xs : List Value} (h : w.ownsMap P k R b n D) (ho : w.ownsRow base e s v m xs) : some b ≠ v.ownBlock := by
  rcases ho.2 with ⟨rfl, _⟩ | ⟨g', cap, cur, rfl, _, hh, _⟩
  · simp [Value.ownBlock]
  · intro he
    have : b = g' := by simpa [Value.ownBlock] using he
    subst this
    exact map_ne_blk h (show Blk w b e cur from hh) rfl

abbrev modT : List TypeId := [30, 42]
/-- what the phase map becomes -/
theorem PhMap.put {D : DataW Unit} {ph : List Bool} (h : PhMap D ph) (hm : Maps.IsMap D) {v : Nat} (h1 : 1 ≤ v) (b : Bool) : PhMap (D.put (.int .i64 (v : Int)) (.lit (.bool b))) (ph.set (v - 1) b) := by
  intro u hu1 hu2
  rw [List.length_set] at hu2
  by_cases e : u = v
  · subst e
    rw [Maps.atKey_put_same hm (show WideAt.IsKeyLit (.int .i64 _) from trivial)]
    simp [List.getD, show u - 1 < ph.length by omega]
  · rw [Maps.atKey_put_other (by intro e2; injection e2 with _ e2; omega), h u hu1 hu2, List.getD, List.getD, List.getElem?_set_ne (by omega)]

theorem Md.done {w wa w9 w12 : World} {base q mp kb k m n lv c c3 : Nat} {A A3 : Option Addr} {t t' : TS} {l rs : Int} {D D' : DataW Unit} (h1 : Blk wa q 30 #[.int .i64 (n : Nat), .int .i64 (lv : Nat), .slice A m c, .map (some mp)])
    (h2 : wa.ownsRow base 42 3 (.slice A m c) m (stepsV t.recs)) (h3 : wa.grownBy w9 (Value.slice A m c).ownBlock) (h4 : w9.ownsRow base 42 3 (.slice A3 (m + 1) c3) (m + 1) (stepsV t.recs ++ [.int .i64 l, .int .i64 (lv : Nat), .int .i64 rs]))
    (h5 : (w9.setCell ⟨q, 2, none⟩ (.slice A3 (m + 1) c3)).grownBy w12 (some mp)) (h6 : w12.ownsMap Try.prog 3 (plainElem (H := Unit) Try.prog 4) mp (k + 1) D') (h7 : PhMap D' t'.ph) (h8 : k ≤ kb)
    (y1 : t'.recs = t.recs ++ [⟨l, lv, rs⟩]) (y2 : t'.starts.length = lv) (y3 : t'.ph.length = n) (y4 : t'.Good) (hm : t.recs.length = m) (ht : Tn modT base mp w wa) (hB : base ≤ wa.heap.size) (hq : base ≤ q) (hmp : base ≤ mp) (hM : (w9.setCell ⟨q, 2, none⟩ (.slice A3 (m + 1) c3)).ownsMap Try.prog 3 (plainElem (H := Unit) Try.prog 4) mp k D) :
    Md w12 base q mp (kb + 1) t' ∧ Tn modT base mp w w12 := by
  have b9 := h1.grown h3 (own3_blk h2 h1 (by decide))
  have b10 := b9.set_ 2 (.slice A3 (m + 1) c3)
  have o10 := own3_set h4 (p := ⟨q, 2, none⟩) (.slice A3 (m + 1) c3) (own3_blk h4 b9 (by decide))
  have hqm : q ≠ mp := map_ne_blk hM b10
  have hs9 := h3.size
  have hml : t'.recs.length = m + 1 := by rw [y1]; simp [hm]
  refine ⟨⟨⟨A3, c3, ?_, ?_⟩, ⟨k + 1, D', h6, by omega, h7⟩, y4, hq, hmp⟩, ?_⟩
  · rw [y3, y2, hml]
    have := b10.grown h5 (by simpa using hqm)
    simpa using this
  · rw [hml, y1, stepsV_append]
    exact o10.kept h5 (.inr (Ne.symm (map_ne_own hM o10)))
  · exact (((ht.grown3 h2 (by simp [modT]) h3 hB).set b9 (.inl (by simp [modT])) hq _ _)).mapped hmp (by simp [World.setCell]; omega) h5

set_option maxHeartbeats 4000000 in
theorem mput_any {w : World} {base q mp kb : Nat} {t t' : TS} (h : Md w base q mp kb t) (hB : base ≤ w.heap.size) (hkb : kb ≤ 1000000) (l rs : Int) (more : Nat) (hm : more ≤ 1) (h0 : -9223372036854775808 ≤ l ∧ l ≤ 9223372036854775807)
    (hy : t.takes l = true → t'.recs = t.recs ++ [⟨l, t.starts.length + more, rs⟩] ∧ t'.starts.length = t.starts.length + more ∧ t'.ph = t.ph.set (l.natAbs - 1) (decide (0 < l)) ∧ t'.Good) (hno : t.takes l = false → t' = t) :
    Calls Try.prog 10 #[.pointer (some ⟨q, 0, none⟩), .int .i64 l, .int .i64 rs, .int .i64 (more : Nat)] w fun e w' => e = .returned (.bool (t.takes l)) ∧ Md w' base q mp (kb + 1) t' ∧ Tn modT base mp w w' := by
  have HR := Lib.hid (mright_any h l)
  have HW := Lib.hid (mwhere_any h l h0)
  have HH := Lib.hid h
  have HNO := Lib.hid hno
  have HY := Lib.hid hy
  have hf := h.good.few
  rcases hr : rightM t l with _ | _
  · have ht : t.takes l = false := by
      rw [Bool.eq_false_iff]
      intro e
      have := ((TS.takes_iff hf).1 e).1
      simp [rightM] at hr
      exact absurd this.2 (by have := hr this.1; omega)
    rw [ht, hno ht]
    rw [hr] at HR
    clear h hr ht hno hy
    go_enter Try.func10, Try.ntmps10
    go_wp2_with fail
    refine HR.out.mono ?_
    rintro e w1 ⟨rfl, rfl⟩
    go_wp2
    go_ret
    exact ⟨rfl, HH.out.mono (by omega), Tn.refl _⟩
  · rw [hr] at HR
    have hr2 : l ≠ 0 ∧ l.natAbs ≤ t.ph.length := by simpa [rightM] using hr
    rcases hfd : find t.recs l with _ | ⟨i, r⟩
    · have ht : t.takes l = true := (TS.takes_iff hf).2 ⟨hr2, hfd⟩
      have hpl : placeT t.recs l = -1 := by unfold placeT; rw [hfd]
      rw [hpl] at HW
      obtain ⟨y1, y2, y3, y4⟩ := hy ht
      rw [ht]
      clear hr hfd ht hpl hno hy
      obtain ⟨i0, hi, hz0, hz1, hz2⟩ := info_parts3 infoT12
      have HY4 := Lib.hid (And.intro y1 (And.intro y2 (And.intro y3 y4)))
      have hml := HH.out.good.len
      have hsl := HH.out.good.starts_len
      clear h y1 y2 y3 y4
      obtain ⟨L, hL⟩ : ∃ L, t.starts.length = L := ⟨_, rfl⟩
      obtain ⟨m, hm'⟩ : ∃ m, t.recs.length = m := ⟨_, rfl⟩
      obtain ⟨lv, hlv⟩ : ∃ lv, L + more = lv := ⟨_, rfl⟩
      go_enter Try.func10, Try.ntmps10
      go_wp2_with fail
      refine HR.out.mono ?_
      rintro e w1 ⟨rfl, rfl⟩
      go_wp2_with fail
      refine HW.out.mono ?_
      rintro e w1 ⟨rfl, hgr⟩
      have hb := hgr.below
      clear hgr
      have HB1 := Lib.hid hb
      have hs1 := hb.size
      have hM := HH.out.below hb
      obtain ⟨A, c, b1, b2⟩ := hM.ex
      obtain ⟨k, D, m1, m2, m3⟩ := hM.map
      have hqs : some q ≠ (Value.slice A t.recs.length c).ownBlock := own3_blk b2 b1 (by decide)
      have c1 := b1.cell 1
      have f1 := b1.frozen 1
      simp at c1
      -- behind the level's store
      obtain ⟨w3, hw3⟩ : ∃ w3, w3 = w1.setCell ⟨q, 1, none⟩ (.int .i64 ((lv : Nat) : Int)) := ⟨_, rfl⟩
      have e1 : Blk w3 q 30 #[.int .i64 (t.ph.length : Nat), .int .i64 ((lv : Nat) : Int), .slice A t.recs.length c, .map (some mp)] := by
        rw [hw3]
        have := b1.set_ 1 (.int .i64 ((lv : Nat) : Int))
        simpa using this
      have e2 : w3.ownsRow base 42 3 (.slice A t.recs.length c) t.recs.length (stepsV t.recs) := by rw [hw3]; exact own3_set b2 _ hqs
      have e3 : w3.ownsMap Try.prog 3 (plainElem (H := Unit) Try.prog 4) mp k D := by rw [hw3]; exact m1.setCell (Ne.symm (map_ne_blk m1 b1)) _
      have e4 : Tn modT base mp w w3 := by rw [hw3]; exact (Tn.of_below hb hB).set b1 (.inl (by simp [modT])) HH.out.hq _ _
      have hs3 : w3.heap.size = w1.heap.size := by rw [hw3]; simp [World.setCell]
      -- behind the box
      obtain ⟨wa, hwa⟩ : ∃ wa, wa = (w3.alloc (.cells #[.int .i64 l, .int .i64 ((lv : Nat) : Int), .int .i64 rs] 42)).drew := ⟨_, rfl⟩
      have hba : Below w3.heap.size w3 wa := by rw [hwa]; exact ((Below.refl _ _).alloc (Nat.le_refl _) _).drew
      have hbox : Blk wa w3.heap.size 42 #[.int .i64 l, .int .i64 ((lv : Nat) : Int), .int .i64 rs] := by rw [hwa]; exact (Blk.new w3 _ _).drew_
      have HA2 := Lib.hid (own3_below e2 hba fun g hg => (e2.lt g hg).2)
      have HAC := Lib.hid (And.intro (hbox.cell 0) (And.intro (hbox.cell 1) (hbox.cell 2)))
      have HAT := Lib.hid (e1.below hba e1.lt)
      have HAM := Lib.hid (show wa.ownsMap Try.prog 3 (plainElem (H := Unit) Try.prog 4) mp k D by rw [hwa]; exact e3.alloc _)
      have HTA := Lib.hid (e4.trans (Tn.of_below hba (by omega)))
      have HAS := Lib.hid (show base ≤ wa.heap.size by have := hba.size; omega)
      have g1 := e1.cell 1
      have g2 := e1.cell 2
      simp at g1 g2
      have hql := e1.lt
      have HWA := Lib.hid hwa
      have HW3 := Lib.hid hw3
      have HM3 := Lib.hid (And.intro m2 m3)
      have HLm := Lib.hid (And.intro hL hm')
      rw [hL] at c1 hsl
      rw [hm'] at g2 hml hsl
      rw [hm'] at HA2 HAT
      have hsum : (L : Int) + (more : Int) = (lv : Int) := by omega
      have hwlv : IntKind.i64.wrap (lv : Int) = (lv : Int) := i64_ok (by omega)
      have HLV := Lib.hid hlv
      clear hb hM b1 b2 m1 m2 m3 hw3 e1 e2 e3 e4 hwa hba hbox hL hm' hqs hlv hs3 hs1
      go_wp2_with fail
      rw [← HW3.out]
      clear c1 f1
      go_region_law (first | (rw [← HWA.out]; refine step_app3 rfl (.tmp 31) (.tmp 39) 28 rfl base 42 i0 (.agg #[.int .i64 0, .int .i64 0, .int .i64 0]) 24 Try.underlying28 hi hz0 hz1 hz2 rfl (.slice A m c) m (stepsV t.recs) rfl HA2.out (.int .i64 l) (.int .i64 (lv : Nat)) (.int .i64 rs) w3.heap.size rfl HAC.out.1 HAC.out.2.1 HAC.out.2.2 ⟨rfl, rfl, rfl⟩ (by unfold maxLen; omega) (by omega) HAS.out ?_; intro v' w9 hown3 hg3 hat3; obtain ⟨A3, c3, hv3⟩ : ∃ A3 c3, v' = .slice A3 (m + 1) c3 := (by rcases hown3.2 with ⟨hv, hz⟩ | ⟨g', cap, cur, hv, _⟩; exact ⟨none, 0, by omega⟩; exact ⟨_, _, hv⟩); subst hv3; have hbk3 := HAT.out.grown hg3 (own3_blk HA2.out HAT.out (by decide)); have dF := hbk3.frozen 2; have dC := hbk3.cell 2; simp at dC; have dM := hbk3.cell 3; simp at dM; have HM9 := Lib.hid (HAM.out.kept hg3 (map_ne_own HAM.out HA2.out)); have HO3 := Lib.hid hown3; have HG3 := Lib.hid hg3; clear hbk3 hown3 hg3 hat3))
      all_goals
        have HM11 := Lib.hid (HM9.out.setCell (a := ⟨q, 2, none⟩) (fun e => map_ne_blk HM9.out (HAT.out.grown HG3.out (own3_blk HA2.out HAT.out (by decide))) e.symm) (.slice A3 (m + 1) c3))
        have hkk := HM3.out.1
        by_cases hp : 0 < l
        · have h6 : -l < l := by omega
          have h7 : ¬ l < -l := by omega
          go_wp2_with (at_mapUpdate; refine wpList_mapUpdate_own _ rfl _ _ _ 27 rfl 3 4 intLaw12 Try.underlying27 _ mp k D rfl HM11.out (by unfold maxLen; omega) _ _ _ rfl rfl (Maps.keyOf_int_mk Try.underlying3 (WalkArith.wf_i64 (by omega))) _ [] (plainElem_bool Try.underlying4 _) ?_; intro w12 hown12 hgrow12)
          have HF := Lib.hid (Md.done (t := t) (t' := t') (kb := kb) HAT.out HA2.out HG3.out HO3.out hgrow12 hown12 (by
            have e : l = ((l.natAbs : Nat) : Int) := by omega
            have := HM3.out.2.put HM11.out.isMap (v := l.natAbs) (by omega) true
            rw [← e] at this
            rw [HY4.out.2.2.1, show decide (0 < l) = true by simp [hp]]
            exact this) hkk (by rw [HY4.out.1, HLm.out.1, ← HLV.out]) (by rw [HY4.out.2.1, HLm.out.1, HLV.out]) (by rw [HY4.out.2.2.1]; simp) HY4.out.2.2.2 HLm.out.2 HTA.out HAS.out HH.out.hq HH.out.hmp HM11.out)
          clear hown12 hgrow12
          go_wp2
          go_ret
          exact ⟨rfl, HF.out.1, HF.out.2⟩
        · have h6 : l < -l := by omega
          have h7 : ¬ -l < l := by omega
          have hd0 : decide (0 < l) = false := by simp [hp]
          go_wp2_with (at_mapUpdate; refine wpList_mapUpdate_own _ rfl _ _ _ 27 rfl 3 4 intLaw12 Try.underlying27 _ mp k D rfl HM11.out (by unfold maxLen; omega) _ _ _ rfl rfl (Maps.keyOf_int_mk Try.underlying3 (WalkArith.wf_i64 (by omega))) _ [] (plainElem_bool Try.underlying4 _) ?_; intro w12 hown12 hgrow12)
          have HF := Lib.hid (Md.done (t := t) (t' := t') (kb := kb) HAT.out HA2.out HG3.out HO3.out hgrow12 hown12 (by
            have e : -l = ((l.natAbs : Nat) : Int) := by omega
            have := HM3.out.2.put HM11.out.isMap (v := l.natAbs) (by omega) false
            rw [← e] at this
            rw [HY4.out.2.2.1, hd0]
            exact this) hkk (by rw [HY4.out.1, HLm.out.1, ← HLV.out]) (by rw [HY4.out.2.1, HLm.out.1, HLV.out]) (by rw [HY4.out.2.2.1]; simp) HY4.out.2.2.2 HLm.out.2 HTA.out HAS.out HH.out.hq HH.out.hmp HM11.out)
          clear hown12 hgrow12
          go_wp2
          go_ret
          exact ⟨rfl, HF.out.1, HF.out.2⟩
    · have ht : t.takes l = false := by
        rw [Bool.eq_false_iff]
        intro e
        rw [((TS.takes_iff hf).1 e).2] at hfd
        cases hfd
      have hpl : placeT t.recs l = (i : Nat) := by unfold placeT; rw [hfd]
      rw [hpl] at HW
      rw [ht, hno ht]
      clear h hr hfd ht hpl hno hy
      go_enter Try.func10, Try.ntmps10
      go_wp2_with fail
      refine HR.out.mono ?_
      rintro e w1 ⟨rfl, rfl⟩
      go_wp2_with fail
      refine HW.out.mono ?_
      rintro e w1 ⟨rfl, hgr⟩
      have hb := hgr.below
      clear hgr
      have HB := Lib.hid hb
      clear hb
      go_wp2
      go_ret
      exact ⟨rfl, (HH.out.below HB.out).mono (by omega), Tn.of_below HB.out hB⟩
end Go.Proofs.Ytihljekdipengaa
