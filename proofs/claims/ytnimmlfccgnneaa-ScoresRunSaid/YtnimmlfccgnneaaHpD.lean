/- A heap as its callers know it; all divided; scores and the rise that grow. -/
import Derived.Test.YtnimmlfccgnneaaHpC
namespace Go.Proofs.Ytnimmlfccgnneaa
open Go.RowKit
set_option linter.unusedVariables false
set_option linter.unusedSimpArgs false

/-- a heap between calls, by what the document says of it -/
structure St16 (w : World) (b : HB) (n : Nat) (s : SP) : Prop where
  ex : ∃ pl tr, HM w b n s.sc pl tr s.rise ∧ Con n tr pl ∧ Ord s.sc tr 0 ∧ ∀ v, 1 ≤ v → v ≤ n → (v ∈ tr ↔ s.inn.getD (v - 1) false = true)
  good : s.Good n
section
variable {w w' : World} {b : HB} {n : Nat} {s : SP}
theorem St16.drewN (h : St16 w b n s) (m : Nat) : St16 (w.drewN m) b n s := by
  obtain ⟨pl, tr, h1, h2⟩ := h.ex
  exact ⟨⟨pl, tr, h1.drewN m, h2⟩, h.good⟩
theorem St16.ft {F : Nat → Prop} (h : St16 w b n s) (hf : Ft F w w') (hn : ∀ q, b.foot q → ¬ F q) : St16 w' b n s := by
  obtain ⟨pl, tr, h1, h2⟩ := h.ex
  exact ⟨⟨pl, tr, h1.ft hf hn, h2⟩, h.good⟩
theorem St16.foot_lt (h : St16 w b n s) {q : Nat} (hq : b.foot q) : q < w.heap.size := by
  obtain ⟨pl, tr, h1, _⟩ := h.ex
  exact h1.foot_lt hq
theorem St16.low (h : St16 w b n s) (hf : Below w.heap.size w w') : St16 w' b n s := h.ft (Ft.of_below (F := fun _ => False) hf) fun _ _ e => e
end

theorem Ord.congr {sc sc' tr : List Nat} {K : Nat} (h : Ord sc tr K) (e : ∀ i, i < tr.length → scV sc' (tr.getD i 0) = scV sc (tr.getD i 0)) : Ord sc' tr K := by
  intro j h0 h1 h2
  have := h j h0 h1 h2
  unfold ah at this ⊢
  rw [e _ h1, e _ (by omega)]
  exact this
theorem scV_set {sc : List Nat} {k x v : Nat} (hk : k < sc.length) : scV (sc.set k x) v = if v - 1 = k then x else scV sc v := by
  unfold scV
  rw [getD_set_nat]
  by_cases e : v - 1 = k
  · rw [if_pos ⟨e, hk⟩, if_pos e]
  · rw [if_neg (by omega), if_neg e]
theorem lift_start {n : Nat} {sc tr : List Nat} {pl : List Int} {i k x : Nat} (ho : Ord sc tr 0) (hc : Con n tr pl) (hi : i < tr.length) (ht : tr.getD i 0 = k + 1) (hk : k < sc.length) (hx : sc.getD k 0 ≤ x) : LiftI (sc.set k x) tr i := by
  have hne : ∀ j, j < tr.length → j ≠ i → scV (sc.set k x) (tr.getD j 0) = scV sc (tr.getD j 0) := fun j hj he => by
    rw [scV_set hk, if_neg]
    intro e
    have := hc.rng j hj
    exact he (hc.inj _ _ hj hi (by omega))
  have hup : scV sc (tr.getD i 0) ≤ scV (sc.set k x) (tr.getD i 0) := by
    rw [ht, scV_set hk, if_pos (by omega)]
    unfold scV
    rw [Nat.add_sub_cancel]
    exact hx
  refine ⟨hi, fun j h0 h1 h2 => ?_, fun c h0 h1 h2 h3 => ?_⟩
  · have := ho j h0 h1 (by omega)
    unfold ah at this ⊢
    rw [hne j h1 h2]
    by_cases e : (j - 1) / 2 = i
    · rw [e] at this ⊢
      omega
    · rw [hne _ (by omega) e]
      exact this
  · have a1 := ho c h0 h1 (by omega)
    have a2 := ho i h3 hi (by omega)
    rw [h2] at a1
    have := ah_trans a2 a1
    unfold ah at this ⊢
    rw [hne c h1 (by omega), hne _ (by omega) (by omega)]
    exact this

section
variable {w w' : World} {b : HB} {n r : Nat} {sc tr : List Nat} {pl : List Int}
theorem HM.alloc (h : HM w b n sc pl tr r) (o : Obj) : HM (w.alloc o) b n sc pl tr r := h.keep fun _ _ _ _ hb => hb.alloc o
set_option maxHeartbeats 2000000 in
theorem divide_hp (h : HM w b n sc pl tr r) (hc : Con n tr pl) : Calls Try.prog 25 #[.pointer (some ⟨b.g, 0, none⟩)] w fun e w' => e = .returned (.tuple #[]) ∧ ∃ pl' tr', HM w' b n (sc.map (· / 1073741824)) pl' tr' (max (r / 1073741824) 1) ∧ Con n tr' pl' ∧ Ord (sc.map (· / 1073741824)) tr' 0 ∧ Sm tr tr' ∧ Ft b.foot w w' := by
  have c0 := h.g0
  have hf := h.few
  have HLS := Lib.hid h.ls
  have HCAP := Lib.hid h.cap
  have hr := h.rc
  have H := Lib.hid h
  have HC := Lib.hid hc
  obtain ⟨q, hq⟩ : ∃ q : Nat, q = max (r / 1073741824) 1 := ⟨_, rfl⟩
  have hqb : q ≤ 4503599627370496 := by omega
  have hqe : max ((r : Int) / 1073741824) 1 = (q : Int) := by omega
  have e2 : Int.tdiv (r : Int) 1073741824 = (r : Int) / 1073741824 := Int.tdiv_eq_ediv_of_nonneg (by omega)
  rw [← hq]
  clear h hc hq
  go_enter Try.func25, Try.ntmps25
  go_wp2_with fail
  go_loopg [9] (n + 1) (fun gk iv wr => ∃ (k : Nat) (sk : List Nat), k ≤ n ∧ gk = n - k + 1 ∧ iv = .int .i64 (k : Nat) ∧ Hid (HM wr b n sk pl tr r) ∧ Hid (∀ i, sk.getD i 0 = if i < k then sc.getD i 0 / 1073741824 else sc.getD i 0) ∧ Hid (Ft b.foot w wr))
  case atStart => exact ⟨0, sc, by omega, by omega, rfl, H, Lib.hid (fun i => by rw [if_neg (by omega)]), Lib.hid (Ft.refl _)⟩
  case round =>
    obtain ⟨k, sk, hk, rfl, rfl, H, HE, HF⟩ := hrel
    by_cases hlt : k < n
    · have hkI : (k : Int) < (n : Int) := by omega
      have c0 := H.out.g0
      have ck := H.out.cS hlt
      have fk := H.out.fS k
      have hx0 := H.out.cap k
      have HE2 : Hid (∀ y, y = sk.getD k 0 / 1073741824 → ∀ i, (sk.set k y).getD i 0 = if i < k + 1 then sc.getD i 0 / 1073741824 else sc.getD i 0) := Lib.hid fun y hy i => by
        have hkk := HE.out k
        rw [if_neg (by omega)] at hkk
        rw [getD_set_nat, H.out.ls, hy, hkk]
        by_cases e : i = k
        · subst e
          rw [if_pos ⟨rfl, hlt⟩, if_pos (by omega)]
        · rw [if_neg (fun h => e h.1), HE.out i]
          by_cases e2 : i < k
          · rw [if_pos e2, if_pos (by omega)]
          · rw [if_neg e2, if_neg (by omega)]
      obtain ⟨x, hx⟩ : ∃ x : Nat, x = sk.getD k 0 := ⟨_, rfl⟩
      rw [← hx] at ck hx0 HE2
      obtain ⟨y, hy⟩ : ∃ y : Nat, y = x / 1073741824 := ⟨_, rfl⟩
      have d1 : (x : Int) / 1073741824 = (y : Int) := by omega
      have d2 : Int.tdiv (x : Int) 1073741824 = (y : Int) := by rw [Int.tdiv_eq_ediv_of_nonneg (by omega)]; exact d1
      have wy : IntKind.i64.wrap (y : Int) = (y : Int) := i64_mid (by omega)
      have HN := Lib.hid (H.out.setS k y (by omega))
      have HFN := Lib.hid (HF.out.set (q := b.S) (fun _ => .inr (.inl rfl)) k (.int .i64 (y : Nat)))
      have HY := Lib.hid hy
      clear hx hy
      go_wp2_with fail
      go_roundg (n - k)
      case measure => omega
      case rel => exact ⟨k + 1, _, by omega, by omega, by go_num, HN, Lib.hid (HE2.out y HY.out), HFN⟩
    · obtain rfl : n = k := by omega
      have hes : sk = sc.map (· / 1073741824) := by
        apply List.ext_getElem
        · rw [H.out.ls, List.length_map, HLS.out]
        · intro i h1 h2
          have := HE.out i
          rw [if_pos (by have := H.out.ls; omega)] at this
          simpa [List.getD, h1, show i < sc.length by simpa using h2] using this
      subst hes
      have g3 := H.out.g3
      have fg3 := H.out.hg.frozen 3
      have HR := Lib.hid (H.out.setR q hqb)
      have HFR := Lib.hid (HF.out.set (q := b.g) (fun _ => .inl rfl) 3 (.int .i64 (q : Nat)))
      have HQE := Lib.hid hqe
      clear hqe
      go_upto_region 5 with fail
      go_cut [] (fun wx => wx = wr.setCell ⟨b.g, 3, none⟩ (.int .i64 (q : Nat)))
      case first =>
        have hqe := HQE.out
        by_cases hc : (r : Int) / 1073741824 < 1
        · obtain rfl : q = 1 := by omega
          go_wp2_with fail
          all_goals go_meet
          all_goals first | rfl | omega
        · have hq2 : (r : Int) / 1073741824 = (q : Int) := by omega
          have hq3 : ¬ (q : Int) < 1 := by omega
          go_wp2_with fail
          all_goals go_meet
          all_goals first | rfl | omega
      case rest =>
      subst hcut
      have g2 := HR.out.g2
      have hll := HR.out.lt
      obtain ⟨l, hl⟩ : ∃ l, l = tr.length := ⟨_, rfl⟩
      have HL := Lib.hid hl
      rw [← hl] at g2 hll
      obtain ⟨m, hm⟩ : ∃ m, m = l / 2 := ⟨_, rfl⟩
      have HM1 := Lib.hid hm
      have e3 : (l : Int) / 2 = (m : Int) := by omega
      have e4 : Int.tdiv (l : Int) 2 = (m : Int) := by rw [Int.tdiv_eq_ediv_of_nonneg (by omega)]; exact e3
      have hmb : m ≤ 100000 := by omega
      have wm : IntKind.i64.wrap ((m : Int) - 1) = (m : Int) - 1 := i64_mid (by omega)
      clear hlt hl hm
      go_wp2_with fail
      go_loopg [3] (m + 1) (fun gk iv wr => ∃ (k : Nat) (pl' : List Int) (tr' : List Nat), gk = k + 1 ∧ iv = .int .i64 ((k : Int) - 1) ∧ k ≤ 100000 ∧ Hid (HM wr b n (sc.map (· / 1073741824)) pl' tr' q) ∧ Hid (Con n tr' pl') ∧ Hid (Ord (sc.map (· / 1073741824)) tr' k) ∧ Hid (Sm tr tr') ∧ Hid (Ft b.foot w wr))
      case atStart => exact ⟨m, pl, tr, rfl, rfl, hmb, HR, HC, Lib.hid (Ord.far (by have := HL.out; have := HM1.out; omega)), Lib.hid (Sm.refl _), HFR⟩
      case round =>
        obtain ⟨k, pl', tr', rfl, rfl, hk, H, HC, HO, HS, HF⟩ := hrel
        rcases k with _ | k
        · go_wp2
          go_end0
          exact ⟨rfl, pl', tr', H.out, HC.out, HO.out, HS.out, HF.out⟩
        · have s1 : (((k + 1 : Nat) : Int) - 1) = (k : Int) := by omega
          have s2 : ((k : Int) + 1 - 1) = (k : Int) := by omega
          rw [s1]
          go_wp2_with fail
          refine (sink_hp H.out HC.out k k (SinkI.start HO.out) (by omega)).mono ?_
          rintro e w1 ⟨rfl, pl2, tr2, h1, h2, h3, h4, h5⟩
          have H1 := Lib.hid h1
          have H2 := Lib.hid h2
          have H3 := Lib.hid h3
          have H4 := Lib.hid (HS.out.trans h4)
          have H5 := Lib.hid (HF.out.trans h5 NewF.refl)
          clear h1 h2 h3 h4 h5
          go_wp2_with fail
          go_roundg (k + 1)
          case measure => omega
          case rel => exact ⟨k, _, _, rfl, rfl, by omega, H1, H2, H3, H4, H5⟩
end

section
variable {w w' : World} {b : HB} {n : Nat} {s : SP}
theorem St16.of {pl : List Int} {tr : List Nat} (h1 : HM w b n s.sc pl tr s.rise) (h2 : Con n tr pl) (h3 : Ord s.sc tr 0) (h4 : ∀ v, 1 ≤ v → v ≤ n → (v ∈ tr ↔ s.inn.getD (v - 1) false = true)) (hg : s.Good n) : St16 w b n s := ⟨⟨pl, tr, h1, h2, h3, h4⟩, hg⟩
theorem isV_eq (h : s.sc.length = n) (v : Int) : decide (0 < v ∧ v ≤ (n : Int)) = s.isV v := by unfold SP.isV; rw [h]
theorem rise_st (h : St16 w b n s) : Calls Try.prog 11 #[.pointer (some ⟨b.g, 0, none⟩)] w fun e w' => e = .returned (.int .i64 (s.rise : Nat)) ∧ w = w' := by
  obtain ⟨pl, tr, h1, _⟩ := h.ex
  exact rise_hp h1
theorem score_st (h : St16 w b n s) (v : Int) (h0 : -9223372036854775808 ≤ v ∧ v ≤ 9223372036854775807) : Calls Try.prog 14 #[.pointer (some ⟨b.g, 0, none⟩), .int .i64 v] w fun e w' => e = .returned (.int .i64 (s.score v : Nat)) ∧ w = w' := by
  obtain ⟨pl, tr, h1, _⟩ := h.ex
  have := score_hp h1 v h0
  rw [isV_eq h1.ls] at this
  exact this
theorem in_st (h : St16 w b n s) (v : Int) (h0 : -9223372036854775808 ≤ v ∧ v ≤ 9223372036854775807) : Calls Try.prog 15 #[.pointer (some ⟨b.g, 0, none⟩), .int .i64 v] w fun e w' => e = .returned (.bool (s.isIn v)) ∧ w = w' := by
  obtain ⟨pl, tr, h1, h2, h3, h4⟩ := h.ex
  have := in_hp h1 v h0
  rw [isV_eq h1.ls] at this
  have e : (s.isV v && decide (pl.getD (v.toNat - 1) 0 ≠ -1)) = s.isIn v := by
    unfold SP.isIn
    rcases hv : s.isV v with _ | _
    · rfl
    · rw [Bool.true_and, Bool.true_and]
      rw [SP.isV_iff, h1.ls] at hv
      have a1 := h2.in_iff (v := v.toNat) (by omega) (by omega)
      have a2 := h4 v.toNat (by omega) (by omega)
      rcases hi : s.inn.getD (v.toNat - 1) false with _ | _
      · rw [decide_eq_false]
        intro hh
        have := a2.1 (a1.1 hh)
        rw [hi] at this
        cases this
      · rw [decide_eq_true]
        exact a1.2 (a2.2 hi)
  rw [e] at this
  exact this
theorem len_st (h : St16 w b n s) : Calls Try.prog 16 #[.pointer (some ⟨b.g, 0, none⟩)] w fun e w' => e = .returned (.int .i64 (((List.range n).filter fun k => s.inn.getD k false).length : Nat)) ∧ w = w' := by
  obtain ⟨pl, tr, h1, h2, h3, h4⟩ := h.ex
  have := h2.count (fun v => s.inn.getD (v - 1) false) h4
  simp only [Nat.add_sub_cancel] at this
  rw [← this]
  exact len_hp h1
theorem first_st (h : St16 w b n s) : Calls Try.prog 12 #[.pointer (some ⟨b.g, 0, none⟩)] w fun e w' => e = .returned (.tuple #[.int .i64 (s.first : Nat), .bool (decide (s.first ≠ 0))]) ∧ w = w' := by
  obtain ⟨pl, tr, h1, h2, h3, h4⟩ := h.ex
  have := first_hp h1
  by_cases h0 : tr.length = 0
  · have e : s.first = 0 := by unfold SP.first; rw [h1.ls]; exact first_none h0 h4
    rw [e]
    rw [if_pos h0, show decide (tr.length ≠ 0) = false by simp [h0]] at this
    exact this
  · have e : s.first = tr.getD 0 0 := by unfold SP.first; rw [h1.ls]; exact first_root h3 (by omega) h2.rng h4
    have r0 := h2.rng 0 (by omega)
    rw [e]
    rw [if_neg h0, show decide (tr.length ≠ 0) = true by simp [h0]] at this
    rw [show decide (tr.getD 0 0 ≠ 0) = true by simp only [decide_eq_true_eq]; omega]
    exact this

set_option maxHeartbeats 2000000 in
theorem decay_st (h : St16 w b n s) : Calls Try.prog 18 #[.pointer (some ⟨b.g, 0, none⟩)] w fun e w' => e = .returned (.tuple #[]) ∧ St16 w' b n s.decay ∧ Ft b.foot w w' := by
  obtain ⟨pl, tr, h1, h2, h3, h4⟩ := h.ex
  have HG := Lib.hid h.good.decay
  have hrc := h.good.rc
  obtain ⟨q, hq⟩ : ∃ q : Nat, q = 16 * s.rise / 15 + 1 := ⟨_, rfl⟩
  have g3 := h1.g3
  have fg := h1.hg.frozen 3
  have HR := Lib.hid (h1.setR q (by omega))
  have HF := Lib.hid ((Ft.refl w).set (q := b.g) (F := b.foot) (fun _ => .inl rfl) 3 (.int .i64 (q : Nat)))
  have H2 := Lib.hid h2
  have H3 := Lib.hid h3
  have H4 := Lib.hid h4
  have e1 : (16 * (s.rise : Int)) / 15 + 1 = (q : Int) := by omega
  have e2 : Int.tdiv (16 * (s.rise : Int)) 15 = (q : Int) - 1 := by rw [Int.tdiv_eq_ediv_of_nonneg (by omega)]; omega
  have e2b : (16 * (s.rise : Int)) / 15 = (q : Int) - 1 := by omega
  have e3 : ((q : Int) - 1 + 1) = (q : Int) := by omega
  have w1 : IntKind.i64.wrap (16 * (s.rise : Int)) = 16 * (s.rise : Int) := i64_mid (by omega)
  have w2 : IntKind.i64.wrap ((q : Int) - 1) = (q : Int) - 1 := i64_mid (by omega)
  have w3 : IntKind.i64.wrap (q : Int) = (q : Int) := i64_mid (by omega)
  have g3' := HR.out.g3
  have HD : Hid (s.decay = if 1125899906842624 < q then s.rose.low else s.rose) := Lib.hid (by unfold SP.decay SP.rose; rw [← hq])
  have HQ : Hid (s.rose.rise = q) := Lib.hid hq.symm
  clear h h1 h2 h3 h4 hq
  by_cases hb : (1125899906842624 : Int) < (q : Int)
  · go_enter Try.func18, Try.ntmps18
    go_wp2_with fail
    refine (divide_hp HR.out H2.out).mono ?_
    rintro e w4 ⟨rfl, pl2, tr2, k1, k2, k3, k4, k5⟩
    have HD2 := HD.out
    rw [if_pos (by omega)] at HD2
    have HS4 : Hid (St16 w4 b n s.decay) := Lib.hid ⟨⟨pl2, tr2, by rw [HD2]; show HM w4 b n (s.sc.map (· / 1073741824)) pl2 tr2 (max (s.rose.rise / 1073741824) 1); rw [HQ.out]; exact k1, k2, by rw [HD2]; exact k3, fun v h1 h2 => by rw [HD2]; exact (k4.2 v).trans (H4.out v h1 h2)⟩, HG.out⟩
    have HF4 := Lib.hid (HF.out.trans k5 NewF.refl)
    clear HD2 k1 k2 k3 k4 k5
    go_wp2
    go_end0
    exact ⟨rfl, HS4.out, HF4.out⟩
  · go_enter Try.func18, Try.ntmps18
    go_wp2
    go_end0
    have HD2 := HD.out
    rw [if_neg (by omega)] at HD2
    exact ⟨rfl, ⟨⟨pl, tr, by rw [HD2]; show HM _ b n s.sc pl tr s.rose.rise; rw [HQ.out]; exact HR.out, H2.out, by rw [HD2]; exact H3.out, fun v h1 h2 => by rw [HD2]; exact H4.out v h1 h2⟩, HG.out⟩, HF.out⟩
end
end Go.Proofs.Ytnimmlfccgnneaa
