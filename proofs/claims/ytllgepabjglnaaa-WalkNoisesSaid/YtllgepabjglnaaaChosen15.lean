/- The statements' own choice of layer 15, and the example. -/
import Derived.Test.YtllgepabjglnaaaFit15
namespace Go.Proofs.Ytllgepabjglnaaa
open Go.RowKit
set_option linter.unusedVariables false
set_option linter.unusedSimpArgs false

theorem ftAlloc {F : Nat → Prop} {w w' : World} (h : Ft F w w') (o : Obj) : Ft F w (w'.alloc o) := h.low ((Below.refl _ _).alloc (Nat.le_refl _) _)
theorem ft3_15 (w : World) (g : Nat) (a b c : Value) : Ft (fun q => q = g) w (((w.setCell ⟨g, 0, none⟩ a).setCell ⟨g, 1, none⟩ b).setCell ⟨g, 2, none⟩ c) :=
  (((Ft.refl (F := fun q => q = g) w).set (q := g) (fun _ => rfl) _ _).set (q := g) (fun _ => rfl) _ _).set (q := g) (fun _ => rfl) _ _
theorem blk3_15 {w : World} {g : Nat} {t : TypeId} {x y z : Value} (h : Blk w g t #[x, y, z]) (a b c : Value) : Blk (((w.setCell ⟨g, 0, none⟩ a).setCell ⟨g, 1, none⟩ b).setCell ⟨g, 2, none⟩ c) g t #[a, b, c] := by
  have := ((h.set_ 0 a).set_ 1 b).set_ 2 c
  simpa using this
set_option maxRecDepth 100000 in
set_option maxHeartbeats 4000000 in
theorem chosen_any15 {w : World} {Bs r d M n cA : Nat} {sg : Sg} {y : Wy} {A : Option Addr} {bs : List Int} (hown : w.ownsRow M 3 1 (.slice A n cA) n (bs.map (Value.int .i64))) (hbn : bs.length = n) (hn0 : 0 < n) (hn : n ≤ 1000) (hb0 : ∀ j, 0 ≤ bs.getD j 0)
    (hne : ∀ q, (Value.slice A n cA).ownBlock = some q → ¬ q = r) (hs : Strm w Bs r sg.ws sg.last d) (hd : d ≤ 900000) (hy : y.Ok) :
    Calls Try.prog 21 #[.slice A n cA, wayV y, .pointer (some ⟨r, 0, none⟩)] w fun e w' => e = .returned (.int .i64 ((chooseF y bs sg).1 : Nat)) ∧ Strm w' Bs r (sg.adv (chooseF y bs sg).2).ws (sg.adv (chooseF y bs sg).2).last (d + (chooseF y bs sg).2) ∧ Ft (fun q => q = r) w w' := by
  cases y with
  | tab e b0 =>
    have hok : OkB e b0 := hy
    obtain ⟨w1, hw1⟩ : ∃ w1, w1 = w.alloc (Obj.cells #[Value.int .i64 (kindI e), Value.int .i64 (b0 : Nat), Value.int .i64 0] 41) := ⟨_, rfl⟩
    have hb1 : Below w.heap.size w w1 := by rw [hw1]; exact (Below.refl _ _).alloc (Nat.le_refl _) _
    have hfa := fallI_of (e := e) (b := b0) (xs := bs) (by omega) sg.next
    obtain ⟨jf, hjf⟩ : ∃ jf, fallI e b0 bs (sg.next % sumW e b0 bs) = jf := ⟨_, rfl⟩
    have HJF : Hid (chooseF (.tab e b0) bs sg = (jf, 1)) := Lib.hid (by rw [chooseF_tab, hjf])
    rw [hjf] at hfa
    have HTN := Lib.hid (tab_new hok w1)
    have HNX := Lib.hid (fun w2 (h2 : Below w1.heap.size w1 w2) => rng_next ((hs.below hb1 hs.lt).below (w' := w2) h2 (Nat.lt_of_lt_of_le hs.lt hb1.size)) (by omega))
    have hnx : nextOf sg.ws sg.last = sg.next := rfl
    rw [hnx] at HNX
    have hnl : sg.next < 2 ^ 64 := next_lt hs
    have hrl := hs.lt
    have HPK : Hid (∀ w2 w3 gt, Below w1.heap.size w1 w2 → w1.heap.size ≤ gt → Tab w2 gt e b0 → Ft (fun q => q = r) w2 w3 → Calls Try.prog 41 #[.pointer (some ⟨gt, 0, none⟩), .slice A n cA, .int .u64 (sg.next : Nat)] w3 fun v w' => v = .returned (.int .i64 (jf : Nat)) ∧ w3 = w') := Lib.hid fun w2 w3 gt h2 hg ht hf => by
      have ho := hf.own (own_below (own_below hown hb1 fun q hq => (hown.lt q hq).2) h2 fun q hq => Nat.lt_of_lt_of_le (hown.lt q hq).2 hb1.size) hne
      have := tab_pick (c := cA) (hf.blk ht fun e => by have := hb1.size; omega) hok (ints_own15 ho hbn) (by omega) (by omega) sg.next hnl hfa
      rw [hbn] at this
      exact this
    have HB1 := Lib.hid hb1
    obtain ⟨xn, hxn⟩ : ∃ xn, sg.next = xn := ⟨_, rfl⟩
    rw [hxn] at HNX HPK
    have hk : (Wy.kind (.tab e b0) : Int) = kindI e := by cases e <;> rfl
    have hk2 : kindI e < 2 := by cases e <;> simp [kindI]
    unfold wayV
    rw [hk]
    change Calls _ _ #[_, .agg #[.int .i64 (kindI e), .int .i64 (b0 : Nat), .int .i64 0], _] _ _
    obtain ⟨ke, hke⟩ : ∃ ke, kindI e = ke := ⟨_, rfl⟩
    rw [hke] at HTN hk2 hw1 ⊢
    clear hk hke hown hne hs hfa hjf hnx hnl hxn hb1 hy hok
    go_enter Try.func21, Try.ntmps21
    go_wp2_with fail
    rw [← hw1]
    clear hw1
    refine HTN.out.mono ?_
    rintro v w2 ⟨gt, rfl, h1, h2, h3⟩
    have HX2 := Lib.hid (HNX.out w2 h3)
    have HP2 := Lib.hid (fun w3 hf => HPK.out w2 w3 gt h3 h1 h2 hf)
    have HB2 : Hid (Ft (fun q => q = r) w w2) := Lib.hid (Ft.of_below (HB1.out.trans (h3.mono HB1.out.size)))
    clear h1 h2 h3 HNX HPK HTN
    go_wp2_with fail
    refine HX2.out.mono ?_
    rintro v w3 ⟨rfl, hs3, ho3⟩
    have HS3 := Lib.hid (And.intro hs3 (HB2.out.trans ho3.ft NewF.refl))
    have HP3 := Lib.hid (HP2.out w3 ho3.ft)
    clear hs3 ho3 HX2 HP2
    go_wp2_with fail
    refine HP3.out.mono ?_
    rintro v w4 ⟨rfl, rfl⟩
    go_wp2
    go_ret
    rw [HJF.out]
    exact ⟨rfl, HS3.out.1, HS3.out.2⟩
  | noise nz =>
    have hnz : nz ≤ 1000 := hy
    obtain ⟨w1, hw1⟩ : ∃ w1, w1 = w.alloc (Obj.cells #[Value.int .i64 2, Value.int .i64 0, Value.int .i64 (nz : Nat)] 41) := ⟨_, rfl⟩
    have hb1 : Below w.heap.size w w1 := by rw [hw1]; exact (Below.refl _ _).alloc (Nat.le_refl _) _
    have hk1 : Blk w1 w.heap.size 41 #[Value.int .i64 2, Value.int .i64 0, Value.int .i64 (nz : Nat)] := by rw [hw1]; exact Blk.new w _ _
    have ho1 := own_below hown hb1 fun q hq => (hown.lt q hq).2
    obtain ⟨ga, eA, _, _⟩ := own_addr hown hn0
    have hga : ¬ ga = r := hne ga (by rw [eA]; rfl)
    have hcell : ∀ j, j < n → w1.cell? ⟨ga, j, none⟩ = some (.int .i64 (bs.getD j 0)) := fun j hj => by
      rw [eA] at ho1
      have := World.ownsRow.cellAt ho1 j (by omega)
      rw [this]
      simp [List.getD, show j < bs.length by omega]
    have hs1 := hs.below hb1 hs.lt
    have hrl := hs.lt
    have HC := Lib.hid hcell
    have HK1 := Lib.hid hk1
    have HB1 := Lib.hid hb1
    have HS1 := Lib.hid hs1
    have HBN := Lib.hid hbn
    have HN0 : Hid (∀ h, chooseF (.noise nz) bs sg = (leastTo bs n, 0)) := Lib.hid fun h => by have := chooseF_n0 (n := nz) (bs := bs) sg (by rw [hbn]; exact h); rw [hbn] at this; exact this
    have HN1 : Hid (∀ h h2, chooseF (.noise nz) bs sg = (leastTo bs n, 1)) := Lib.hid fun h h2 => by have := chooseF_n1 (n := nz) (bs := bs) (g := sg) (by rw [hbn]; exact h) h2; rw [hbn] at this; exact this
    have HN2 : Hid (∀ h h2, chooseF (.noise nz) bs sg = (sg.after.next % n, 2)) := Lib.hid fun h h2 => by have := chooseF_n2 (n := nz) (bs := bs) (g := sg) (by rw [hbn]; exact h) h2; rw [hbn] at this; exact this
    have hsz1 : w1.heap.size = w.heap.size + 1 := by rw [hw1]; simp
    subst eA
    clear hown hne hs hb1 hk1 ho1 hcell hs1 hbn hy
    unfold wayV
    change Calls _ _ #[_, .agg #[.int .i64 2, .int .i64 0, .int .i64 (nz : Nat)], _] _ _
    go_enter Try.func21, Try.ntmps21
    go_wp2
    rw [← hw1]
    clear hw1
    go_loopg [7, 23] (n + 1) (fun gk tb ti wr => ∃ (j m nq : Nat), wr = w1.drewN nq ∧ j ≤ n ∧ gk = n - j + 1 ∧ ti = .int .i64 (j : Nat) ∧ tb = .int .i64 (m : Nat) ∧ Hid (m = leastTo bs j))
    case atStart => exact ⟨0, 0, 0, rfl, by omega, by omega, rfl, rfl, Lib.hid rfl⟩
    case round =>
      obtain ⟨j, m, nq, rfl, hj, rfl, rfl, rfl, HM⟩ := hrel
      by_cases hlt : j < n
      · have hml : m < n := by
          rw [HM.out]
          rcases Nat.eq_zero_or_pos j with h | h
          · rw [h]; exact hn0
          · have := leastTo_lt bs j h; omega
        have c1 := HC.out j hlt
        have c2 := HC.out m hml
        have hnx : leastTo bs (j + 1) = if bs.getD j 0 < bs.getD m 0 then j else m := by rw [HM.out]; rfl
        obtain ⟨x, hx⟩ : ∃ x, bs.getD j 0 = x := ⟨_, rfl⟩
        obtain ⟨y, hy⟩ : ∃ y, bs.getD m 0 = y := ⟨_, rfl⟩
        rw [hx] at c1 hnx
        rw [hy] at c2 hnx
        have hjn : (j : Int) < (n : Int) := by omega
        have hmn : (m : Int) < (n : Int) := by omega
        clear hx hy
        by_cases hxy : x < y
        · rw [if_pos hxy] at hnx
          have HNX := Lib.hid hnx
          clear hnx
          go_wp2_with fail
          go_quiet (fail)
          go_wp2
          go_roundg (n - j)
          case measure => omega
          case rel => exact ⟨j + 1, j, _, rfl, by omega, by omega, by go_num, rfl, Lib.hid HNX.out.symm⟩
        · rw [if_neg hxy] at hnx
          have HNX := Lib.hid hnx
          have hxyF : decide (x < y) = false := decide_eq_false hxy
          clear hnx
          go_wp2_with fail
          go_quiet (fail)
          go_wp2
          go_roundg (n - j)
          case measure => omega
          case rel => exact ⟨j + 1, m, _, rfl, by omega, by omega, by go_num, rfl, Lib.hid HNX.out.symm⟩
      · have hjn : n = j := by omega
        subst hjn
        have hml : m < n := by rw [HM.out]; exact leastTo_lt bs n hn0
        have cm := HC.out m hml
        have hN0 := HN0.out
        have hN1 := HN1.out
        have hN2 := HN2.out
        rw [← HM.out] at hN0 hN1 hN2
        obtain ⟨bm, hbm⟩ : ∃ bm, bs.getD m 0 = bm := ⟨_, rfl⟩
        rw [hbm] at cm hN0 hN1 hN2
        have hmn : (m : Int) < (n : Int) := by omega
        have hbm0 : 0 ≤ bm := by rw [← hbm]; exact hb0 m
        obtain ⟨wy, hwy⟩ : ∃ wy, wy = w1.drewN nq := ⟨_, rfl⟩
        have hcy : wy.cell? ⟨ga, m, none⟩ = some (.int .i64 bm) := by rw [hwy]; exact cm
        have hky : Blk wy w.heap.size 41 #[Value.int .i64 2, Value.int .i64 0, Value.int .i64 (nz : Nat)] := by rw [hwy]; exact HK1.out
        have hsy : Strm wy Bs r sg.ws sg.last d := by rw [hwy]; exact HS1.out.below (B' := w1.heap.size) (below_drewN (Below.refl _ _) nq) (by omega)
        have hfy : Ft (fun q => q = r) w wy := by rw [hwy]; exact (Ft.of_below HB1.out).drewN nq
        have hszy : wy.heap.size = w.heap.size + 1 := by rw [hwy]; exact hsz1
        rw [← hwy]
        have c2 := hky.cell 2
        simp at c2
        clear hwy cm hbm
        have HFY := Lib.hid (And.intro hfy hsy)
        by_cases hpos : 0 < bm
        · have hz0 : (bm == 0) = false := by simp; omega
          have hsyd : Strm wy.drew Bs r sg.ws sg.last d := hsy.below (B' := wy.heap.size) (Below.refl _ _).drew hsy.lt
          have HBL := Lib.hid (rng_below hsyd (by omega) 1000 (by omega) (by omega))
          have hnx : nextOf sg.ws sg.last = sg.next := rfl
          rw [hnx] at HBL
          have hc3 : ∀ w3, Ft (fun q => q = r) wy w3 → w3.cell? ⟨w.heap.size, 2, none⟩ = some (.int .i64 (nz : Nat)) := fun w3 hf => by
            have := hf.blk hky (by omega)
            rw [this.cell]; rfl
          have HC3 := Lib.hid hc3
          have HC0 := Lib.hid c2
          obtain ⟨x, hx⟩ : ∃ x, sg.next % 1000 = x := ⟨_, rfl⟩
          rw [hx] at HBL hN1 hN2
          clear hN0 hx hnx hsyd hky hsy hfy hc3
          by_cases hch : x < nz
          · have HR := Lib.hid (hN2 hpos hch)
            have hchI : (x : Int) < (nz : Int) := by omega
            have HBL2 : Hid (∀ w3, Strm w3 Bs r sg.after.ws sg.after.last (d + 1) → Calls Try.prog 19 #[.pointer (some ⟨r, 0, none⟩), .int .i64 (n : Nat)] w3 fun e w' => e = .returned (.int .i64 ((sg.after.next % n : Nat) : Int)) ∧ Strm w' Bs r (sg.adv 2).ws (sg.adv 2).last (d + 2) ∧ Only r w3 w') := Lib.hid fun w3 h3 => rng_below h3 (by omega) n (by omega) (by omega)
            obtain ⟨xr, hxr⟩ : ∃ xr, sg.after.next % n = xr := ⟨_, rfl⟩
            rw [hxr] at HR HBL2
            clear hN1 hN2 hxr
            go_wp2_with fail
            go_region_held3 (fun w' => w'.cell? ⟨w.heap.size, 2, none⟩ = some (.int .i64 (nz : Nat))) (first | exact HC0.out | exact HCX.out)
              (first | (go_at_call 19; refine HBL.out.mono ?_; rintro e w3 ⟨rfl, hs3, ho3⟩; have HF3 := Lib.hid (((Ft.refl (F := fun q => q = r) wy).drew).trans ho3.ft NewF.refl); have HCX := Lib.hid (HC3.out w3 HF3.out); have HS3 := Lib.hid hs3; clear hs3 ho3))
            all_goals
              go_wp2_with fail
              refine (HBL2.out _ HS3.out).mono ?_
              rintro e w4 ⟨rfl, hs4, ho4⟩
              have HS4 := Lib.hid (And.intro hs4 (HFY.out.1.trans (HF3.out.trans ho4.ft NewF.refl) NewF.refl))
              clear hs4 ho4
              go_wp2
              go_ret
              rw [HR.out]
              exact ⟨rfl, HS4.out.1, HS4.out.2⟩
          · have HR := Lib.hid (hN1 hpos hch)
            have hchI : decide ((x : Int) < (nz : Int)) = false := decide_eq_false (by omega)
            clear hN1 hN2
            go_wp2_with fail
            go_region_held3 (fun w' => w'.cell? ⟨w.heap.size, 2, none⟩ = some (.int .i64 (nz : Nat))) (first | exact HC0.out | exact HCX.out)
              (first | (go_at_call 19; refine HBL.out.mono ?_; rintro e w3 ⟨rfl, hs3, ho3⟩; have HF3 := Lib.hid (((Ft.refl (F := fun q => q = r) wy).drew).trans ho3.ft NewF.refl); have HCX := Lib.hid (HC3.out w3 HF3.out); have HS3 := Lib.hid hs3; clear hs3 ho3))
            all_goals
              go_wp2
              go_ret
              rw [HR.out]
              exact ⟨rfl, HS3.out, HFY.out.1.trans HF3.out NewF.refl⟩
        · have hbz : bm = 0 := by omega
          have HR := Lib.hid (hN0 (by omega))
          subst hbz
          clear hN0 hN1 hN2
          go_wp2
          go_ret
          rw [HR.out]
          exact ⟨rfl, HFY.out.2, HFY.out.1⟩
/-- a clause of one literal that doesn't hold: a step turns its variable, and nothing is left -/
theorem unit_step15 {y : Wy} {c : Cfg} {l : Int} (hg : c.s.Good c.z.length) (ha : c.s.At c.z) (hc : c.s.cls = [[l]]) (hl : hol c.z l = false) (h0 : l ≠ 0) (hn : l.natAbs ≤ c.z.length) :
    c.s.row ≠ [] ∧ (stepV y c).1 = litVar l ∧ ∀ s' : LS, s'.Good c.z.length → s'.At (turnV c.z (litVar l)) → s'.cls = [[l]] → s'.row = [] := by
  have hu : unsN [[l]] c.z = 1 := by
    unfold unsN
    simp [clauseSat_hol, hl]
  have hr := row_uns hg ha
  rw [hc, hu] at hr
  have hne : c.s.row ≠ [] := fun e => by rw [e] at hr; cases hr
  obtain ⟨i, hi⟩ : ∃ i, c.s.row = [i] := List.length_eq_one_iff.1 hr
  have him : i = 0 := by
    have := ((hg.rmem i).1 (by rw [hi]; simp)).1
    rw [hc] at this
    simpa using this
  have hcl : c.clause = [l] := by
    unfold Cfg.clause
    rw [hi, hc, him]
    simp [Nat.mod_one]
  refine ⟨hne, ?_, fun s' hg' ha' hc' => ?_⟩
  · unfold stepV
    rw [if_neg hne, hcl, if_neg (by simp)]
    have := chooseF_lt y (bs := breaksOf c.s c.z.length [l]) (by simp [breaksOf]) c.g.after
    rw [breaksOf_len] at this
    have h1 : (chooseF y (breaksOf c.s c.z.length [l]) c.g.after).1 = 0 := by simp at this; omega
    rw [h1]
    rfl
  · have hr' := row_uns (z := turnV c.z (litVar l)) (by rw [turnV_len]; exact hg') ha'
    have hlv : litVar l = (l.natAbs : Int) := by unfold litVar; split <;> omega
    have ht : hol (turnV c.z (litVar l)) l = true := by
      unfold turnV
      rw [hlv, if_pos (by omega), Int.toNat_natCast, hol_turn (by omega) hn h0 hn, if_pos rfl, hl]
      rfl
    have hu' : unsN [[l]] (turnV c.z (litVar l)) = 0 := by
      unfold unsN
      simp [clauseSat_hol, ht]
    rw [hc', hu'] at hr'
    exact List.eq_nil_of_length_eq_zero hr'
theorem flipV_spec {s : LS} {z : List Bool} (hg : s.Good z.length) (ha : s.At z) (v : Int) : (flipV s z v).Good z.length ∧ (flipV s z v).At (turnV z v) ∧ (flipV s z v).cls = s.cls := by
  unfold flipV turnV
  by_cases hc : 1 ≤ v ∧ v ≤ z.length
  · rw [if_pos hc, if_pos hc]
    obtain ⟨g1, g2, g3⟩ := flip_spec hg ha (v := v.toNat) (by omega) (by omega)
    rw [turn_len] at g1
    exact ⟨g1, g3, g2⟩
  · rw [if_neg hc, if_neg hc]
    exact ⟨hg, ha, rfl⟩
theorem unit_run15 {y : Wy} {c : Cfg} {l : Int} (hg : c.s.Good c.z.length) (ha : c.s.At c.z) (hc : c.s.cls = [[l]]) (hl : hol c.z l = false) (h0 : l ≠ 0) (hn : l.natAbs ≤ c.z.length) (n : Nat) :
    runF y (n + 1) c = (1, (stepV y c).2, stepC y c) ∧ (stepC y c).s.row = [] := by
  obtain ⟨h1, h2, h3⟩ := unit_step15 (y := y) hg ha hc hl h0 hn
  have hf := flipV_spec hg ha (litVar l)
  have hrow : (stepC y c).s.row = [] := by
    show (flipV c.s c.z (stepV y c).1).row = []
    rw [h2]
    exact h3 _ hf.1 hf.2.1 (hf.2.2.trans hc)
  refine ⟨?_, hrow⟩
  rw [runF_succ y n h1, runF_end y n hrow]
  simp
theorem fit_norm15 : normForm [[1]] = [[1]] := by decide
set_option maxRecDepth 100000 in
set_option maxHeartbeats 4000000 in
theorem fit_any15 (w : World) : Calls Try.prog 9 #[] w fun e w' => e = .returned (.bool true) ∧ Below w.heap.size w w' := by
  obtain ⟨w4, hw4⟩ : ∃ w4, w4 = (((w.alloc (Obj.cells #[Value.int IntKind.i64 1] 3)).alloc (Obj.cells #[Value.slice (some ⟨w.heap.size, 0, none⟩) 1 1] 48)).alloc (Obj.cells #[Value.bool false] 4)) := ⟨_, rfl⟩
  have b1 : Blk w4 w.heap.size 3 (([1] : List Int).map (Value.int .i64)).toArray := by rw [hw4]; exact ((Blk.new w _ _).alloc _).alloc _
  have b3 : Blk w4 (w.heap.size + 1) 48 ([Value.slice (some ⟨w.heap.size, 0, none⟩) 1 1] : List Value).toArray := by rw [hw4]; exact (blk_new14 (by simp)).alloc _
  have b4 : BlkB w4 (w.heap.size + 1 + 1) 4 [false] := by rw [hw4]; exact blk_new14 (by simp)
  have hs : w4.heap.size = w.heap.size + 1 + 1 + 1 := by rw [hw4]; simp
  have hb : Below w.heap.size w w4 := by rw [hw4]; exact (((Below.refl _ _).alloc (Nat.le_refl _) _).alloc (by simp) _).alloc (by simp; omega) _
  have hR : Rows w4 w4.heap.size (some ⟨w.heap.size + 1, 0, none⟩) [[1]] := rows_blk4 b3 (by omega) fun j hj => by
    obtain rfl : j = 0 := by simp at hj; omega
    exact ⟨_, 1, rfl, ints_blk4 b1 (by omega)⟩
  have hlf : LightForm 1 [[1]] := ⟨by decide, by decide, by decide⟩
  have HN := Lib.hid (rng_new (w := w4) (B := 0) (A := none) (c := 0) (ws := []) ⟨Cells.nil_, Nat.le_refl _, by simp, by simp⟩ (Nat.zero_le _) 1 (by decide))
  have HWK := Lib.hid (fun (w5 : World) (b5 : Nat) (sg : Sg) (h1 : Strm w5 w4.heap.size b5 sg.ws sg.last 0) (h2 : Below w4.heap.size w4 w5) => walk_any15 1 [[1]] [false] w5.heap.size w4.heap.size b5 (some ⟨w.heap.size + 1, 0, none⟩) (some ⟨w.heap.size + 1 + 1, 0, none⟩) 1 1 w5 (y := .noise 0) (sg := sg) 5 (by omega) (by decide) hlf (Rows.more (hR.below h2) h2.size) (by have := BlkB.bools (show BlkB w5 (w.heap.size + 1 + 1) 4 [false] from Blk.below b4 h2 (by omega)); exact this) (Nat.le_refl _) rfl h1 (Nat.zero_le _))
  have HW := Lib.hid hw4
  have HB := Lib.hid hb
  have HRT := Lib.hid (fun k b n W => wright_any15 k b n W)
  clear b1 b3 b4 hs hR hw4 hb hlf
  go_enter Try.func9, Try.ntmps9
  go_wp2_with fail
  rw [← HW.out]
  refine HN.out.mono ?_
  rintro e w5 ⟨b5, rfl, hs5, hb5⟩
  have HS5 := Lib.hid (HWK.out w5 b5 ⟨[], seedOf 1⟩ hs5 hb5)
  have HB5 := Lib.hid (HB.out.trans (hb5.mono HB.out.size))
  have hlow := hs5.low
  have hb5l := hs5.lt
  have hbs := HB.out.size
  clear hs5 hb5 HN HWK
  go_wp2_with fail
  refine HS5.out.mono ?_
  rintro e w6 ⟨A6, c6, few, z', rfl, hp⟩
  obtain ⟨q1, q2⟩ := unit_run15 (y := .noise 0) (c := ⟨[false], startLS [false] (normForm [[1]]), ⟨[], seedOf 1⟩⟩) (l := 1) hp.g0.1 hp.g0.2.1 (hp.g0.2.2.trans fit_norm15) (by decide) (by decide) (by decide) 4
  have hst : (runF (.noise 0) (Int.toNat 5) ⟨[false], startLS [false] (normForm [[1]]), ⟨[], seedOf 1⟩⟩).1 = 1 := by
    show (runF (.noise 0) (4 + 1) _).1 = 1
    rw [q1]
  have hfe : few = 0 := by
    have := hp.last
    change few ≤ (runF (.noise 0) (4 + 1) _).2.2.s.row.length at this
    rw [q1] at this
    change few ≤ (stepC _ _).s.row.length at this
    rw [q2] at this
    simpa using this
  have hzl : z'.length = 1 := by have := hp.own.1; simpa using this
  obtain ⟨x, hx⟩ : ∃ x, z' = [x] := List.length_eq_one_iff.1 hzl
  subst hx
  have hxt : x = true := by
    have := hp.bst
    rw [hfe, fit_norm15] at this
    cases x
    · exact absurd this (by decide)
    · rfl
  subst hxt hfe
  rw [hst]
  have hown := hp.own
  obtain ⟨a6, rfl, ha6, _⟩ := own_addr hown (by decide)
  have c60 := World.ownsRow.cellAt hown 0 (by decide)
  simp at c60
  have HB6 : Hid (Below w.heap.size w w6) := Lib.hid (HB5.out.trans ((hp.ft.below (B := w4.heap.size) (by omega) fun q hq => by omega).mono hbs))
  have hasz := (hown.lt a6 rfl).2
  clear q1 q2 hst hzl hown hp
  go_wp2_with fail
  refine (HRT.out 2 0 0 _).mono ?_
  rintro e w7 ⟨rfl, hb7⟩
  have HB7 := Lib.hid hb7
  clear hb7
  rw [show rightW 2 0 0 = true from rfl]
  go_wp2_with fail
  refine (HRT.out 3 0 0 _).mono ?_
  rintro e w8 ⟨rfl, hb8⟩
  have HB8 := Lib.hid (HB7.out.trans (hb8.mono HB7.out.size))
  clear hb8
  rw [show rightW 3 0 0 = false from rfl]
  go_wp2
  go_ret
  exact ⟨rfl, (HB6.out.alloc HB6.out.size _).trans (HB8.out.mono (by simp; have := HB6.out.size; omega))⟩
end Go.Proofs.Ytllgepabjglnaaa
