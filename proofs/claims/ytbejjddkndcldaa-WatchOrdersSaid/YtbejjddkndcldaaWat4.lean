/- What the propagator's own calls do: examine. -/
import Derived.Test.YtbejjddkndcldaaWat3
import Derived.Deep.DeepCutAuto
namespace Go.Proofs.Ytbejjddkndcldaa
open Go.RowKit
set_option linter.unusedVariables false
set_option linter.unusedSimpArgs false

section
variable {w : World} {base : Nat} {px : Px} {N : Nat} {G : Nat → Prop} {cs : List Cl} {t : TS} {s : WS} {hd : Nat → Value}
/-- the marks of a list, cell by cell -/
theorem Ob.mark (h : Ob w base px N G cs t s hd) {a q n c i : Nat} {m : Mk} (ha : a < 2 * N) (hq : hd a = .slice (some ⟨q, 0, none⟩) n c) (hm : (s.ms a)[i]? = some m) :
    w.cell? ⟨q, i * 3, none⟩ = some (.int .i64 m.ref) ∧ w.cell? ⟨q, i * 3 + 1, none⟩ = some (.int .i64 m.oth) ∧ w.cell? ⟨q, i * 3 + 2, none⟩ = some (.int .i64 (m.nxt : Nat)) ∧ q < w.heap.size ∧ (∀ j, w.frozen? ⟨q, j, none⟩ = false) ∧ n = (s.ms a).length ∧ w.ownsRow 0 106 3 (.slice (some ⟨q, 0, none⟩) n c) n (mksV (s.ms a)) := by
  obtain ⟨FW, hw⟩ := h.wm
  obtain ⟨A, c', e, ho⟩ := hw.rows a ha
  rw [hq] at e
  injection e with e1 e2 e3
  subst e1 e2 e3
  have hi := (List.getElem?_eq_some_iff.1 hm).1
  have k0 := mksV_at (s.ms a) i 0 m hm (by omega)
  have k1 := mksV_at (s.ms a) i 1 m hm (by omega)
  have k2 := mksV_at (s.ms a) i 2 m hm (by omega)
  refine ⟨?_, ?_, ?_, (ho.lt q rfl).2, fun j => World.ownsRow.frozenAt ho j, rfl, ho⟩
  · rw [World.ownsRow.cellAt ho (i * 3) (by omega)]; exact k0
  · rw [World.ownsRow.cellAt ho (i * 3 + 1) (by omega)]; exact k1
  · rw [World.ownsRow.cellAt ho (i * 3 + 2) (by omega)]; exact k2
theorem own3_put {w : World} {base e L n c s : Nat} {xs : List Value} (h : w.ownsRow base e s (.slice (some ⟨L, 0, none⟩) n c) n xs) (j : Nat) (u : Value) : (w.setCell ⟨L, j, none⟩ u).ownsRow base e s (.slice (some ⟨L, 0, none⟩) n c) n (xs.set j u) := by
  refine ⟨by rw [List.length_set]; exact h.1, ?_⟩
  rcases h.2 with ⟨h', _⟩ | ⟨g', cap', cur, h', hb, hg, hnc, hm, hs, htake⟩
  · simp at h'
  · simp only [Value.slice.injEq, Option.some.injEq, Addr.mk.injEq, and_true, true_and] at h'
    obtain ⟨rfl, rfl⟩ := h'
    refine .inr ⟨L, c, cur.setIfInBounds j u, rfl, hb, Blk.set_ hg j u, hnc, hm, by simpa using hs, ?_⟩
    rw [← htake, Array.toList_setIfInBounds, List.take_set]
/-- a mark's other literal is set -/
theorem Ob.setOth (h : Ob w base px N G cs t s hd) {a q n c i : Nat} {m : Mk} (ha : a < 2 * N) (hq : hd a = .slice (some ⟨q, 0, none⟩) n c) (hm : (s.ms a)[i]? = some m) (o : Int) :
    Ob (w.setCell ⟨q, i * 3 + 1, none⟩ (.int .i64 o)) base px N G cs t { s with ms := fun j => if j = a then (s.ms a).set i ⟨m.ref, o, m.nxt⟩ else s.ms j } hd ∧ St G G w (w.setCell ⟨q, i * 3 + 1, none⟩ (.int .i64 o)) := by
  refine h.same fun FW hw => ?_
  obtain ⟨_, _, _, _, _, hn, ho⟩ := h.mark ha hq hm
  refine hw.rowset ha hq (grown_setCell w ⟨q, i * 3 + 1, none⟩ _) (xs := (s.ms a).set i ⟨m.ref, o, m.nxt⟩) (by simp [hn]) ?_ (fun j => rfl) rfl rfl rfl rfl
  have := own3_put ho (i * 3 + 1) (.int .i64 o)
  rw [mksV_set (s.ms a) i 1 m ⟨m.ref, o, m.nxt⟩ hm (by omega) _ rfl] at this
  exact this
theorem Ob.setVis (h : Ob w base px N G cs t s hd) (v : Nat) : Ob (w.setCell ⟨px.gW, 7, none⟩ (.int .i64 (v : Nat))) base px N G cs t { s with vis := v } hd ∧ St G G w (w.setCell ⟨px.gW, 7, none⟩ (.int .i64 (v : Nat))) :=
  h.same fun FW hw => hw.setW 7 _ (fun _ _ _ _ => rfl) rfl rfl rfl
theorem Ob.setHead (h : Ob w base px N G cs t s hd) (v : Nat) : Ob (w.setCell ⟨px.gW, 5, none⟩ (.int .i64 (v : Nat))) base px N G cs t { s with head := v } hd ∧ St G G w (w.setCell ⟨px.gW, 5, none⟩ (.int .i64 (v : Nat))) :=
  h.same fun FW hw => hw.setW 5 _ (fun _ _ _ _ => rfl) rfl rfl rfl
theorem Ob.size (h : Ob w base px N G cs t s hd) : px.gW < w.heap.size := by
  obtain ⟨FW, hw⟩ := h.wm
  exact hw.cells.2.2.2

/-- what examine does -/
def Exam (w : World) (base : Nat) (px : Px) (N : Nat) (G : Nat → Prop) (a i : Nat) (l : Int) (m : Mk) (cl : Cl) (cs : List Cl) (t : TS) (s : WS) (hd : Nat → Value) (e : Ending) (w' : World) : Prop :=
  ∃ (z : Int) (cs' : List Cl) (t' : TS) (s' : WS) (G' : Nat → Prop) (hd' : Nat → Value), e = .returned (.int .i64 z) ∧ Ex a i l m cl cs t s z cs' t' s' ∧ Ob w' base px N G' cs' t' s' hd' ∧ St G G' w w' ∧ hd' a = hd a

set_option maxHeartbeats 4000000 in
set_option maxRecDepth 100000 in
theorem examine_any (h : Ob w base px N G cs t s hd) (hB : base ≤ w.heap.size) (hg : t.Good) {a q n c i : Nat} {l : Int} {m : Mk} {cl : Cl} (hl : l ≠ 0 ∧ l.natAbs ≤ N) (ha : a = (litIndex l).toNat) (hq : hd a = .slice (some ⟨q, 0, none⟩) n c) (hm : (s.ms a)[i]? = some m)
    (hc : at? cs m.ref = some cl) (hw2 : W2 cl.lits l) (hnd : cl.lits.Nodup) (ho : m.oth = 0 ∨ m.oth ∈ cl.lits) (hn2 : 2 ≤ m.nxt) (hnl : m.nxt = 2 ∨ m.nxt ≤ cl.lits.length)
    (ht : total cs ≤ 1099511627776) (hN : N ≤ 100000) (hls : ∀ x ∈ cl.lits, x ≠ 0 ∧ x.natAbs ≤ N) (hms : ∀ i, i < 2 * N → (s.ms i).length ≤ 1000000) (hvis : s.vis ≤ 1099511627776) (hneg : valT t.recs l = -1) :
    Calls Try.prog 75 #[.pointer (some ⟨px.gW, 0, none⟩), .pointer (some ⟨q, i * 3, none⟩), .int .i64 l] w (Exam w base px N G a i l m cl cs t s hd) := by
  have ha2 : a < 2 * N := ha ▸ idx_lt hl
  obtain ⟨m0, m1, m2, hqs, hqf, hnn, hrow⟩ := h.mark ha2 hq hm
  have f0 := fun n os => (h.cell n os).1
  have f1 := fun n os => (h.cell n os).2
  have hkeep : ∀ (n : Nat) (os : Array Obj) (j : Nat), (Go.Sort.grow (w.drewN n) os).cell? ⟨q, j, none⟩ = w.cell? ⟨q, j, none⟩ := fun n os j => Go.Sort.cell?_grow (w.drewN n) os _ (by show q < _; exact hqs)
  have g1 : ∀ n os, (Go.Sort.grow (w.drewN n) os).cell? ⟨q, i * 3 + 1, none⟩ = some (.int .i64 m.oth) := fun n os => by rw [hkeep]; exact m1
  have hob0 : -100000 ≤ m.oth ∧ m.oth ≤ 100000 := by
    rcases ho with e | e
    · omega
    · have := hls _ e; omega
  have CV0 := Lib.hid (fun n os => gr_drew (value_any ((h.gr (grow_gr w n os)).tr hg) m.oth (by omega)))
  obtain ⟨z0, hz0⟩ : ∃ z0, valT t.recs m.oth = z0 := ⟨_, rfl⟩
  rw [hz0] at CV0
  have H := Lib.hid h
  have HZ0 := Lib.hid hz0
  have HC := Lib.hid hc
  have HG := Lib.hid hg
  have HQ := Lib.hid hq
  have HM := Lib.hid hm
  have HLS := Lib.hid hls
  have HMS := Lib.hid hms
  have HQS := Lib.hid hqs
  have HNL := Lib.hid (And.intro hn2 hnl)
  have HW2 := Lib.hid (And.intro hw2 hnd)
  have HA2 := Lib.hid ha2
  have HLL := Lib.hid (And.intro hl ha)
  clear h hz0 hc hg hq hm hls hms hqf hrow hkeep ho hn2 hnl hqs hw2 hnd ha2 hl ha hnn m0 m1 m2 hob0 hneg
  go_enter Try.func75, Try.ntmps75
  go_wp2_with fail
  refine wp_region_quiet_grown (by kernel_rfl) (by kernel_rfl) ?_
  repeat (go_big_quiet_step (first
    | (go_at_call 37; with_reducible exact Calls.grown_of (CV0.out _ _))))
  refine wpQuiet_nil ?_
  rintro _ ⟨⟨nq, osq⟩, rfl⟩
  have HG1 := Lib.hid (grow_gr w nq osq)
  obtain ⟨w1, hw1⟩ : ∃ w1, Go.Sort.grow (w.drewN nq) osq = w1 := ⟨_, rfl⟩
  rw [hw1] at HG1 ⊢
  clear hw1 f0 f1 g1 CV0
  by_cases hp0 : 0 < z0
  · go_wp2
    go_ret
    exact ⟨0, cs, t, s, G, hd, rfl, .inl ⟨rfl, by rw [HZ0.out]; exact hp0, rfl, rfl, rfl⟩, H.out.gr HG1.out, (St.refl w).gr HG1.out, rfl⟩
  · have h1 := H.out.gr HG1.out
    obtain ⟨m0, m1, m2, hqs, hqf, hnn, hrow⟩ := h1.mark HA2.out HQ.out HM.out
    have f0 := fun n os => (h1.cell n os).1
    have hkeep : ∀ (n : Nat) (os : Array Obj) (j : Nat), (Go.Sort.grow (w1.drewN n) os).cell? ⟨q, j, none⟩ = w1.cell? ⟨q, j, none⟩ := fun n os j => Go.Sort.cell?_grow (w1.drewN n) os _ (by show q < _; exact hqs)
    have g0 : ∀ n os, (Go.Sort.grow (w1.drewN n) os).cell? ⟨q, i * 3, none⟩ = some (.int .i64 m.ref) := fun n os => by rw [hkeep]; exact m0
    have hr := at?_range HC.out
    have hsz : cl.size = cl.lits.length + 3 := rfl
    have CH := Lib.hid (fun n os => has_gr (h1.gr (grow_gr w1 n os)).ar m.ref (by omega) (by omega))
    rw [show (at? cs m.ref).isSome = true by rw [HC.out]; rfl] at CH
    have HR := Lib.hid (show cl.lits.length ≤ 1099511627776 by omega)
    have H1 := Lib.hid h1
    clear h1 m0 m1 m2 hqs hqf hnn hrow hkeep hr hsz
    go_wp2_with fail
    refine wp_region_quiet_grown (by kernel_rfl) (by kernel_rfl) ?_
    repeat (go_big_quiet_step (first
      | (go_at_call 69; with_reducible exact Calls.grown_of (CH.out _ _))))
    refine wpQuiet_nil ?_
    rintro _ ⟨⟨nq2, osq2⟩, rfl⟩
    have HG2 := Lib.hid (HG1.out.trans (grow_gr w1 nq2 osq2))
    obtain ⟨w2, hw2⟩ : ∃ w2, Go.Sort.grow (w1.drewN nq2) osq2 = w2 := ⟨_, rfl⟩
    rw [hw2] at HG2 ⊢
    have h2 := H.out.gr HG2.out
    obtain ⟨FW2, hwm2⟩ := h2.wm
    have c7 := hwm2.cells.2.2.1
    have c7f := hwm2.frz 7
    obtain ⟨h3, s3⟩ := h2.setVis (s.vis + 1)
    have H3 := Lib.hid h3
    have HS3 := Lib.hid (((St.refl w).gr HG2.out).trans s3)
    have hcast : ((s.vis + 1 : Nat) : Int) = (s.vis : Int) + 1 := by omega
    rw [hcast] at H3 HS3
    clear hw2 f0 g0 CH h2 hwm2 h3 s3 hcast
    go_wp2_with fail
    obtain ⟨w3, hw3⟩ : ∃ w3, w2.setCell ⟨px.gW, 7, none⟩ (.int .i64 ((s.vis : Int) + 1)) = w3 := ⟨_, rfl⟩
    rw [hw3] at H3 HS3 ⊢
    clear hw3 c7 c7f
    -- is the first one l
    have h3 := H3.out
    obtain ⟨m0, m1, m2, hqs, hqf, hnn, hrow⟩ := h3.mark HA2.out HQ.out HM.out
    have f0 := fun n os => (h3.cell n os).1
    have hkeep : ∀ (n : Nat) (os : Array Obj) (j : Nat), (Go.Sort.grow (w3.drewN n) os).cell? ⟨q, j, none⟩ = w3.cell? ⟨q, j, none⟩ := fun n os j => Go.Sort.cell?_grow (w3.drewN n) os _ (by show q < _; exact hqs)
    have g0 : ∀ n os, (Go.Sort.grow (w3.drewN n) os).cell? ⟨q, i * 3, none⟩ = some (.int .i64 m.ref) := fun n os => by rw [hkeep]; exact m0
    have CL := Lib.hid (fun n os => lit_at (h3.gr (grow_gr w3 n os)).ar HC.out ht 0)
    have hv : (if (0 : Int) < 0 then (0 : Int) else cl.lits.getD (0 : Int).toNat 0) = cl.lits.getD 0 0 := rfl
    rw [hv] at CL
    obtain ⟨x0, hx0⟩ : ∃ x0, cl.lits.getD 0 0 = x0 := ⟨_, rfl⟩
    rw [hx0] at CL
    have HX0 := Lib.hid hx0
    clear h3 m0 m1 m2 hqs hqf hnn hrow hkeep hv hx0
    refine wp_region_quiet_grown (by kernel_rfl) (by kernel_rfl) ?_
    repeat (go_big_quiet_step (first
      | (go_at_call 71; with_reducible exact Calls.grown_of (CL.out _ _))))
    refine wpQuiet_nil ?_
    rintro _ ⟨⟨nq3, osq3⟩, rfl⟩
    have H4 := Lib.hid (H3.out.gr (grow_gr w3 nq3 osq3))
    have HS4 := Lib.hid (HS3.out.gr (grow_gr w3 nq3 osq3))
    obtain ⟨w4, hw4⟩ : ∃ w4, Go.Sort.grow (w3.drewN nq3) osq3 = w4 := ⟨_, rfl⟩
    rw [hw4] at H4 HS4 ⊢
    clear hw4 f0 g0 CL H3 HS3
    go_upto_if 45 with fail
    go_cut [] (fun wx => Hid (Ob wx base px N G (putL cs m.ref (arr cl.lits l)) t { s with vis := s.vis + 1 } hd) ∧ Hid (St G G w wx))
    case first =>
      by_cases hne : x0 = l
      case neg =>
        have hxb : (x0 == l) = false := by simp [hne]
        have HE := Lib.hid (show putL cs m.ref (arr cl.lits l) = cs by
          have : arr cl.lits l = cl.lits := by unfold arr; rw [if_neg (fun e => hne (by rw [← HX0.out]; exact e.1))]
          rw [this]; exact putL_self HC.out)
        go_wp2_with fail
        go_meet
        exact ⟨Lib.hid (by rw [HE.out]; exact H4.out), HS4⟩
      case pos =>
        have hx0l : x0 = x0 := rfl
        obtain rfl : x0 = l := hne
        have h4 := H4.out.drewE ⟨1, rfl⟩
        obtain ⟨m0, m1, m2, hqs, hqf, hnn, hrow⟩ := H4.out.mark HA2.out HQ.out HM.out
        obtain ⟨FW4, hwm4⟩ := H4.out.wm
        have c0 := hwm4.cells.1.1
        rcases Nat.lt_or_ge cl.lits.length 2 with h2 | h2
        · have CSW := Lib.hid (ob_swap_bad h4 HC.out ht 0 1 (.inr (.inr (.inr (by omega)))))
          have HE := Lib.hid (show putL cs m.ref (arr cl.lits x0) = cs by
            have : arr cl.lits x0 = cl.lits := by unfold arr; rw [if_neg (fun e => by omega)]
            rw [this]; exact putL_self HC.out)
          clear h4 m1 m2 hqs hqf hnn hrow hwm4 hx0l h2
          go_wp2_with fail
          go_region_law (first | (go_simp; go_at_call 85; refine CSW.out.mono ?_; rintro e5 w5 ⟨rfl, ho5, hs5⟩; have HO5 := Lib.hid ho5; have HS5 := Lib.hid hs5; clear ho5 hs5))
          all_goals
            go_wp2_with fail
            go_meet
            exact ⟨Lib.hid (by rw [HE.out]; exact HO5.out), Lib.hid ((HS4.out.drewE ⟨1, rfl⟩).trans HS5.out)⟩
        · have CSW := Lib.hid (ob_swap h4 HC.out ht 0 1 (by omega) (by omega))
          have HE := Lib.hid (show arr cl.lits x0 = swapOf cl.lits 0 1 by unfold arr; rw [if_pos ⟨by rw [HX0.out], h2⟩])
          clear h4 m1 m2 hqs hqf hnn hrow hwm4 hx0l h2
          go_wp2_with fail
          go_region_law (first | (go_simp; go_at_call 85; refine CSW.out.mono ?_; rintro e5 w5 ⟨rfl, ho5, hs5⟩; have HO5 := Lib.hid ho5; have HS5 := Lib.hid hs5; clear ho5 hs5))
          all_goals
            go_wp2_with fail
            go_meet
            exact ⟨Lib.hid (by rw [HE.out]; exact HO5.out), Lib.hid ((HS4.out.drewE ⟨1, rfl⟩).trans HS5.out)⟩
    case rest =>
      obtain ⟨H5, HS5⟩ := hcut
      obtain ⟨w5, rfl⟩ : ∃ w5, w5 = wc := ⟨_, rfl⟩
      clear H4 HS4
      obtain ⟨ls, hls⟩ : ∃ ls, arr cl.lits l = ls := ⟨_, rfl⟩
      have hp : ls.Perm cl.lits := hls ▸ arr_perm cl.lits l
      rw [hls] at H5
      obtain ⟨cs1, hcs1⟩ : ∃ cs1, putL cs m.ref ls = cs1 := ⟨_, rfl⟩
      have hc1 : at? cs1 m.ref = some { cl with lits := ls } := by rw [← hcs1, at?_putL HC.out hp.length_eq, if_pos rfl]
      have ht1 : total cs1 ≤ 1099511627776 := by rw [← hcs1, total_putL HC.out hp.length_eq]; exact ht
      rw [hcs1] at H5
      have HLS1 := Lib.hid (show ∀ x ∈ ls, x ≠ 0 ∧ x.natAbs ≤ N from fun x hx => HLS.out x (hp.mem_iff.1 hx))
      have HP := Lib.hid hp
      have HL := Lib.hid hls
      have HCS := Lib.hid hcs1
      have HC1 := Lib.hid hc1
      clear hls hp hcs1 hc1
      have h5 := H5.out
      obtain ⟨m0, m1, m2, hqs, hqf, hnn, hrow⟩ := h5.mark HA2.out HQ.out HM.out
      obtain ⟨FW5, hwm5⟩ := h5.wm
      have c0 := hwm5.cells.1.1
      have CL := Lib.hid (lit_at (h5.drewE ⟨1, rfl⟩).ar HC1.out ht1 0)
      have hv : (if (0 : Int) < 0 then (0 : Int) else ({ cl with lits := ls } : Cl).lits.getD (0 : Int).toNat 0) = ls.getD 0 0 := rfl
      rw [hv] at CL
      have hob := lit_bd HLS1.out hN 0
      obtain ⟨o, ho⟩ : ∃ o, ls.getD 0 0 = o := ⟨_, rfl⟩
      rw [ho] at CL hob
      have HO := Lib.hid ho
      have HK := Lib.hid (fun w6 (hg : Gr w5.drew w6) => (h5.gr ((((Gr.refl w5).drewE ⟨1, rfl⟩)).trans hg)).mark HA2.out HQ.out HM.out)
      clear h5 m1 m2 hqs hqf hnn hrow hwm5 hv ho
      go_upto_region 8 with fail
      go_cut [] (fun wx => Hid (Ob wx base px N G cs1 t (s.exam a i m o) hd) ∧ Hid (St G G w wx))
      case first =>
        go_region_law (first | (go_simp; go_at_call 71; refine CL.out.mono ?_; rintro e6 w6 ⟨rfl, hg6⟩; have HG6 := Lib.hid hg6; obtain ⟨-, k1, -, -, kf, -, -⟩ := HK.out w6 hg6; have kf1 := kf (i * 3 + 1); clear hg6 kf))
        all_goals
          have h6 := H5.out.gr (((Gr.refl w5).drewE ⟨1, rfl⟩).trans HG6.out)
          obtain ⟨h7, s7⟩ := h6.setOth HA2.out HQ.out HM.out o
          have H7 := Lib.hid h7
          have HS7 := Lib.hid ((HS5.out.gr (((Gr.refl w5).drewE ⟨1, rfl⟩).trans HG6.out)).trans s7)
          clear h6 h7 s7
          go_wp2_with fail
          go_meet
          exact ⟨H7, HS7⟩
      case rest =>
        obtain ⟨H7, HS7⟩ := hcut
        obtain ⟨w7, rfl⟩ : ∃ w7, w7 = wc := ⟨_, rfl⟩
        clear c0 m0 CL HK H5 HS5
        have hm7 : ((s.exam a i m o).ms a)[i]? = some ⟨m.ref, o, m.nxt⟩ := by
          simp only [WS.exam, if_true]
          rw [List.getElem?_set_self (List.getElem?_eq_some_iff.1 HM.out).1]
        have h7 := H7.out
        obtain ⟨m0, m1, m2, hqs, hqf, hnn, hrow⟩ := h7.mark HA2.out HQ.out hm7
        have f1 := fun n os => (h7.cell n os).2
        have hkeep : ∀ (n : Nat) (os : Array Obj) (j : Nat), (Go.Sort.grow (w7.drewN n) os).cell? ⟨q, j, none⟩ = w7.cell? ⟨q, j, none⟩ := fun n os j => Go.Sort.cell?_grow (w7.drewN n) os _ (by show q < _; exact hqs)
        have g1 : ∀ n os, (Go.Sort.grow (w7.drewN n) os).cell? ⟨q, i * 3 + 1, none⟩ = some (.int .i64 o) := fun n os => by rw [hkeep]; exact m1
        have CV := Lib.hid (fun n os => gr_drew (value_any ((h7.gr (grow_gr w7 n os)).tr HG.out) o (by omega)))
        obtain ⟨z, hz⟩ : ∃ z, valT t.recs o = z := ⟨_, rfl⟩
        rw [hz] at CV
        have HZ := Lib.hid hz
        have HM7 := Lib.hid hm7
        clear h7 m0 m1 m2 hqs hqf hnn hrow hkeep hz hm7
        go_wp2_with fail
        refine wp_region_quiet_grown (by kernel_rfl) (by kernel_rfl) ?_
        repeat (go_big_quiet_step (first
          | (go_at_call 37; with_reducible exact Calls.grown_of (CV.out _ _))))
        refine wpQuiet_nil ?_
        rintro _ ⟨⟨nq7, osq7⟩, rfl⟩
        have H8 := Lib.hid (H7.out.gr (grow_gr w7 nq7 osq7))
        have HS8 := Lib.hid (HS7.out.gr (grow_gr w7 nq7 osq7))
        obtain ⟨w8, hw8⟩ : ∃ w8, Go.Sort.grow (w7.drewN nq7) osq7 = w8 := ⟨_, rfl⟩
        rw [hw8] at H8 HS8 ⊢
        clear hw8 f1 g1 CV H7 HS7
        by_cases hzp : 0 < z
        · go_wp2
          go_ret
          exact ⟨0, cs1, t, s.exam a i m o, G, hd, rfl, .inr ⟨ls, o, HL.out.symm, HO.out.symm, .inl ⟨rfl, by rw [HZ.out]; exact hzp, HCS.out.symm, rfl, rfl⟩⟩, H8.out, HS8.out, rfl⟩
        · have h8 := H8.out
          obtain ⟨m0, m1, m2, hqs, hqf, hnn, hrow⟩ := h8.mark HA2.out HQ.out HM7.out
          simp only at m0 m1 m2
          have hlen1 : ls.length = cl.lits.length := HP.out.length_eq
          have CR := Lib.hid (replace_any h8 (Nat.le_trans hB HS8.out.size) HG.out (m := ⟨m.ref, o, m.nxt⟩) HC1.out ht1 hN HLS1.out (fun k hk => by
            have := HMS.out k hk
            unfold WS.exam
            show (if k = a then _ else _ : List Mk).length ≤ _
            split
            · rename_i e; subst e; rw [List.length_set]; exact this
            · exact this) HNL.out.1 (HNL.out.2.imp id fun e => by show _ ≤ ls.length; rw [hlen1]; exact e))
          simp only at CR
          clear h8 hqs hqf hnn hrow hlen1
          go_wp2_with fail
          refine CR.out.mono ?_
          rintro e w9 hr
          unfold Repl at hr
          rcases hr with ⟨rfl, hall, hgr⟩ | ⟨rfl, j, hj2, hjl, hv, G9, hd9, ho9, hs9, hh9⟩
          · have HALL := Lib.hid hall
            have H9 := Lib.hid (H8.out.gr hgr)
            have HS9 := Lib.hid (HS8.out.gr hgr)
            clear hall hgr CR m0 m1 m2 H8 HS8
            by_cases hzn : z < 0
            · go_wp2
              go_ret
              exact ⟨2, cs1, t, s.exam a i m o, G, hd, rfl, .inr ⟨ls, o, HL.out.symm, HO.out.symm, .inr (.inr (.inr ⟨rfl, HALL.out, by rw [HZ.out]; exact hzn, HCS.out.symm, rfl, rfl⟩))⟩, H9.out, HS9.out, rfl⟩
            · have h9 := H9.out
              obtain ⟨m0, m1, m2, hqs, hqf, hnn, hrow⟩ := h9.mark HA2.out HQ.out HM7.out
              simp only at m0 m1 m2
              obtain ⟨FW9, hwm9⟩ := h9.wm
              have c1 := hwm9.cells.1.2.1
              have CP := Lib.hid (ob_put (h9.drewE ⟨1, rfl⟩) HG.out (Nat.le_trans hB HS9.out.size) o m.ref (by omega))
              clear h9 m2 hqs hqf hnn hrow hwm9
              go_wp2_with fail
              go_region_law (first | (go_simp; go_at_call 87; refine CP.out.mono ?_; rintro e10 w10 ⟨rfl, G10, ho10, hs10⟩; have H10 := Lib.hid ho10; have HS10 := Lib.hid hs10; clear ho10 hs10))
              all_goals
                go_wp2
                go_ret
                exact ⟨0, cs1, t.put o m.ref, s.exam a i m o, G10, hd, rfl, .inr ⟨ls, o, HL.out.symm, HO.out.symm, .inr (.inr (.inl ⟨rfl, HALL.out, by rw [HZ.out]; omega, HCS.out.symm, rfl, rfl⟩))⟩, H10.out, (HS9.out.drewE ⟨1, rfl⟩).trans HS10.out, rfl⟩
          · have HE := Lib.hid (And.intro hj2 (And.intro hjl (And.intro hv (And.intro ho9 (And.intro hs9 hh9)))))
            clear hj2 hjl hv ho9 hs9 hh9 CR m0 m1 m2
            go_wp2
            go_ret
            obtain ⟨hj2, hjl, hv, ho9, hs9, hh9⟩ := HE.out
            have hnl : ls.Nodup := HP.out.nodup_iff.2 HW2.out.2
            have hlen1 : ls.length = cl.lits.length := HP.out.length_eq
            have hxl : ls.getD j 0 ≠ l := fun e => by
              have h1 : ls.getD 1 0 = l := by
                rw [← HL.out]
                exact getD_of (arr_snd HW2.out.1 HW2.out.2 (by omega))
              have := nodup_get hnl hjl (by omega) (e.trans h1.symm)
              omega
            have hxa : a ≠ (litIndex (ls.getD j 0)).toNat := fun e => hxl (litIndex_inj (by
              have b1 := litIndex_bd (l := ls.getD j 0) (b := N) (by have := HLS1.out _ (get_mem hjl); omega) (by have := HLS1.out _ (get_mem hjl); omega) (HLS1.out _ (get_mem hjl)).1
              have b2 := litIndex_bd (l := l) (b := N) (by have := HLL.out.1; omega) (by have := HLL.out.1; omega) HLL.out.1.1
              have := HLL.out.2
              omega))
            rw [← HCS.out, putL_putL HC.out] at ho9
            exact ⟨1, _, t, _, G9, hd9, rfl, .inr ⟨ls, o, HL.out.symm, HO.out.symm, .inr (.inl ⟨rfl, j, hj2, hjl, hv, rfl, rfl, rfl⟩)⟩, ho9, HS8.out.trans hs9, hh9 a hxa⟩
end
end Go.Proofs.Ytbejjddkndcldaa
