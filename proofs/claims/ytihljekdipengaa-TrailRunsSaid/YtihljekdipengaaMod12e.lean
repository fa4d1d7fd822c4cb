/- Moved. -/
import Derived.Test.YtihljekdipengaaMod12d
namespace Go.Proofs.Ytihljekdipengaa
open Go.RowKit Go.Maps
set_option linter.unusedVariables false
set_option linter.unusedSimpArgs false

/-- a map of numbers tells a function -/
def MapF (D : DataW Unit) (f : Int → Option Int) : Prop := ∀ x : Int, -9223372036854775808 ≤ x → x ≤ 9223372036854775807 → Maps.has D (.int .i64 x) = (f x).isSome ∧ ∀ y, f x = some y → D.atKey (.int .i64 x) (.lit (.int .i64 0)) = .lit (.int .i64 y)
def moveR (f : Int → Option Int) (r : Rec) : Rec := ⟨r.l, r.lev, (f r.rs).getD r.rs⟩
/-- the first i moved -/
def movK (f : Int → Option Int) (i : Nat) (rs : List Rec) : List Rec := (rs.take i).map (moveR f) ++ rs.drop i
theorem movK_zero (f : Int → Option Int) (rs : List Rec) : movK f 0 rs = rs := by simp [movK]
theorem movK_full (f : Int → Option Int) {rs : List Rec} {i : Nat} (h : rs.length ≤ i) : movK f i rs = rs.map (moveR f) := by simp [movK, List.take_of_length_le h, List.drop_eq_nil_of_le h]
theorem movK_get (f : Int → Option Int) {rs : List Rec} {i : Nat} {r : Rec} (h : rs[i]? = some r) : (movK f i rs)[i]? = some r := by
  have hi := (List.getElem?_eq_some_iff.1 h).1
  unfold movK
  rw [List.getElem?_append_right (by simp; omega)]
  simp only [List.length_map, List.length_take, Nat.min_eq_left (Nat.le_of_lt hi), Nat.sub_self, List.getElem?_drop, Nat.add_zero]
  exact h
theorem movK_step (f : Int → Option Int) {rs : List Rec} {i : Nat} {r : Rec} (h : rs[i]? = some r) : (movK f i rs).set i (moveR f r) = movK f (i + 1) rs := by
  obtain ⟨hi, e⟩ := List.getElem?_eq_some_iff.1 h
  unfold movK
  rw [List.set_append_right _ _ (by simp; omega)]
  simp only [List.length_map, List.length_take, Nat.min_eq_left (Nat.le_of_lt hi), Nat.sub_self]
  rw [List.drop_eq_getElem_cons hi, List.set_cons_zero, List.take_add_one, h]
  simp
theorem movK_same (f : Int → Option Int) {rs : List Rec} {i : Nat} {r : Rec} (h : rs[i]? = some r) (hf : f r.rs = none) : movK f (i + 1) rs = movK f i rs := by
  rw [← movK_step f h]
  have : moveR f r = r := by unfold moveR; rw [hf]; rfl
  rw [this]
  obtain ⟨hi, e⟩ := List.getElem?_eq_some_iff.1 (movK_get f h)
  rw [← e, List.set_getElem_self]
theorem movK_mem {f : Int → Option Int} {rs : List Rec} {i : Nat} {r : Rec} (h : r ∈ movK f i rs) : ∃ s ∈ rs, s.l = r.l ∧ s.lev = r.lev := by
  rcases List.mem_append.1 h with h | h
  · obtain ⟨s, hs, rfl⟩ := List.mem_map.1 h
    exact ⟨s, List.mem_of_mem_take hs, rfl, rfl⟩
  · exact ⟨r, List.mem_of_mem_drop h, rfl, rfl⟩
theorem movK_ls (f : Int → Option Int) (i : Nat) (rs : List Rec) : (movK f i rs).map Rec.l = rs.map Rec.l := by
  unfold movK
  rw [List.map_append, List.map_map]
  have : (Rec.l ∘ moveR f) = Rec.l := by funext r; rfl
  rw [this, ← List.map_append, List.take_append_drop]
theorem movK_uniq {f : Int → Option Int} {i : Nat} {rs : List Rec} (h : Uniq rs) : Uniq (movK f i rs) := by
  have h1 : (rs.map Rec.l).Pairwise fun a b => a.natAbs ≠ b.natAbs := List.pairwise_map.2 h
  rw [← movK_ls f i rs] at h1
  exact (List.pairwise_map (f := Rec.l) (R := fun (a b : Int) => a.natAbs ≠ b.natAbs)).1 h1
theorem grown_drewN12 {a b : World} {row : Option Nat} (h : a.grownBy b row) (n : Nat) : a.grownBy (b.drewN n) row := ⟨h.os, h.tape, h.output, h.size, h.block⟩
theorem Spots.why {w : World} {S n i : Nat} {rs : List Rec} {r : Rec} (h : Spots w S n rs) (hu : Uniq rs) (h0 : ∀ s ∈ rs, s.l ≠ 0 ∧ s.l.natAbs ≤ n) (hr : rs[i]? = some r) (y : Int) :
    Spots (w.setCell ⟨S, (r.l.natAbs - 1) * 3 + 2, none⟩ (.int .i64 y)) S n (rs.set i ⟨r.l, r.lev, y⟩) := by
  obtain ⟨cs, h1, h2, h3⟩ := h
  refine ⟨_, h1.set_ _ _, by simpa using h2, fun j s hs => ?_⟩
  have hb := h0 r (List.mem_of_getElem? hr)
  have hi := (List.getElem?_eq_some_iff.1 hr).1
  by_cases e : i = j
  · subst e
    rw [List.getElem?_set_self hi] at hs
    injection hs with hs
    subst hs
    obtain ⟨q0, q1, q2⟩ := h3 i r hr
    refine ⟨?_, ?_, ?_⟩
    · show (cs.setIfInBounds _ _)[(r.l.natAbs - 1) * 3]? = _
      rw [Array.getElem?_setIfInBounds_ne (by omega)]; exact q0
    · show (cs.setIfInBounds _ _)[(r.l.natAbs - 1) * 3 + 1]? = _
      rw [Array.getElem?_setIfInBounds_ne (by omega)]; exact q1
    · show (cs.setIfInBounds _ _)[(r.l.natAbs - 1) * 3 + 2]? = _
      rw [Array.getElem?_setIfInBounds_self, if_pos (by omega)]
  · rw [List.getElem?_set_ne e] at hs
    obtain ⟨q0, q1, q2⟩ := h3 j s hs
    have hs0 := (h0 s (List.mem_of_getElem? hs)).1
    have hne : r.l.natAbs ≠ s.l.natAbs := by
      intro e2
      have x1 := find_uniq hu hr (l := r.l) (.inl rfl)
      have x2 := find_uniq hu hs (l := r.l) (Rec.of_abs.2 e2.symm)
      rw [x1] at x2
      simp only [Option.some.injEq, Prod.mk.injEq] at x2
      exact e x2.1
    refine ⟨?_, ?_, ?_⟩
    · rw [Array.getElem?_setIfInBounds_ne (by omega)]; exact q0
    · rw [Array.getElem?_setIfInBounds_ne (by omega)]; exact q1
    · rw [Array.getElem?_setIfInBounds_ne (by omega)]; exact q2

theorem valT_moved (f : Int → Option Int) (rs : List Rec) (l : Int) : valT (rs.map (moveR f)) l = valT rs l := by
  have key : ∀ (rs : List Rec) (k : Nat), (match findAt k (rs.map (moveR f)) l with | none => (0 : Int) | some x => if x.2.l = l then 1 else -1) = (match findAt k rs l with | none => 0 | some x => if x.2.l = l then 1 else -1) := by
    intro rs
    induction rs with
    | nil => intro k; rfl
    | cons r rs ih =>
      intro k
      simp only [List.map_cons, findAt]
      have : (moveR f r).of l ↔ r.of l := Iff.rfl
      by_cases h : r.of l
      · rw [if_pos (this.2 h), if_pos h]; rfl
      · rw [if_neg (fun e => h (this.1 e)), if_neg h]; exact ih _
  exact key rs 0

set_option maxRecDepth 100000 in
set_option maxHeartbeats 8000000 in
theorem moved_any {w : World} {base g P B k : Nat} {t : TS} {D : DataW Unit} {f : Int → Option Int} (h : Tr w base g P t) (hB : base ≤ w.heap.size) (hm : w.ownsMap Try.prog 3 (plainElem (H := Unit) Try.prog 3) B k D) (hf : MapF D f) (hrs : ∀ r ∈ t.recs, -9223372036854775808 ≤ r.rs ∧ r.rs ≤ 9223372036854775807) :
    Calls Try.prog 15 #[.pointer (some ⟨g, 0, none⟩), .map (some B)] w fun e w' => e = .returned (.tuple #[]) ∧ Tr w' base g P (t.moved f) ∧ Tn [62] base P w w' := by
  obtain ⟨V, S, A, Ds, c, d, b1, b2, b3, b4, hvals, hspots, b8, b9⟩ := h.ex
  have c0 := b1.cell 0
  simp at c0
  have hfew := h.good.few
  have hml := h.good.len
  obtain ⟨cs, sp1, sp2, sp3⟩ := id hspots
  obtain ⟨m, hmm⟩ : ∃ m, t.recs.length = m := ⟨_, rfl⟩
  obtain ⟨n, hn⟩ : ∃ n, t.ph.length = n := ⟨_, rfl⟩
  have H := Lib.hid h
  have HMF := Lib.hid hf
  have HRS := Lib.hid hrs
  have HMAP := Lib.hid hm
  have HB1 := Lib.hid b1
  have HB2 := Lib.hid b2
  have HREST := Lib.hid (And.intro b3 (And.intro b4 (And.intro hvals (And.intro b8 b9))))
  have HSP := Lib.hid hspots
  have HS1 := Lib.hid sp1
  have HMM := Lib.hid hmm
  have HN := Lib.hid hn
  have hgS : some g ≠ some S := by have := b1.ne_ sp1 (by decide); simpa using this
  have hBS : some B ≠ some S := by have := map_ne_blk hm sp1; simpa using Ne.symm this
  rw [hmm] at c0
  have hmn : m ≤ n := by rw [← hmm, ← hn]; exact hml
  rw [hn] at hfew
  clear h hf hrs hm b1 b2 b3 b4 hvals hspots b8 b9 sp1 sp2 sp3 hmm hn hml
  go_enter Try.func15, Try.ntmps15
  go_wp2_with fail
  go_loopg [14] (m + 1) (fun gk iv wr => ∃ i : Nat, i ≤ m ∧ gk = m - i + 1 ∧ iv = .int .i64 i ∧ Hid (w.grownBy wr (some S)) ∧ Hid (Spots wr S n (movK f i t.recs)))
  case atStart => exact ⟨0, by omega, by omega, rfl, Lib.hid (World.grownBy.refl _ _), Lib.hid (by rw [movK_zero]; have := HSP.out; rwa [HN.out] at this)⟩
  case round =>
    obtain ⟨i, hi, rfl, rfl, HG, HSK⟩ := hrel
    by_cases hlt : i < m
    · obtain ⟨r, hr⟩ : ∃ r, t.recs[i]? = some r := ⟨_, List.getElem?_eq_getElem (by have := HMM.out; omega)⟩
      obtain ⟨q, rfl, hq1, hq2⟩ := own_addr HB2.out (by have := HMM.out; omega)
      have hbk := HB2.out.kept HG.out (.inr (by
        have := own_blk_ne HB2.out HS1.out (by decide)
        exact Ne.symm this))
      have q1 := World.ownsRow.cellAt hbk i (by have := HMM.out; omega)
      have er : (litsV t.recs)[i]? = some (.int .i64 r.l) := by simp [litsV, hr]
      rw [er] at q1
      have hlit := H.out.good.lit r (List.mem_of_getElem? hr)
      rw [HN.out] at hlit
      have hrr := HRS.out r (List.mem_of_getElem? hr)
      obtain ⟨v, hv⟩ : ∃ v : Nat, litVar r.l = (v : Int) + 1 := ⟨r.l.natAbs - 1, by unfold litVar; split <;> omega⟩
      have hv2 : r.l.natAbs - 1 = v := by unfold litVar at hv; split at hv <;> omega
      have HV := Lib.hid (fun w => hv ▸ var_any r.l w (by omega) (by omega))
      have hvn : (v : Int) < (n : Int) := by omega
      have g0 := (HB1.out.grown HG.out hgS).cell 3
      simp [HN.out] at g0
      obtain ⟨cs2, u1, u2, u3⟩ := id HSK.out
      have u4 := (u3 i r (movK_get f hr)).2.2
      rw [hv2] at u4
      have p1 := (u1.cell _).trans u4
      have pf := u1.frozen (v * 3 + 2)
      have HWHY := Lib.hid (fun y => HSK.out.why (movK_uniq H.out.good.uniq) (fun s hs => by
        obtain ⟨s', hs', e1, e2⟩ := movK_mem hs
        have := H.out.good.lit s' hs'
        rw [HN.out] at this
        rw [← e1]; exact this) (movK_get f hr) y)
      rw [hv2] at HWHY
      have HMR := Lib.hid (HMAP.out.kept HG.out hBS)
      obtain ⟨hh, hat0⟩ := HMF.out r.rs hrr.1 hrr.2
      have HR := Lib.hid hr
      obtain ⟨x, hx⟩ : ∃ x, r.l = x := ⟨_, rfl⟩
      obtain ⟨z, hz⟩ : ∃ z, r.rs = z := ⟨_, rfl⟩
      have HZ := Lib.hid hz
      rw [hx] at q1 HV hlit
      rw [hz] at p1 hh hat0 hrr
      have hwk : IntKind.i64.wrap (v : Int) = (v : Int) := i64_ok (by omega)
      have HMQ := Lib.hid (fun n => (show (wr.drewN n).ownsMap Try.prog 3 (plainElem (H := Unit) Try.prog 3) B k D from HMR.out))
      rcases hfz : f z with _ | y
      · rw [hfz] at hh
        simp only [Option.isSome_none] at hh
        have HSAME := Lib.hid (movK_same f hr (by rw [hz]; exact hfz))
        clear er hr hv hv2 hbk hat0 hfz u1 u2 u3 u4 hx hz
        go_wp2_with fail
        go_quiet ((go_at_call 33; with_reducible exact quiet_left (HV.out _)))
        go_wp2_with (at_lookup; refine wpList_lookup_own_ok_int _ rfl _ _ 39 rfl 3 3 .i64 intLaw12 Try.underlying39 Try.underlying3 (zeroI12 _) B k D rfl (HMQ.out _) _ _ rfl (Maps.keyOf_int_mk Try.underlying3 (WalkArith.wf_i64 (by omega))) ?_; intro c2 hat hwc)
        go_roundg (m - i)
        case measure => omega
        case rel => exact ⟨i + 1, by omega, by omega, by go_num, Lib.hid (grown_drewN12 HG.out _), Lib.hid (by rw [HSAME.out]; exact HSK.out)⟩
      · rw [hfz] at hh
        simp only [Option.isSome_some] at hh
        have hy := hat0 y hfz
        have HYY := Lib.hid hy
        have HSTEP := Lib.hid (movK_step f hr)
        have HMV := Lib.hid (show moveR f r = ⟨r.l, r.lev, y⟩ by unfold moveR; rw [hz, hfz]; rfl)
        have HPUT := Lib.hid (HWHY.out y)
        rw [← HMV.out, HSTEP.out] at HPUT
        have HGN := Lib.hid (fun n => grown_trans (grown_drewN12 HG.out n) (grown_setCell (wr.drewN n) ⟨S, v * 3 + 2, none⟩ (.int .i64 y)))
        clear er hr hv hv2 hbk hat0 hfz u1 u2 u3 u4 hx hz hy
        go_wp2_with fail
        go_quiet ((go_at_call 33; with_reducible exact quiet_left (HV.out _)))
        go_wp2_with (at_lookup; refine wpList_lookup_own_ok_int _ rfl _ _ 39 rfl 3 3 .i64 intLaw12 Try.underlying39 Try.underlying3 (zeroI12 _) B k D rfl (HMQ.out _) _ _ rfl (Maps.keyOf_int_mk Try.underlying3 (WalkArith.wf_i64 (by omega))) ?_; intro c2 hat hwc; obtain rfl : c2 = y := by rw [HYY.out] at hat; injection hat with hat; injection hat with _ hat; exact hat.symm)
        go_roundg (m - i)
        case measure => omega
        case rel => exact ⟨i + 1, by omega, by omega, by go_num, Lib.hid (HGN.out _), Lib.hid HPUT.out⟩
    · obtain rfl : m = i := by omega
      go_wp2
      go_end0
      have hsf := HSK.out
      rw [movK_full f (by rw [HMM.out]; exact Nat.le_refl _)] at hsf
      have hrl : (t.moved f).recs = t.recs.map (moveR f) := rfl
      have hll : (t.moved f).recs.length = t.recs.length := by rw [hrl]; simp
      have hlv : litsV (t.moved f).recs = litsV t.recs := by
        rw [hrl]; unfold litsV; rw [List.map_map]; rfl
      obtain ⟨b3, b4, hvals, b8, b9⟩ := HREST.out
      obtain ⟨cv, v1, v2, v3⟩ := hvals
      have hVS : some V ≠ some S := by have := v1.ne_ HS1.out (by decide); simpa using this
      have hPS : some P ≠ some S := by have := Blk.ne_ (show Blk w P 4 (boolCells t.ph) from H.out.phs) HS1.out (by decide); simpa using this
      refine ⟨rfl, ⟨⟨⟨V, S, A, Ds, c, d, ?_, ?_, ?_, ?_, ⟨cv, v1.grown HG.out hVS, v2, fun j hj => ?_⟩, ?_, b8, b9⟩, ?_, H.out.hg, H.out.hP⟩, H.out.good.moved f⟩, ?_⟩
      · rw [hll]; exact HB1.out.grown HG.out hgS
      · rw [hll, hlv]; exact HB2.out.kept HG.out (.inr (Ne.symm (own_blk_ne HB2.out HS1.out (by decide))))
      · exact b3.kept HG.out (.inr (Ne.symm (own_blk_ne b3 HS1.out (by decide))))
      · rw [hll]; exact b4
      · rw [hrl, valT_moved]; exact v3 j hj
      · have hpl : (t.moved f).ph.length = n := HN.out
        rw [hpl, hrl]; exact hsf
      · exact Blk.grown H.out.phs HG.out hPS
      · exact (Tn.refl w).one HS1.out (by simp) b9 hB HG.out
end Go.Proofs.Ytihljekdipengaa
