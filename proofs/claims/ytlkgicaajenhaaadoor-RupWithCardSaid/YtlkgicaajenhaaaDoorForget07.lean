/- forget, foreign: the end and the start of a search. -/
import Derived.Test.YtlkgicaajenhaaaDoorSpread07
namespace Go.Proofs.YtlkgicaajenhaaaDoor
open Go.RowKit
set_option linter.unusedVariables false
set_option linter.unusedSimpArgs false

/-- nothing is found any longer -/
def SX.clean (X : SX) : SX := { X with fd := [] }
theorem Sto.cleaned {W : World} {base : Nat} {X : SX} {fo : List Bool} (h : Sto W base X fo) : Sto (W.setCell ⟨X.s, 8, none⟩ (.slice X.Af 0 X.cf)) base X.clean fo ∧ Tn base X W (W.setCell ⟨X.s, 8, none⟩ (.slice X.Af 0 X.cf)) ∧ Later7 W X X.clean := by
  have hfv : X.clean.fv = .slice X.Af 0 X.cf := rfl
  have hob : (Value.slice X.Af 0 X.cf).ownBlock = X.fv.ownBlock := by unfold SX.fv; cases X.Af <;> rfl
  have far : ∀ q t Y, Blk W q t Y → t ≠ 66 → Blk (W.setCell ⟨X.s, 8, none⟩ (.slice X.Af 0 X.cf)) q t Y := fun q t Y hq h2 => hq.far (hq.ne_ h.st h2) _
  have row : ∀ (e : TypeId) (v : Value) (n : Nat) (xs : List Value), W.ownsRow base e 1 v n xs → e ≠ 66 → (W.setCell ⟨X.s, 8, none⟩ (.slice X.Af 0 X.cf)).ownsRow base e 1 v n xs := fun e v n xs ho h2 => own_setCell ho _ (own_blk_ne ho h.st h2)
  have hnil : W.ownsRow base 3 1 (.slice X.Af 0 X.cf) 0 [] := by
    have ho := h.fnd
    unfold SX.fv at ho
    cases hA : X.Af with
    | none =>
      rw [hA] at ho
      rcases ho.2 with ⟨hv, _⟩ | ⟨g', cap', cur, hv, _⟩
      · injection hv with _ _ h3
        rw [h3]
        exact World.ownsRow_nil _ _ _ _
      · cases hv
    | some a =>
      rw [hA] at ho
      rcases ho.2 with ⟨hv, _⟩ | ⟨g', cap', cur, hv, rest⟩
      · cases hv
      · injection hv with h1
        injection h1 with h1
        subst h1
        have := own_prefix ho (Nat.zero_le _)
        simpa using this
  refine ⟨⟨?_, far _ _ _ h.fol (by decide), h.flen, row _ _ _ _ hnil (by decide), row _ _ _ _ h.out (by decide), h.pil.keep fun q Y hq => far _ _ _ hq (by decide), h.num, fun p hp => ?_, ?_, h.lo, h.vb⟩, ⟨(Below.refl _ _).setCell h.lo.1 _, fun q t Y hq h1 h2 h3 h4 h5 h6 => far q t Y hq h1, Recs.set _ _ _⟩, rfl, .inl hob⟩
  · have := h.st.set_ 8 (.slice X.Af 0 X.cf)
    have e : X.clean.head = X.head.setIfInBounds 8 (.slice X.Af 0 X.cf) := by simp [SX.head, SX.fv, SX.clean]
    rw [e]; exact this
  · obtain ⟨c1, c2, c3, c4⟩ := h.cl p hp
    exact ⟨far _ _ _ c1 (by decide), c2, row _ _ _ _ c3 (by decide), fun g hg => by rw [hfv, hob]; exact c4 g hg⟩
  · obtain ⟨D, n, hm, h2⟩ := h.map
    exact ⟨D, n, hm.kept (grown_setCell W _ _) (fun e => blk_map_ne7 h.st hm (by simpa using e.symm)), h2⟩
/-- what forget leaves -/
def Forgot (base : Nat) (X : SX) (W : World) (e : Ending) (W' : World) : Prop :=
  e = .returned (.tuple #[]) ∧ ∃ fo', Sto W' base X.clean fo' ∧ Fw X.clean fo' ∧ Tn base X W W' ∧ Later7 W X X.clean
set_option maxRecDepth 100000 in
set_option maxHeartbeats 1000000 in
theorem forget_any {W : World} {base : Nat} {X : SX} {fo : List Bool} (h : Sto W base X fo) (hf : Fw X fo) :
    Calls Tryd.prog 30 #[.pointer (some ⟨X.s, 0, none⟩)] W (Forgot base X W) := by
  have hfl := hf.len
  have hvb := h.vb
  have H := Lib.hid h
  have HF := Lib.hid hf
  have hs8 : W.cell? ⟨X.s, 8, none⟩ = some (.slice X.Af X.fd.length X.cf) := h.st.cell 8
  obtain ⟨n, hn⟩ : ∃ n, n = X.fd.length := ⟨_, rfl⟩
  rw [← hn] at hs8 hfl
  obtain ⟨A0, hA0⟩ : ∃ A0, A0 = X.Af := ⟨_, rfl⟩
  rw [← hA0] at hs8
  have HA0 := Lib.hid hA0
  have HN := Lib.hid hn
  clear h hf hn hA0
  go_enter Tryd.func30, Tryd.ntmps30
  go_wp2
  go_loopg [9] (n + 1) (fun gk i wr => ∃ (k : Nat) (fy : List Bool), k ≤ n ∧ gk = n - k + 1 ∧ i = .int .i64 k ∧ Hid (Sto wr base X fy) ∧ Hid (Tn base X W wr) ∧ Hid (∀ l, Lt7 X.V l → (fy.getD (ix l) false = true ↔ l ∈ X.fd.drop k)))
  case atStart => exact ⟨0, fo, by omega, by omega, rfl, H, Lib.hid (Tn.refl base X W), Lib.hid (by rw [List.drop_zero]; exact HF.out.tie)⟩
  case round =>
    obtain ⟨k, fy, hk, rfl, rfl, HS, HT, HTIE⟩ := hrel
    by_cases hlt : k < n
    · have hlt' : k < X.fd.length := by rw [← HN.out]; exact hlt
      obtain ⟨g, hv, hc⟩ := HS.out.foundcell hlt'
      unfold SX.fv at hv
      injection hv with hv1
      obtain ⟨_, hmem⟩ := take_snoc7 hlt'
      have hlx := HF.out.lt _ hmem
      have hdrop : X.fd.drop k = X.fd.getD k 0 :: X.fd.drop (k + 1) := by rw [List.drop_eq_getElem_cons hlt']; simp [List.getD, hlt']
      have hnd := HF.out.nd
      rw [← List.take_append_drop k X.fd, hdrop] at hnd
      obtain ⟨x, hx⟩ : ∃ x, x = X.fd.getD k 0 := ⟨_, rfl⟩
      rw [← hx] at hc hlx hdrop hnd
      have hxn : x ∉ X.fd.drop (k + 1) := fun hm => by
        rw [List.nodup_append] at hnd
        exact (List.nodup_cons.1 hnd.2.1).1 hm
      obtain ⟨e1, b1⟩ := ix_eq hlx
      obtain ⟨hl0, hl1, hl2⟩ := hlx
      have HI := Lib.hid (fun w => index_any x w (by omega) (by omega))
      rw [e1] at HI
      obtain ⟨c0, c5, c7, c8, cf⟩ := HS.out.cells
      obtain ⟨g1, g1f⟩ := HS.out.folcell b1
      obtain ⟨i, hi⟩ : ∃ i, i = ix x := ⟨_, rfl⟩
      obtain ⟨N, hN⟩ : ∃ N, N = 2 * X.V := ⟨_, rfl⟩
      rw [← hi] at HI b1 g1 g1f
      rw [← hN] at c7 b1
      have hb1 : (i : Int) < (N : Int) := by omega
      have HSF := Lib.hid (fun q : Nat => (HS.out.drewN q).setFol i false)
      have HDR := Lib.hid hdrop
      have HXN := Lib.hid hxn
      have HII := Lib.hid hi
      have HLX : Hid (Lt7 X.V x) := Lib.hid ⟨hl0, hl1, hl2⟩
      obtain rfl : A0 = some ⟨g, 0, none⟩ := HA0.out.trans hv1
      clear e1 c0 c5 c8 cf hi hN hmem hdrop hnd hxn hx hv1
      go_wp2
      go_region_law (first | (go_simp; go_at_call 45; refine (HI.out _).mono ?_; rintro e3 w3 ⟨rfl, rfl⟩))
      all_goals
        go_wp2_with fail
        go_roundg (n - k)
        case measure => omega
        case rel =>
          obtain ⟨a1, a2⟩ := HS.out.setFol i false
          refine ⟨k + 1, fy.set i false, by omega, by omega, by go_num, Lib.hid (a1.drewN 1), Lib.hid ((HT.out.trans a2 (Later7.refl _ _)).drewN 1), Lib.hid fun l hl => ?_⟩
          have ht := HTIE.out l hl
          rw [HDR.out] at ht
          by_cases e : l = x
          · subst e
            rw [← HII.out, getD_set_same (by rw [HS.out.flen, HII.out]; exact (ix_eq HLX.out).2)]
            exact ⟨fun h => (by cases h), fun h => absurd h HXN.out⟩
          · rw [getD_set_other (by rw [HII.out]; exact fun e2 => e (ix_inj hl HLX.out e2.symm)), ht]
            simp [e]
    · obtain rfl : k = n := by omega
      have hst := HS.out.st.cell 8
      have hsf := HS.out.st.frozen 8
      have HCL := Lib.hid HS.out.cleaned
      have d8 : wr.cell? ⟨X.s, 8, none⟩ = some (.slice A0 k X.cf) := by rw [HN.out, HA0.out]; exact hst
      clear hst
      have HNL : Hid (X.fd.drop k = []) := Lib.hid (List.drop_eq_nil_of_le (by have := HN.out; omega))
      go_wp2
      go_end0
      have hcl := HCL.out
      rw [← HA0.out] at hcl
      exact ⟨rfl, fy, hcl.1, ⟨HS.out.flen, fun l hl => (by have := HTIE.out l hl; rw [HNL.out] at this; exact this), List.nodup_nil, fun l hl => (by simp [SX.clean] at hl), fun l hl => (by simp [SX.clean] at hl)⟩, HT.out.trans hcl.2.1 (Later7.refl _ _), hcl.2.2.trans_of HT.out.below.size⟩
end Go.Proofs.YtlkgicaajenhaaaDoor
