/- foreign: is one of some literals none of the store's? And forget, as a deferred call. -/
import Derived.Test.YtlkgicaajenhaaaDoorForget07
import Derived.Defers
namespace Go.Proofs.YtlkgicaajenhaaaDoor
open Go.RowKit
set_option linter.unusedVariables false
set_option linter.unusedSimpArgs false

set_option maxRecDepth 100000 in
theorem foreign1_any {W : World} {base : Nat} {X : SX} {fo : List Bool} (h : Sto W base X fo) (x : Int) (sb : Nat) (h1 : -9223372036854775808 ≤ x) (h2 : x ≤ 9223372036854775807) (hs : Blk W sb 32 #[.pointer (some ⟨X.s, 0, none⟩)]) :
    Calls Tryd.prog 43 #[.int .i64 x, .pointer (some ⟨sb, 0, none⟩)] W fun e W' => e = .returned (.bool (!litRight x X.V)) ∧ ∃ q, W' = W.drewN q := by
  have hvb := h.vb
  obtain ⟨c0, c5, c7, c8, cf⟩ := h.cells
  have HJ := Lib.hid (fun w => right_any x X.V w h1 h2 (by omega) (by omega))
  have s0 := hs.cell 0
  simp at s0
  clear h hs c5 c7 c8 cf
  go_enter Tryd.func43, Tryd.ntmps43
  go_wp2_with (go_at_call 44; refine (HJ.out _).mono ?_; rintro e3 w3 ⟨rfl, rfl⟩)
  go_ret
  exact ⟨rfl, 0, rfl⟩

/-- is one of them none of the store's? -/
def foreign7 (V : Nat) (xs : List Int) : Bool := xs.any fun x => !litRight x V
theorem foreign7_no {V : Nat} {xs : List Int} (hV : V ≤ 100000) (h : foreign7 V xs = false) : ∀ x, x ∈ xs → Lt7 V x := fun x hx => by
  have := (List.any_eq_false.1 h) x hx
  have h2 : litRight x V = true := by simpa using this
  obtain ⟨a1, a2, a3, a4, a5⟩ := litRight_iff.1 h2
  exact ⟨a1, a4, a5⟩
theorem foreign7_yes {V : Nat} {xs : List Int} (hV : V ≤ 100000) : foreign7 V xs = false ↔ ∀ x, x ∈ xs → Lt7 V x :=
  ⟨foreign7_no hV, fun h => List.any_eq_false.2 fun x hx => by
    obtain ⟨a1, a2, a3⟩ := h x hx
    have : litRight x V = true := litRight_iff.2 ⟨a1, by omega, by omega, a2, a3⟩
    simp [this]⟩
/-- numbers of the machine's; others stand for themselves no longer -/
def clamp63 (x : Int) : Int := if -9223372036854775808 ≤ x ∧ x ≤ 9223372036854775807 then x else 0
theorem clamp63_in (x : Int) : -9223372036854775808 ≤ clamp63 x ∧ clamp63 x ≤ 9223372036854775807 := by unfold clamp63; split <;> omega
theorem any_congr7 {α : Type} {p q : α → Bool} : ∀ {xs : List α}, (∀ x, x ∈ xs → p x = q x) → xs.any p = xs.any q
  | [], _ => rfl
  | x :: r, h => by
    rw [List.any_cons, List.any_cons, h x (by simp), any_congr7 fun y hy => h y (by simp [hy])]
theorem somein_any {W : World} {base : Nat} {X : SX} {fo : List Bool} (h : Sto W base X fo) (sb : Nat) (hs : Blk W sb 32 #[.pointer (some ⟨X.s, 0, none⟩)])
    (xs : List Int) (hx : ∀ x, x ∈ xs → -9223372036854775808 ≤ x ∧ x ≤ 9223372036854775807) (hn : xs.length ≤ 1000000000) (B : Nat) (A : Option Addr) (c : Nat) (hi : Ints W B A xs) :
    Calls Tryd.prog 42 #[.slice A xs.length c, .func (.func 43) #[] #[.pointer (some ⟨sb, 0, none⟩)]] W fun e W' => e = .returned (.bool (foreign7 X.V xs)) ∧ ∃ q, W' = W.drewN q := by
  have eg : ∀ args w, (callFunc 43 args).run Tryd.prog w = .ok (.enter 43 args) w := enters_of Tryd.func43 (by kernel_rfl) rfl
  rcases Nat.eq_zero_or_pos xs.length with h0 | h0
  · obtain rfl : xs = [] := List.length_eq_zero_iff.1 h0
    exact (Tryd.slices_ContainsFunc_empty (α := Int) A c _ W).mono fun _ _ ⟨he, hw⟩ => ⟨he, 0, hw⟩
  · obtain ⟨b, off, rfl, _, hcell⟩ := hi h0
    have hp : PredAt Tryd.prog 43 #[.pointer (some ⟨sb, 0, none⟩)] (fun x : Int => Value.int .i64 (clamp63 x)) (fun x => !litRight (clamp63 x) X.V) W := fun W' x hb =>
      foreign1_any (h.below hb) (clamp63 x) sb (clamp63_in x).1 (clamp63_in x).2 (hs.below hb hs.lt)
    have h1 := Tryd.slices_ContainsFunc (fun x : Int => Value.int .i64 (clamp63 x)) (fun x => !litRight (clamp63 x) X.V) 43 #[.pointer (some ⟨sb, 0, none⟩)] eg b off xs.length c xs W hp (Nat.le_refl _) (by omega) (fun j hj => by
      rw [hcell j hj, getElem!_pos xs j hj]
      have hc : clamp63 xs[j] = xs[j] := by unfold clamp63; rw [if_pos (hx _ (List.getElem_mem hj))]
      rw [hc]
      simp [List.getD, hj])
    rw [List.take_length] at h1
    have e : (xs.any fun x => !litRight (clamp63 x) X.V) = foreign7 X.V xs := by
      apply any_congr7
      intro x hx'
      unfold clamp63
      rw [if_pos (hx x hx')]
    rw [e] at h1
    exact h1
set_option maxRecDepth 100000 in
set_option maxHeartbeats 1000000 in
theorem foreign_any {W : World} {base : Nat} {X : SX} {fo : List Bool} (h : Sto W base X fo)
    (xs : List Int) (hx : ∀ x, x ∈ xs → -9223372036854775808 ≤ x ∧ x ≤ 9223372036854775807) (hn : xs.length ≤ 1000000000) (B : Nat) (A : Option Addr) (c : Nat) (hi : Ints W B A xs) (hB : B ≤ W.heap.size) :
    Calls Tryd.prog 29 #[.pointer (some ⟨X.s, 0, none⟩), .slice A xs.length c] W fun e W' => e = .returned (.bool (foreign7 X.V xs)) ∧ Below W.heap.size W W' := by
  obtain ⟨wb, hwb⟩ : ∃ wb, wb = W.alloc (.cells #[.pointer (some ⟨X.s, 0, none⟩)] 32) := ⟨_, rfl⟩
  have hb : Below W.heap.size W wb := by rw [hwb]; exact (Below.refl _ _).alloc (Nat.le_refl _) _
  have hsb : Blk wb W.heap.size 32 #[.pointer (some ⟨X.s, 0, none⟩)] := by rw [hwb]; exact Blk.new W _ _
  have HC := Lib.hid (somein_any (h.below hb) W.heap.size hsb xs hx hn B A c (Cells.below hi (hb.mono hB)))
  have HB := Lib.hid hb
  have HWB := Lib.hid hwb
  clear h hx hi hb hsb hwb
  go_enter Tryd.func29, Tryd.ntmps29
  go_wp2_with (go_at_call 42; rw [← HWB.out]; refine HC.out.mono ?_; rintro e3 w3 ⟨rfl, q, rfl⟩)
  go_ret
  exact ⟨rfl, below_drewN HB.out q⟩

set_option maxRecDepth 100000 in
set_option maxHeartbeats 1000000 in
/-- the same as a deferred call -/
theorem forget_d {W : World} {base : Nat} {X : SX} {fo : List Bool} {u : FrameMode} (h : Sto W base X fo) (hf : Fw X fo) :
    CallsD Tryd.prog 30 #[.pointer (some ⟨X.s, 0, none⟩)] u W (fun e u' W' => u' = u ∧ Forgot base X W e W') := by
  have hfl := hf.len
  have hvb := h.vb
  have H := Lib.hid h
  have HF := Lib.hid hf
  have hs8 : W.cell? ⟨X.s, 8, none⟩ = some (.slice X.Af X.fd.length X.cf) := h.st.cell 8
  obtain ⟨n, hn⟩ : ∃ n, n = X.fd.length := ⟨_, rfl⟩
  rw [← hn] at hs8 hfl
  obtain ⟨A0, hA0⟩ : ∃ A0, A0 = X.Af := ⟨_, rfl⟩
  rw [← hA0] at hs8
  have HA0 := Lib.hid hA0
  have HN := Lib.hid hn
  clear h hf hn hA0
  go_enter_d Tryd.func30, Tryd.ntmps30
  go_wp2
  go_loopg [9] (n + 1) (fun gk i wr => ∃ (k : Nat) (fy : List Bool), k ≤ n ∧ gk = n - k + 1 ∧ i = .int .i64 k ∧ Hid (Sto wr base X fy) ∧ Hid (Tn base X W wr) ∧ Hid (∀ l, Lt7 X.V l → (fy.getD (ix l) false = true ↔ l ∈ X.fd.drop k)))
  case atStart => exact ⟨0, fo, by omega, by omega, rfl, H, Lib.hid (Tn.refl base X W), Lib.hid (by rw [List.drop_zero]; exact HF.out.tie)⟩
  case round =>
    obtain ⟨k, fy, hk, rfl, rfl, HS, HT, HTIE⟩ := hrel
    by_cases hlt : k < n
    · have hlt' : k < X.fd.length := by rw [← HN.out]; exact hlt
      obtain ⟨g, hv, hc⟩ := HS.out.foundcell hlt'
      unfold SX.fv at hv
      injection hv with hv1
      obtain ⟨_, hmem⟩ := take_snoc7 hlt'
      have hlx := HF.out.lt _ hmem
      have hdrop : X.fd.drop k = X.fd.getD k 0 :: X.fd.drop (k + 1) := by rw [List.drop_eq_getElem_cons hlt']; simp [List.getD, hlt']
      have hnd := HF.out.nd
      rw [← List.take_append_drop k X.fd, hdrop] at hnd
      obtain ⟨x, hx⟩ : ∃ x, x = X.fd.getD k 0 := ⟨_, rfl⟩
      rw [← hx] at hc hlx hdrop hnd
      have hxn : x ∉ X.fd.drop (k + 1) := fun hm => by
        rw [List.nodup_append] at hnd
        exact (List.nodup_cons.1 hnd.2.1).1 hm
      obtain ⟨e1, b1⟩ := ix_eq hlx
      obtain ⟨hl0, hl1, hl2⟩ := hlx
      have HI := Lib.hid (fun w => index_any x w (by omega) (by omega))
      rw [e1] at HI
      obtain ⟨c0, c5, c7, c8, cf⟩ := HS.out.cells
      obtain ⟨g1, g1f⟩ := HS.out.folcell b1
      obtain ⟨i, hi⟩ : ∃ i, i = ix x := ⟨_, rfl⟩
      obtain ⟨N, hN⟩ : ∃ N, N = 2 * X.V := ⟨_, rfl⟩
      rw [← hi] at HI b1 g1 g1f
      rw [← hN] at c7 b1
      have hb1 : (i : Int) < (N : Int) := by omega
      have HSF := Lib.hid (fun q : Nat => (HS.out.drewN q).setFol i false)
      have HDR := Lib.hid hdrop
      have HXN := Lib.hid hxn
      have HII := Lib.hid hi
      have HLX : Hid (Lt7 X.V x) := Lib.hid ⟨hl0, hl1, hl2⟩
      obtain rfl : A0 = some ⟨g, 0, none⟩ := HA0.out.trans hv1
      clear e1 c0 c5 c8 cf hi hN hmem hdrop hnd hxn hx hv1
      go_wp2
      go_region_law (first | (go_simp; go_at_call 45; refine (HI.out _).mono ?_; rintro e3 w3 ⟨rfl, rfl⟩))
      all_goals
        go_wp2_with fail
        go_roundg (n - k)
        case measure => omega
        case rel =>
          obtain ⟨a1, a2⟩ := HS.out.setFol i false
          refine ⟨k + 1, fy.set i false, by omega, by omega, by go_num, Lib.hid (a1.drewN 1), Lib.hid ((HT.out.trans a2 (Later7.refl _ _)).drewN 1), Lib.hid fun l hl => ?_⟩
          have ht := HTIE.out l hl
          rw [HDR.out] at ht
          by_cases e : l = x
          · subst e
            rw [← HII.out, getD_set_same (by rw [HS.out.flen, HII.out]; exact (ix_eq HLX.out).2)]
            exact ⟨fun h => (by cases h), fun h => absurd h HXN.out⟩
          · rw [getD_set_other (by rw [HII.out]; exact fun e2 => e (ix_inj hl HLX.out e2.symm)), ht]
            simp [e]
    · obtain rfl : k = n := by omega
      have hst := HS.out.st.cell 8
      have hsf := HS.out.st.frozen 8
      have HCL := Lib.hid HS.out.cleaned
      have d8 : wr.cell? ⟨X.s, 8, none⟩ = some (.slice A0 k X.cf) := by rw [HN.out, HA0.out]; exact hst
      clear hst
      have HNL : Hid (X.fd.drop k = []) := Lib.hid (List.drop_eq_nil_of_le (by have := HN.out; omega))
      go_wp2
      go_end0
      have hcl := HCL.out
      rw [← HA0.out] at hcl
      exact ⟨rfl, fy, hcl.1, ⟨HS.out.flen, fun l hl => (by have := HTIE.out l hl; rw [HNL.out] at this; exact this), List.nodup_nil, fun l hl => (by simp [SX.clean] at hl), fun l hl => (by simp [SX.clean] at hl)⟩, HT.out.trans hcl.2.1 (Later7.refl _ _), hcl.2.2.trans_of HT.out.below.size⟩
end Go.Proofs.YtlkgicaajenhaaaDoor
