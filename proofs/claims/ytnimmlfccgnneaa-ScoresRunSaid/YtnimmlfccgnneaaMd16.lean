/- The law's own heap: begin, first, low. -/
import Derived.Test.YtnimmlfccgnneaaHpG
import Derived.Test.YtnimmlfccgnneaaBits
namespace Go.Proofs.Ytnimmlfccgnneaa
open Go.RowKit
set_option linter.unusedVariables false
set_option linter.unusedSimpArgs false

/-- the law's heap: its struct, its scores, who is in -/
structure MB where
  g : Nat
  S : Nat
  I : Nat
def MB.foot (m : MB) (q : Nat) : Prop := q = m.g ∨ q = m.S ∨ q = m.I
structure Md (w : World) (m : MB) (n : Nat) (s : SP) : Prop where
  hg : Blk w m.g 35 #[.slice (some ⟨m.S, 0, none⟩) (n + 1) (n + 1), .slice (some ⟨m.I, 0, none⟩) (n + 1) (n + 1), .int .i64 (s.rise : Nat)]
  hS : Blk w m.S 3 (natCells (0 :: s.sc))
  hI : BlkB w m.I 4 (false :: s.inn)
  ls : s.sc.length = n
  li : s.inn.length = n
  few : n ≤ 100000
  cap : ∀ i, s.sc.getD i 0 ≤ 4503599627370496
  rc : s.rise ≤ 4503599627370496
section
variable {w w' : World} {m : MB} {n : Nat} {s : SP}
theorem Md.drewN (h : Md w m n s) (k : Nat) : Md (w.drewN k) m n s := ⟨h.hg, h.hS, h.hI, h.ls, h.li, h.few, h.cap, h.rc⟩
theorem Md.drew (h : Md w m n s) : Md w.drew m n s := ⟨h.hg, h.hS, h.hI, h.ls, h.li, h.few, h.cap, h.rc⟩
theorem Md.ft {F : Nat → Prop} (h : Md w m n s) (hf : Ft F w w') (hn : ∀ q, m.foot q → ¬ F q) : Md w' m n s :=
  ⟨hf.blk h.hg (hn _ (.inl rfl)), hf.blk h.hS (hn _ (.inr (.inl rfl))), hf.blk h.hI (hn _ (.inr (.inr rfl))), h.ls, h.li, h.few, h.cap, h.rc⟩
theorem Md.low (h : Md w m n s) (hf : Below w.heap.size w w') : Md w' m n s := h.ft (Ft.of_below (F := fun _ => False) hf) fun _ _ e => e
theorem Md.foot_lt (h : Md w m n s) {q : Nat} (hq : m.foot q) : q < w.heap.size := by
  rcases hq with rfl | rfl | rfl
  · exact h.hg.lt
  · exact h.hS.lt
  · exact Blk.lt h.hI
theorem Md.gS (h : Md w m n s) : m.g ≠ m.S := h.hg.ne_ h.hS (by decide)
theorem Md.gI (h : Md w m n s) : m.g ≠ m.I := h.hg.ne_ (show Blk w m.I 4 _ from h.hI) (by decide)
theorem Md.SI (h : Md w m n s) : m.S ≠ m.I := h.hS.ne_ (show Blk w m.I 4 _ from h.hI) (by decide)
theorem Md.g0 (h : Md w m n s) : w.cell? ⟨m.g, 0, none⟩ = some (.slice (some ⟨m.S, 0, none⟩) (n + 1) (n + 1)) := by rw [h.hg.cell]; rfl
theorem Md.g1 (h : Md w m n s) : w.cell? ⟨m.g, 1, none⟩ = some (.slice (some ⟨m.I, 0, none⟩) (n + 1) (n + 1)) := by rw [h.hg.cell]; rfl
theorem Md.g2 (h : Md w m n s) : w.cell? ⟨m.g, 2, none⟩ = some (.int .i64 (s.rise : Nat)) := by rw [h.hg.cell]; rfl
theorem Md.cS (h : Md w m n s) {k : Nat} (hk : k < n) : w.cell? ⟨m.S, k + 1, none⟩ = some (.int .i64 (s.sc.getD k 0 : Nat)) := by
  have := (h.hS.cell (k + 1)).trans (natCells_get (by simp [h.ls]; exact hk))
  simpa using this
theorem Md.cI (h : Md w m n s) {k : Nat} (hk : k < n) : w.cell? ⟨m.I, k + 1, none⟩ = some (.bool (s.inn.getD k false)) := by
  have := BlkB.cell h.hI (i := k + 1) (by simp [h.li]; exact hk)
  simpa using this
theorem Md.setS (h : Md w m n s) (k x : Nat) (hx : x ≤ 4503599627370496) : Md (w.setCell ⟨m.S, k + 1, none⟩ (.int .i64 (x : Nat))) m n ⟨s.sc.set k x, s.inn, s.rise⟩ := by
  refine ⟨h.hg.far h.gS _, ?_, Blk.far (show Blk w m.I 4 _ from h.hI) (Ne.symm h.SI) _, by simp [h.ls], h.li, h.few, fun i => ?_, h.rc⟩
  · have := h.hS.set_ (k + 1) (.int .i64 (x : Nat))
    rw [natCells_set, List.set_cons_succ] at this
    exact this
  · show (s.sc.set k x).getD i 0 ≤ _
    rw [getD_set_nat]
    split
    · exact hx
    · exact h.cap i
theorem Md.setI (h : Md w m n s) (k : Nat) (z : Bool) : Md (w.setCell ⟨m.I, k + 1, none⟩ (.bool z)) m n ⟨s.sc, s.inn.set k z, s.rise⟩ := by
  refine ⟨h.hg.far h.gI _, h.hS.far h.SI _, ?_, h.ls, by simp [h.li], h.few, h.cap, h.rc⟩
  have := BlkB.set_ h.hI (k + 1) z
  rw [List.set_cons_succ] at this
  exact this
theorem Md.setR (h : Md w m n s) (x : Nat) (hx : x ≤ 4503599627370496) : Md (w.setCell ⟨m.g, 2, none⟩ (.int .i64 (x : Nat))) m n ⟨s.sc, s.inn, x⟩ :=
  ⟨h.hg.set_ 2 _, h.hS.far (Ne.symm h.gS) _, Blk.far (show Blk w m.I 4 _ from h.hI) (Ne.symm h.gI) _, h.ls, h.li, h.few, h.cap, hx⟩

set_option maxHeartbeats 2000000 in
theorem mfirst_any (h : Md w m n s) : Calls Try.prog 13 #[.pointer (some ⟨m.g, 0, none⟩)] w fun e w' => e = .returned (.int .i64 (s.first : Nat)) ∧ ∃ k, w' = w.drewN k := by
  have hf := h.few
  have HF : Hid (s.first = best s.sc s.inn n) := Lib.hid (by unfold SP.first; rw [h.ls])
  have H := Lib.hid h
  clear h
  go_enter Try.func13, Try.ntmps13
  go_wp2_with fail
  go_loopg [3, 4] (n + 1) (fun gk bv iv wr => ∃ (k c : Nat), k ≤ n ∧ gk = n - k + 1 ∧ bv = .int .i64 (best s.sc s.inn k : Nat) ∧ iv = .int .i64 ((k : Int) + 1) ∧ wr = w.drewN c)
  case atStart => exact ⟨0, 0, by omega, by omega, rfl, by go_num, rfl⟩
  case round =>
    obtain ⟨k, c, hk, rfl, rfl, rfl, hw⟩ := hrel
    obtain ⟨wi, rfl⟩ : ∃ wi : World, wi = wr := ⟨_, rfl⟩
    have HW := Lib.hid hw
    have HH : Hid (Md wi m n s) := Lib.hid (by rw [hw]; exact H.out.drewN c)
    have g0 := HH.out.g0
    by_cases hlt : k < n
    · have g1 := HH.out.g1
      have ci := HH.out.cI hlt
      have ck := HH.out.cS hlt
      have hbs := best_spec s.sc s.inn k
      have HB : Hid (best s.sc s.inn (k + 1) = if s.inn.getD k false = true ∧ (best s.sc s.inn k = 0 ∨ scV s.sc (best s.sc s.inn k) < s.sc.getD k 0) then k + 1 else best s.sc s.inn k) := Lib.hid rfl
      have hcb : best s.sc s.inn k ≠ 0 → wi.cell? ⟨m.S, best s.sc s.inn k, none⟩ = some (.int .i64 (scV s.sc (best s.sc s.inn k) : Nat)) := fun h0 => by
        obtain ⟨j, hj⟩ : ∃ j, best s.sc s.inn k = j + 1 := ⟨best s.sc s.inn k - 1, by omega⟩
        rw [hj]
        have := HH.out.cS (k := j) (by omega)
        rw [this]
        unfold scV
        rw [Nat.add_sub_cancel]
      have hbl : best s.sc s.inn k ≤ k := by omega
      obtain ⟨bs, hb⟩ : ∃ bs, bs = best s.sc s.inn k := ⟨_, rfl⟩
      rw [← hb] at HB hcb hbl ⊢
      obtain ⟨z, hz⟩ : ∃ z, z = s.inn.getD k false := ⟨_, rfl⟩
      rw [← hz] at HB ci
      obtain ⟨x, hx⟩ : ∃ x : Nat, x = s.sc.getD k 0 := ⟨_, rfl⟩
      rw [← hx] at HB ck
      obtain ⟨y, hy⟩ : ∃ y : Nat, y = scV s.sc bs := ⟨_, rfl⟩
      rw [← hy] at HB hcb
      have hkn : (k : Int) + 1 < ((n : Int) + 1) := by omega
      have hkn2 : (k : Int) < (n : Int) := by omega
      have hbn : (bs : Int) < ((n : Int) + 1) := by omega
      have HCB := Lib.hid hcb
      clear hbs hb hz hx hy hw hcb
      rcases z with _ | _
      · have e := HB.out
        rw [if_neg (by simp)] at e
        have HE := Lib.hid e
        clear e
        go_wp2_with fail
        go_quiet (fail)
        go_wp2_with fail
        go_roundg (n - k)
        case measure => omega
        case rel => exact ⟨k + 1, _, by omega, by omega, by rw [HE.out], by go_num, by rw [HW.out, World.drewN_drewN]⟩
      · by_cases h0 : bs = 0
        · subst h0
          have e := HB.out
          rw [if_pos ⟨rfl, .inl rfl⟩] at e
          have HE := Lib.hid e
          clear e
          go_wp2_with fail
          go_quiet (fail)
          go_wp2_with fail
          go_roundg (n - k)
          case measure => omega
          case rel => exact ⟨k + 1, _, by omega, by omega, by rw [HE.out]; go_num, by go_num, by rw [HW.out, World.drewN_drewN]⟩
        · have cb := HCB.out h0
          have hd : ((bs : Int) == 0) = false := by simp; omega
          by_cases hxy : y < x
          · have e := HB.out
            rw [if_pos ⟨rfl, .inr hxy⟩] at e
            have HE := Lib.hid e
            have hgt : decide ((y : Int) < (x : Int)) = true := by simp; omega
            have hgt2 : (y : Int) < (x : Int) := by omega
            clear e h0
            go_wp2_with fail
            go_quiet (fail)
            go_wp2_with fail
            go_roundg (n - k)
            case measure => omega
            case rel => exact ⟨k + 1, _, by omega, by omega, by rw [HE.out]; go_num, by go_num, by rw [HW.out, World.drewN_drewN]⟩
          · have e := HB.out
            rw [if_neg (by rintro ⟨_, h | h⟩ <;> omega)] at e
            have HE := Lib.hid e
            have hgt : decide ((y : Int) < (x : Int)) = false := by simp; omega
            have hgt2 : ¬ (y : Int) < (x : Int) := by omega
            clear e h0
            go_wp2_with fail
            go_quiet (fail)
            go_wp2_with fail
            go_roundg (n - k)
            case measure => omega
            case rel => exact ⟨k + 1, _, by omega, by omega, by rw [HE.out], by go_num, by rw [HW.out, World.drewN_drewN]⟩
    · obtain rfl : n = k := by omega
      clear hlt hw
      go_wp2
      go_ret
      exact ⟨by rw [HF.out]; rfl, c, HW.out⟩

set_option maxHeartbeats 2000000 in
theorem mlow_any (h : Md w m n s) : Calls Try.prog 22 #[.pointer (some ⟨m.g, 0, none⟩)] w fun e w' => e = .returned (.tuple #[]) ∧ Md w' m n s.low ∧ Ft m.foot w w' := by
  have g0 := h.g0
  have hf := h.few
  have hr := h.rc
  have HLS := Lib.hid h.ls
  have HLI := Lib.hid h.li
  have H := Lib.hid h
  obtain ⟨q, hq⟩ : ∃ q : Nat, q = max (s.rise / 1073741824) 1 := ⟨_, rfl⟩
  have hqb : q ≤ 4503599627370496 := by omega
  have hqe : max ((s.rise : Int) / 1073741824) 1 = (q : Int) := by omega
  have e2 : Int.tdiv (s.rise : Int) 1073741824 = (s.rise : Int) / 1073741824 := Int.tdiv_eq_ediv_of_nonneg (by omega)
  have HQ : Hid (s.low = ⟨s.sc.map (· / 1073741824), s.inn, q⟩) := Lib.hid (by unfold SP.low; rw [hq])
  clear h hq
  go_enter Try.func22, Try.ntmps22
  go_wp2_with fail
  go_loopg [8] (n + 2) (fun gk iv wr => ∃ (k : Nat) (sk : List Nat), k ≤ n + 1 ∧ gk = n + 1 - k + 1 ∧ iv = .int .i64 (k : Nat) ∧ Hid (Md wr m n ⟨sk, s.inn, s.rise⟩) ∧ Hid (∀ i, sk.getD i 0 = if i + 1 < k then s.sc.getD i 0 / 1073741824 else s.sc.getD i 0) ∧ Hid (Ft m.foot w wr))
  case atStart => exact ⟨0, s.sc, by omega, by omega, rfl, H, Lib.hid (fun i => by rw [if_neg (by omega)]), Lib.hid (Ft.refl _)⟩
  case round =>
    obtain ⟨k, sk, hk, rfl, rfl, H, HE, HF⟩ := hrel
    by_cases hlt : k < n + 1
    · have hkI : (k : Int) < (n : Int) + 1 := by omega
      have g0 := H.out.g0
      have fk := H.out.hS.frozen k
      rcases k with _ | k
      · have c0 : wr.cell? ⟨m.S, 0, none⟩ = some (.int .i64 0) := by
          have := (H.out.hS.cell 0).trans (natCells_get (by simp))
          simpa using this
        have HS0 : Hid (Md (wr.setCell ⟨m.S, 0, none⟩ (.int .i64 0)) m n ⟨sk, s.inn, s.rise⟩) := Lib.hid (by
          have h := H.out
          refine ⟨h.hg.far h.gS _, ?_, Blk.far (show Blk wr m.I 4 _ from h.hI) (Ne.symm h.SI) _, h.ls, h.li, h.few, h.cap, h.rc⟩
          have := h.hS.set_ 0 (.int .i64 ((0 : Nat) : Int))
          rw [natCells_set, List.set_cons_zero] at this
          exact this)
        have HF0 := Lib.hid (HF.out.set (q := m.S) (fun _ => .inr (.inl rfl)) 0 (.int .i64 0))
        clear hlt
        go_wp2_with fail
        go_roundg (n + 1)
        case measure => omega
        case rel => exact ⟨1, _, by omega, by omega, by go_num, HS0, Lib.hid (fun i => by rw [HE.out i, if_neg (by omega), if_neg (by omega)]), HF0⟩
      · have hkn : k < n := by omega
        have ck := H.out.cS hkn
        have hx0 := H.out.cap k
        have HE2 : Hid (∀ y, y = sk.getD k 0 / 1073741824 → ∀ i, (sk.set k y).getD i 0 = if i + 1 < k + 1 + 1 then s.sc.getD i 0 / 1073741824 else s.sc.getD i 0) := Lib.hid fun y hy i => by
          have hkk := HE.out k
          rw [if_neg (by omega)] at hkk
          have hls : sk.length = n := H.out.ls
          rw [getD_set_nat, hls, hy, hkk]
          by_cases e : i = k
          · subst e
            rw [if_pos ⟨rfl, hkn⟩, if_pos (by omega)]
          · rw [if_neg (fun h => e h.1), HE.out i]
            by_cases e2 : i < k
            · rw [if_pos (by omega), if_pos (by omega)]
            · rw [if_neg (by omega), if_neg (by omega)]
        simp only at ck hx0
        obtain ⟨x, hx⟩ : ∃ x : Nat, x = sk.getD k 0 := ⟨_, rfl⟩
        rw [← hx] at ck hx0 HE2
        obtain ⟨y, hy⟩ : ∃ y : Nat, y = x / 1073741824 := ⟨_, rfl⟩
        have d1 : (x : Int) / 1073741824 = (y : Int) := by omega
        have d2 : Int.tdiv (x : Int) 1073741824 = (y : Int) := by rw [Int.tdiv_eq_ediv_of_nonneg (by omega)]; exact d1
        have wy : IntKind.i64.wrap (y : Int) = (y : Int) := i64_mid (by omega)
        have HN := Lib.hid (H.out.setS k y (by omega))
        have HFN := Lib.hid (HF.out.set (q := m.S) (fun _ => .inr (.inl rfl)) (k + 1) (.int .i64 (y : Nat)))
        have HY := Lib.hid hy
        clear hx hy hlt
        go_wp2_with fail
        go_roundg (n + 1 - (k + 1))
        case measure => omega
        case rel => exact ⟨k + 1 + 1, _, by omega, by omega, by go_num, HN, Lib.hid (HE2.out y HY.out), HFN⟩
    · obtain rfl : k = n + 1 := by omega
      have hes : sk = s.sc.map (· / 1073741824) := by
        have hls : sk.length = n := H.out.ls
        apply List.ext_getElem
        · rw [hls, List.length_map, HLS.out]
        · intro i h1 h2
          have := HE.out i
          rw [if_pos (by omega)] at this
          simpa [List.getD, h1, show i < s.sc.length by simpa using h2] using this
      subst hes
      have g2 := H.out.g2
      have fg2 := H.out.hg.frozen 2
      have HR := Lib.hid (H.out.setR q hqb)
      have HFR := Lib.hid (HF.out.set (q := m.g) (fun _ => .inl rfl) 2 (.int .i64 (q : Nat)))
      clear hlt
      by_cases hc : (s.rise : Int) / 1073741824 < 1
      · obtain rfl : q = 1 := by omega
        clear hqe
        go_wp2
        all_goals first | (exfalso; omega) | skip
        all_goals go_end0
        all_goals exact ⟨rfl, by rw [HQ.out]; exact HR.out, HFR.out⟩
      · have hq2 : (s.rise : Int) / 1073741824 = (q : Int) := by omega
        have hq3 : ¬ (q : Int) < 1 := by omega
        clear hqe
        go_wp2
        all_goals first | (exfalso; omega) | skip
        all_goals go_end0
        all_goals exact ⟨rfl, by rw [HQ.out]; exact HR.out, HFR.out⟩
end
end Go.Proofs.Ytnimmlfccgnneaa
