/- Whether proofs are the same. -/
import Derived.Test.YtdehlikmefpgnaaDoorDrat6
namespace Go.Proofs.YtdehlikmefpgnaaDoor
open Go.RowKit
set_option linter.unusedSimpArgs false
set_option linter.unusedVariables false

theorem next_take {α : Type} {xs ys : List α} {k : Nat} (d : α) (h : xs.take k = ys.take k) (h1 : k < xs.length) (h2 : k < ys.length) (e : xs.getD k d = ys.getD k d) : xs.take (k + 1) = ys.take (k + 1) := by
  rw [List.take_succ_eq_append_getElem h1, List.take_succ_eq_append_getElem h2, h]
  simp [List.getD, h1, h2] at e
  rw [e]
theorem ne_getD {α : Type} {xs ys : List α} {k : Nat} (d : α) (e : xs.getD k d ≠ ys.getD k d) : xs ≠ ys := fun h => e (by rw [h])
theorem take_all {α : Type} {xs ys : List α} {k : Nat} (h : xs.take k = ys.take k) (h1 : xs.length ≤ k) (h2 : ys.length ≤ k) : xs = ys := by
  rwa [List.take_of_length_le h1, List.take_of_length_le h2] at h

set_option maxRecDepth 100000 in
set_option maxHeartbeats 4000000 in
theorem equalInts_any (xs ys : List Int) (B c c' : Nat) (A A' : Option Addr) (w : World) (h : Ints w B A xs) (h' : Ints w B A' ys) (hx : xs.length ≤ 1099511627776) (hy : ys.length ≤ 1099511627776) :
    Calls Tryd.prog 35 #[.slice A xs.length c, .slice A' ys.length c'] w fun e w' => e = .returned (.bool (decide (xs = ys))) ∧ ∃ n, w' = w.drewN n := by
  have H := Lib.hid h
  have H' := Lib.hid h'
  clear h h'
  rcases hl : ((xs.length : Int) == (ys.length : Int)) with _ | _
  · have hf : decide (xs = ys) = false := by
      rw [decide_eq_false]
      intro e
      rw [e] at hl
      simp at hl
    rw [hf]
    clear hf
    have hl' : ((xs.length : Int) != (ys.length : Int)) = true := by simpa using hl
    go_enter Tryd.func35, Tryd.ntmps35
    go_wp2
    go_ret
    exact ⟨rfl, 0, rfl⟩
  · have hle : xs.length = ys.length := by simp at hl; omega
    have HLE := Lib.hid hle
    clear hle
    have hl' : ((xs.length : Int) != (ys.length : Int)) = false := by simpa using hl
    go_enter Tryd.func35, Tryd.ntmps35
    go_wp2
    clear hl hl'
    go_loopg [13] (xs.length + 1) (fun g i w' => ∃ (k m : Nat), w' = w.drewN m ∧ k ≤ xs.length ∧ g = xs.length - k + 1 ∧ i = .int .i64 k ∧ xs.take k = ys.take k)
    case atStart => exact ⟨0, 0, rfl, by omega, by omega, rfl, rfl⟩
    case round =>
      obtain ⟨k, m, rfl, hk, rfl, rfl, hs⟩ := hrel
      have HS := Lib.hid hs
      clear hs
      by_cases hlt : k < xs.length
      · have hlt' : k < ys.length := by have := HLE.out; omega
        obtain ⟨b, off, rfl, _, hcell⟩ := H.out.at_ hlt
        obtain ⟨b', off', rfl, _, hcell'⟩ := H'.out.at_ hlt'
        have hne := ne_getD (xs := xs) (ys := ys) (k := k) 0
        have htn := next_take (xs := xs) (ys := ys) (k := k) 0 HS.out hlt hlt'
        obtain ⟨x, hx0⟩ : ∃ x, x = xs.getD k 0 := ⟨_, rfl⟩
        obtain ⟨y, hy0⟩ : ∃ y, y = ys.getD k 0 := ⟨_, rfl⟩
        rw [← hx0] at hcell hne htn
        rw [← hy0] at hcell' hne htn
        clear hx0 hy0
        have HNE := Lib.hid hne
        have HTN := Lib.hid htn
        clear hne htn
        have hk0 : (0 : Int) ≤ (k : Int) := Int.natCast_nonneg _
        have hk1 : (k : Int) < (xs.length : Int) := by omega
        have hk2 : (k : Int) < (ys.length : Int) := by omega
        rcases hq : (x == y) with _ | _
        · have hq' : (x != y) = true := by simpa using hq
          have HF : Hid (decide (xs = ys) = false) := decide_eq_false (HNE.out (by simpa using hq))
          go_wp2
          go_quiet (fail)
          go_wp2
          go_ret
          exact ⟨ret_bool HF.out.symm, _, World.drewN_drewN _ _ _⟩
        · have hq' : (x != y) = false := by simpa using hq
          have hxy : x = y := by simpa using hq
          have HXY := Lib.hid hxy
          clear hxy
          go_wp2
          go_quiet (fail)
          go_wp2
          go_roundg (xs.length - k)
          case measure => omega
          case rel => exact ⟨k + 1, _, rfl, by omega, by omega, by go_num, HTN.out HXY.out⟩
      · go_wp2
        go_ret
        refine ⟨ret_bool (decide_eq_true ?_).symm, _, rfl⟩
        have := HLE.out
        exact take_all HS.out (by omega) (by omega)

set_option maxRecDepth 100000 in
set_option maxHeartbeats 4000000 in
theorem same6_any (ps qs : List Stp) (B c c' : Nat) (A A' : Option Addr) (w : World) (h : Steps w B A ps) (h' : Steps w B A' qs) (hx : ps.length ≤ 1099511627776) (hy : qs.length ≤ 1099511627776)
    (hxl : ∀ j, (ps.getD j stp0).2.length ≤ 1099511627776) (hyl : ∀ j, (qs.getD j stp0).2.length ≤ 1099511627776) :
    Calls Tryd.prog 19 #[.slice A ps.length c, .slice A' qs.length c'] w fun e w' => e = .returned (.bool (decide (ps = qs))) ∧ ∃ n, w' = w.drewN n := by
  have H := Lib.hid h
  have H' := Lib.hid h'
  have HXL := Lib.hid hxl
  have HYL := Lib.hid hyl
  clear h h' hxl hyl
  rcases hl : ((ps.length : Int) == (qs.length : Int)) with _ | _
  · have hf : decide (ps = qs) = false := by
      rw [decide_eq_false]
      intro e
      rw [e] at hl
      simp at hl
    rw [hf]
    clear hf
    have hl' : ((ps.length : Int) != (qs.length : Int)) = true := by simpa using hl
    go_enter Tryd.func19, Tryd.ntmps19
    go_wp2
    go_ret
    exact ⟨rfl, 0, rfl⟩
  · have hle : ps.length = qs.length := by simp at hl; omega
    have HLE := Lib.hid hle
    clear hle
    have hl' : ((ps.length : Int) != (qs.length : Int)) = false := by simpa using hl
    go_enter Tryd.func19, Tryd.ntmps19
    go_wp2
    clear hl hl'
    go_loopg [14] (ps.length + 1) (fun g i w' => ∃ (k m : Nat), w' = w.drewN m ∧ k ≤ ps.length ∧ g = ps.length - k + 1 ∧ i = .int .i64 k ∧ ps.take k = qs.take k)
    case atStart => exact ⟨0, 0, rfl, by omega, by omega, rfl, rfl⟩
    case round =>
      obtain ⟨k, m, rfl, hk, rfl, rfl, hs⟩ := hrel
      have HS := Lib.hid hs
      clear hs
      by_cases hlt : k < ps.length
      · have hlt' : k < qs.length := by have := HLE.out; omega
        obtain ⟨b, off, Ak, ck, rfl, _, hd, hcell, hint⟩ := H.out.at_ hlt
        obtain ⟨b', off', Ak', ck', rfl, _, hd', hcell', hint'⟩ := H'.out.at_ hlt'
        have hxk := HXL.out k
        have hyk := HYL.out k
        have hne := ne_getD (xs := ps) (ys := qs) (k := k) stp0
        have htn := next_take (xs := ps) (ys := qs) (k := k) stp0 HS.out hlt hlt'
        obtain ⟨⟨d, xs⟩, hxs⟩ : ∃ xs, xs = ps.getD k stp0 := ⟨_, rfl⟩
        obtain ⟨⟨d', ys⟩, hys⟩ : ∃ ys, ys = qs.getD k stp0 := ⟨_, rfl⟩
        rw [← hxs] at hd hcell hint hxk hne htn
        rw [← hys] at hd' hcell' hint' hyk hne htn
        clear hxs hys
        simp only at hd hcell hint hxk hd' hcell' hint' hyk
        have HI := Lib.hid hint
        have HI' := Lib.hid hint'
        have HNE := Lib.hid hne
        have HTN := Lib.hid htn
        clear hint hint' hne htn
        have hk0 : (0 : Int) ≤ (k : Int) := Int.natCast_nonneg _
        have hk1 : (k : Int) < (ps.length : Int) := by omega
        have hk2 : (k : Int) < (qs.length : Int) := by omega
        rcases hdd : (d == d') with _ | _
        · have hdd' : (d != d') = true := by simpa using hdd
          have HF : Hid (decide (ps = qs) = false) := decide_eq_false (HNE.out (fun e => by
            have := congrArg Prod.fst e
            simp only at this
            rw [this] at hdd
            simp at hdd))
          go_wp2
          go_quiet (fail)
          go_wp2
          go_ret
          exact ⟨ret_bool HF.out.symm, _, World.drewN_drewN _ _ _⟩
        · have hdd' : (d != d') = false := by simpa using hdd
          have hde : d = d' := by simpa using hdd
          have HDE := Lib.hid hde
          clear hde
          rcases hq : ((xs.length : Int) == (ys.length : Int)) with _ | _
          · have hq' : ((xs.length : Int) != (ys.length : Int)) = true := by simpa using hq
            have HF : Hid (decide (ps = qs) = false) := decide_eq_false (HNE.out (fun e => by
              have := congrArg Prod.snd e
              simp only at this
              rw [this] at hq
              simp at hq))
            go_wp2
            go_quiet (fail)
            go_wp2
            go_ret
            exact ⟨ret_bool HF.out.symm, _, World.drewN_drewN _ _ _⟩
          · have hq' : ((xs.length : Int) != (ys.length : Int)) = false := by simpa using hq
            have hqe : xs.length = ys.length := by simp at hq; omega
            have HQE := Lib.hid hqe
            clear hqe
            go_wp2
            go_quiet (fail)
            go_wp2
            clear hq hq' hdd hdd'
            go_loopg [49] (xs.length + 1) (fun g i w' => ∃ (j m : Nat), w' = w.drewN m ∧ j ≤ xs.length ∧ g = xs.length - j + 1 ∧ i = .int .i64 j ∧ xs.take j = ys.take j)
            case atStart => exact ⟨0, _, rfl, by omega, by omega, rfl, rfl⟩
            case round =>
              obtain ⟨j, m, rfl, hj, rfl, rfl, hsj⟩ := hrel
              have HSJ := Lib.hid hsj
              clear hsj
              by_cases hlt : j < xs.length
              · have hlt' : j < ys.length := by have := HQE.out; omega
                obtain ⟨b2, off2, rfl, _, hcell2⟩ := HI.out.at_ hlt
                obtain ⟨b3, off3, rfl, _, hcell3⟩ := HI'.out.at_ hlt'
                have hne := ne_getD (xs := xs) (ys := ys) (k := j) 0
                have htn := next_take (xs := xs) (ys := ys) (k := j) 0 HSJ.out hlt hlt'
                obtain ⟨x, hx0⟩ : ∃ x, x = xs.getD j 0 := ⟨_, rfl⟩
                obtain ⟨y, hy0⟩ : ∃ y, y = ys.getD j 0 := ⟨_, rfl⟩
                rw [← hx0] at hcell2 hne htn
                rw [← hy0] at hcell3 hne htn
                clear hx0 hy0
                have HNEJ := Lib.hid hne
                have HTNJ := Lib.hid htn
                clear hne htn
                have hj0 : (0 : Int) ≤ (j : Int) := Int.natCast_nonneg _
                have hj1 : (j : Int) < (xs.length : Int) := by omega
                have hj2 : (j : Int) < (ys.length : Int) := by omega
                rcases hq : (x == y) with _ | _
                · have hq' : (x != y) = true := by simpa using hq
                  have HF : Hid (decide (ps = qs) = false) := decide_eq_false (HNE.out (fun e => HNEJ.out (by simpa using hq) (congrArg Prod.snd e)))
                  go_wp2
                  go_quiet (fail)
                  go_wp2
                  go_ret
                  exact ⟨ret_bool HF.out.symm, _, World.drewN_drewN _ _ _⟩
                · have hq' : (x != y) = false := by simpa using hq
                  have hxy : x = y := by simpa using hq
                  have HXY := Lib.hid hxy
                  clear hxy
                  go_wp2
                  go_quiet (fail)
                  go_wp2
                  go_roundg (xs.length - j)
                  case measure => omega
                  case rel => exact ⟨j + 1, _, rfl, by omega, by omega, by go_num, HTNJ.out HXY.out⟩
              · go_wp2
                go_roundg (ps.length - k)
                case measure => omega
                case rel =>
                  refine ⟨k + 1, _, rfl, by omega, by omega, by go_num, HTN.out ?_⟩
                  have hqe := HQE.out
                  have e := take_all HSJ.out (by omega) (by omega)
                  exact Prod.ext HDE.out e
      · go_wp2
        go_ret
        refine ⟨ret_bool (decide_eq_true ?_).symm, _, rfl⟩
        have := HLE.out
        exact take_all HS.out (by omega) (by omega)

set_option maxRecDepth 100000 in
set_option maxHeartbeats 4000000 in
theorem same1_any (d d' : Bool) (xs ys : List Int) (B c c' : Nat) (A A' : Option Addr) (w : World) (h : Ints w B A xs) (h' : Ints w B A' ys) (hB : B ≤ w.heap.size) (hx : xs.length ≤ 1099511627776) (hy : ys.length ≤ 1099511627776) :
    Calls Tryd.prog 34 #[.agg #[.bool d, .slice A xs.length c], .agg #[.bool d', .slice A' ys.length c']] w fun e w' => e = .returned (.bool (decide ((d, xs) = (d', ys)))) ∧ Below w.heap.size w w' := by
  obtain ⟨w1, hw1⟩ : ∃ w1, w1 = (w.alloc (.cells #[.bool d, .slice A xs.length c] 42)).alloc (.cells #[.bool d', .slice A' ys.length c'] 42) := ⟨_, rfl⟩
  have hi : Ints w1 B A xs := by rw [hw1]; exact (Cells.alloc h hB _).alloc (by simp; omega) _
  have hi' : Ints w1 B A' ys := by rw [hw1]; exact (Cells.alloc h' hB _).alloc (by simp; omega) _
  have hBel : Below w.heap.size w w1 := by rw [hw1]; exact ((Below.refl _ _).alloc (Nat.le_refl _) _).alloc (by simp) _
  have EQ := Lib.hid (equalInts_any xs ys B c c' A A' w1 hi hi' hx hy)
  have HBEL := Lib.hid hBel
  rw [hw1] at EQ
  clear h h' hi hi' hBel hw1
  rcases hdd : (d == d') with _ | _
  · have hf : decide ((d, xs) = (d', ys)) = false := by
      rw [decide_eq_false]
      intro e
      have := congrArg Prod.fst e
      simp only at this
      rw [this] at hdd
      simp at hdd
    rw [hf]
    clear hf
    go_enter Tryd.func34, Tryd.ntmps34
    go_wp2
    go_ret
    exact ⟨rfl, ((Below.refl _ _).alloc (Nat.le_refl _) _).alloc (by simp) _⟩
  · have hde : d = d' := by simpa using hdd
    have hf : decide ((d, xs) = (d', ys)) = decide (xs = ys) := by rw [hde]; simp
    rw [hf]
    clear hf hde
    generalize decide (xs = ys) = q at EQ
    go_enter Tryd.func34, Tryd.ntmps34
    go_wp2_with fail
    refine EQ.out.mono ?_
    rintro e w2 ⟨rfl, n, rfl⟩
    go_wp2
    go_ret
    exact ⟨rfl, below_drewN (((Below.refl _ _).alloc (Nat.le_refl _) _).alloc (by simp) _) n⟩

set_option maxRecDepth 100000 in
set_option maxHeartbeats 4000000 in
theorem equalFunc_any (ps qs : List Stp) (B c c' : Nat) (A A' : Option Addr) (w : World) (h : Steps w B A ps) (h' : Steps w B A' qs) (hB : B ≤ w.heap.size) (hx : ps.length ≤ 1099511627776) (hy : qs.length ≤ 1099511627776)
    (hxl : ∀ j, (ps.getD j stp0).2.length ≤ 1099511627776) (hyl : ∀ j, (qs.getD j stp0).2.length ≤ 1099511627776) :
    Calls Tryd.prog 33 #[.slice A ps.length c, .slice A' qs.length c', .func (.func 34) #[] #[]] w fun e w' => e = .returned (.bool (decide (ps = qs))) ∧ Below w.heap.size w w' := by
  have H := Lib.hid h
  have H' := Lib.hid h'
  have HXL := Lib.hid hxl
  have HYL := Lib.hid hyl
  clear h h' hxl hyl
  rcases hl : ((ps.length : Int) == (qs.length : Int)) with _ | _
  · have hf : decide (ps = qs) = false := by
      rw [decide_eq_false]
      intro e
      rw [e] at hl
      simp at hl
    rw [hf]
    clear hf
    have hl' : ((ps.length : Int) != (qs.length : Int)) = true := by simpa using hl
    go_enter Tryd.func33, Tryd.ntmps33
    go_wp2
    go_ret
    exact ⟨rfl, Below.refl _ _⟩
  · have hle : ps.length = qs.length := by simp at hl; omega
    have HLE := Lib.hid hle
    clear hle
    have hl' : ((ps.length : Int) != (qs.length : Int)) = false := by simpa using hl
    go_enter Tryd.func33, Tryd.ntmps33
    go_wp2
    clear hl hl'
    go_loopg [17] (ps.length + 1) (fun g i w' => ∃ (k : Nat), Below w.heap.size w w' ∧ k ≤ ps.length ∧ g = ps.length - k + 1 ∧ i = .int .i64 k ∧ ps.take k = qs.take k)
    case atStart => exact ⟨0, Below.refl _ _, by omega, by omega, rfl, rfl⟩
    case round =>
      obtain ⟨k, hb, hk, rfl, rfl, hs⟩ := hrel
      obtain ⟨wo, rfl⟩ : ∃ wo : World, wo = wr := ⟨_, rfl⟩
      have HS := Lib.hid hs
      have HB0 := Lib.hid hb
      have hsz := hb.size
      clear hs hb
      by_cases hlt : k < ps.length
      · have hlt' : k < qs.length := by have := HLE.out; omega
        obtain ⟨b, off, Ak, ck, rfl, hbB, hd, hcell, hint⟩ := (H.out.below (HB0.out.mono hB)).at_ hlt
        obtain ⟨b', off', Ak', ck', rfl, hbB', hd', hcell', hint'⟩ := (H'.out.below (HB0.out.mono hB)).at_ hlt'
        have hxk := HXL.out k
        have hyk := HYL.out k
        have hne := ne_getD (xs := ps) (ys := qs) (k := k) stp0
        have htn := next_take (xs := ps) (ys := qs) (k := k) stp0 HS.out hlt hlt'
        obtain ⟨⟨d, xs⟩, hxs⟩ : ∃ xs, xs = ps.getD k stp0 := ⟨_, rfl⟩
        obtain ⟨⟨d', ys⟩, hys⟩ : ∃ ys, ys = qs.getD k stp0 := ⟨_, rfl⟩
        rw [← hxs] at hd hcell hint hxk hne htn
        rw [← hys] at hd' hcell' hint' hyk hne htn
        clear hxs hys
        simp only at hd hcell hint hxk hd' hcell' hint' hyk
        have hd2 := (World.cell?_alloc_lt wo (.cells #[.bool d, .slice Ak xs.length ck] 42) ⟨b', off' + k * 2, none⟩ (by simp; omega)).trans hd'
        have hcell2 := (World.cell?_alloc_lt wo (.cells #[.bool d, .slice Ak xs.length ck] 42) ⟨b', off' + k * 2 + 1, none⟩ (by simp; omega)).trans hcell'
        obtain ⟨w1, hw1⟩ : ∃ w1, w1 = (wo.alloc (.cells #[.bool d, .slice Ak xs.length ck] 42)).alloc (.cells #[.bool d', .slice Ak' ys.length ck'] 42) := ⟨_, rfl⟩
        have hi : Ints w1 B Ak xs := by rw [hw1]; exact (Cells.alloc hint (by omega) _).alloc (by simp; omega) _
        have hi' : Ints w1 B Ak' ys := by rw [hw1]; exact (Cells.alloc hint' (by omega) _).alloc (by simp; omega) _
        have hbel : Below w.heap.size w w1 := by rw [hw1]; exact (HB0.out.alloc (by omega) _).alloc (by simp; omega) _
        have LA := Lib.hid (same1_any d d' xs ys B ck ck' Ak Ak' w1 hi hi' (by have := hbel.size; omega) hxk hyk)
        have HBEL := Lib.hid hbel
        have HNE := Lib.hid hne
        have HTN := Lib.hid htn
        clear hi hi' hint hint' hne htn hbel
        rw [hw1] at LA HBEL
        clear hw1
        rcases hq : decide ((d, xs) = (d', ys)) with _ | _
        · rw [hq] at LA
          have HQ := Lib.hid hq
          clear hq
          go_wp2_with fail
          refine LA.out.mono ?_
          rintro e w2 ⟨rfl, hb2⟩
          have HB2 := Lib.hid hb2
          clear hb2
          go_wp2
          go_ret
          exact ⟨ret_bool (decide_eq_false (HNE.out (of_decide_eq_false HQ.out))).symm, HBEL.out.trans (HB2.out.mono HBEL.out.size)⟩
        · rw [hq] at LA
          have HQ := Lib.hid hq
          clear hq
          go_wp2_with fail
          refine LA.out.mono ?_
          rintro e w2 ⟨rfl, hb2⟩
          have HB2 := Lib.hid hb2
          clear hb2
          go_wp2
          go_roundg (ps.length - k)
          case measure => omega
          case rel => exact ⟨k + 1, HBEL.out.trans (HB2.out.mono HBEL.out.size), by omega, by omega, by go_num, HTN.out (of_decide_eq_true HQ.out)⟩
      · go_wp2
        go_ret
        refine ⟨ret_bool (decide_eq_true ?_).symm, HB0.out⟩
        have := HLE.out
        exact take_all HS.out (by omega) (by omega)

theorem sameProof_any (ps qs : List Stp) (B c c' : Nat) (A A' : Option Addr) (w : World) (h : Steps w B A ps) (h' : Steps w B A' qs) (hB : B ≤ w.heap.size) (hx : ps.length ≤ 1099511627776) (hy : qs.length ≤ 1099511627776)
    (hxl : ∀ j, (ps.getD j stp0).2.length ≤ 1099511627776) (hyl : ∀ j, (qs.getD j stp0).2.length ≤ 1099511627776) :
    Calls Tryd.prog 20 #[.slice A ps.length c, .slice A' qs.length c'] w fun e w' => e = .returned (.bool (decide (ps = qs))) ∧ Below w.heap.size w w' := by
  have EF := Lib.hid (equalFunc_any ps qs B c c' A A' w h h' hB hx hy hxl hyl)
  generalize decide (ps = qs) = q at EF
  clear h h' hxl hyl
  go_enter Tryd.func20, Tryd.ntmps20
  go_wp2_with fail
  refine EF.out.mono ?_
  rintro e w2 ⟨rfl, hb2⟩
  have HB2 := Lib.hid hb2
  clear hb2
  go_wp2
  go_ret
  exact ⟨rfl, HB2.out⟩
end Go.Proofs.YtdehlikmefpgnaaDoor
