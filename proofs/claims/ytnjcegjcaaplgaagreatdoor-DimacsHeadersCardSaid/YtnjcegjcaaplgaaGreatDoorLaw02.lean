/- What the helpers of the second layer's statements answer. -/
import Derived.Test.YtnjcegjcaaplgaaGreatDoorCnf3
import Derived.Test.YtnjcegjcaaplgaaGreatDoorRawMath
namespace Go.Proofs.YtnjcegjcaaplgaaGreatDoor
open Go.RowKit

theorem take_next {α : Type} {xs ys : List α} {k : Nat} (d : α) (h : xs.take k = ys.take k) (h1 : k < xs.length) (h2 : k < ys.length) (e : xs.getD k d = ys.getD k d) : xs.take (k + 1) = ys.take (k + 1) := by
  rw [List.take_succ_eq_append_getElem h1, List.take_succ_eq_append_getElem h2, h]
  simp [List.getD, h1, h2] at e
  rw [e]
theorem getD_ne {α : Type} {xs ys : List α} {k : Nat} (d : α) (e : xs.getD k d ≠ ys.getD k d) : xs ≠ ys := fun h => e (by rw [h])

/-- the same formula -/
def sameForm (V V' : Int) (xss yss : List (List Int)) : Bool := decide (V = V' ∧ xss = yss)

theorem same_any (V V' : Int) (xss yss : List (List Int)) (B : Nat) (A A' : Option Addr) (c c' : Nat) (w : World) (hx : xss.length ≤ 1099511627776) (hxl : ∀ j, (xss.getD j []).length ≤ 1099511627776) (hyl : ∀ j, (yss.getD j []).length ≤ 1099511627776)
    (h : Rows w B A xss) (h' : Rows w B A' yss) (hB : B ≤ w.heap.size) :
    Calls Tryz.prog 9 #[.agg #[.int .i64 V, .slice A xss.length c], .agg #[.int .i64 V', .slice A' yss.length c']] w fun e w' => e = .returned (.bool (sameForm V V' xss yss)) ∧ Below w.heap.size w w' := by
  have H := Lib.hid h
  have H' := Lib.hid h'
  have HXL := Lib.hid hxl
  have HYL := Lib.hid hyl
  clear h h' hxl hyl
  rcases hv : (V == V') with _ | _
  · have hf : sameForm V V' xss yss = false := by unfold sameForm; simp at hv; simp [hv]
    rw [hf]
    clear hf
    have hv' : (V != V') = true := by simpa using hv
    go_enter Tryz.func9, Tryz.ntmps9
    go_wp2
    go_ret
    exact ⟨rfl, ((Below.refl _ _).alloc (Nat.le_refl _) _).alloc (by simp) _⟩
  · have hve : V = V' := by simpa using hv
    have HVE := Lib.hid hve
    clear hve
    have hv' : (V != V') = false := by simpa using hv
    rcases hl : ((xss.length : Int) == (yss.length : Int)) with _ | _
    · have hf : sameForm V V' xss yss = false := by
        unfold sameForm
        rw [decide_eq_false]
        rintro ⟨_, e⟩
        rw [e] at hl
        simp at hl
      rw [hf]
      clear hf
      have hl' : ((xss.length : Int) != (yss.length : Int)) = true := by simpa using hl
      go_enter Tryz.func9, Tryz.ntmps9
      go_wp2
      go_ret
      exact ⟨rfl, ((Below.refl _ _).alloc (Nat.le_refl _) _).alloc (by simp) _⟩
    · have hle : xss.length = yss.length := by simp at hl; omega
      have HLE := Lib.hid hle
      clear hle
      have hl' : ((xss.length : Int) != (yss.length : Int)) = false := by simpa using hl
      go_enter Tryz.func9, Tryz.ntmps9
      go_wp2
      obtain ⟨w1, hw1⟩ : ∃ w1, w1 = (w.alloc (Obj.cells #[Value.int IntKind.i64 V, Value.slice A xss.length c] 28)).alloc (Obj.cells #[Value.int IntKind.i64 V', Value.slice A' yss.length c'] 28) := ⟨_, rfl⟩
      have hR : Rows w1 B A xss := by rw [hw1]; exact (H.out.alloc hB _).alloc (by simp; omega) _
      have hR' : Rows w1 B A' yss := by rw [hw1]; exact (H'.out.alloc hB _).alloc (by simp; omega) _
      have hBel : Below w.heap.size w w1 := by rw [hw1]; exact ((Below.refl _ _).alloc (Nat.le_refl _) _).alloc (by simp) _
      have hc1 : w1.cell? ⟨w.heap.size, 1, none⟩ = some (.slice A xss.length c) := by rw [hw1]; go_cell
      have hd1 : w1.cell? ⟨w.heap.size + 1, 1, none⟩ = some (.slice A' yss.length c') := by rw [hw1]; go_cell
      rw [← hw1]
      clear hw1 hv hv' hl hl'
      have HR := Lib.hid hR
      have HR' := Lib.hid hR'
      have HBel := Lib.hid hBel
      clear hR hR' hBel
      go_loopg [24] (xss.length + 1) (fun g i w' => ∃ (k m : Nat), w' = w1.drewN m ∧ k ≤ xss.length ∧ g = xss.length - k + 1 ∧ i = .int .i64 k ∧ xss.take k = yss.take k)
      case atStart => exact ⟨0, 0, rfl, by omega, by omega, rfl, rfl⟩
      case round =>
        obtain ⟨k, m, rfl, hk, rfl, rfl, hs⟩ := hrel
        have HS := Lib.hid hs
        clear hs
        by_cases hlt : k < xss.length
        · have hlt' : k < yss.length := by have := HLE.out; omega
          obtain ⟨b, off, Ak, ck, rfl, _, hcell, hint⟩ := HR.out.at_ hlt
          obtain ⟨b', off', Ak', ck', rfl, _, hcell', hint'⟩ := HR'.out.at_ hlt'
          have hxk := HXL.out k
          have hyk := HYL.out k
          have hne := getD_ne (xs := xss) (ys := yss) (k := k) []
          have htn := take_next (xs := xss) (ys := yss) (k := k) [] HS.out hlt hlt'
          obtain ⟨xs, hxs⟩ : ∃ xs, xs = xss.getD k [] := ⟨_, rfl⟩
          obtain ⟨ys, hys⟩ : ∃ ys, ys = yss.getD k [] := ⟨_, rfl⟩
          rw [← hxs] at hcell hint hxk hne htn
          rw [← hys] at hcell' hint' hyk hne htn
          clear hxs hys
          have HI := Lib.hid hint
          have HI' := Lib.hid hint'
          have HNE := Lib.hid hne
          have HTN := Lib.hid htn
          clear hint hint' hne htn
          have hk0 : (0 : Int) ≤ (k : Int) := Int.natCast_nonneg _
          have hk1 : (k : Int) < (xss.length : Int) := by omega
          have hk2 : (k : Int) < (yss.length : Int) := by omega
          rcases hq : ((xs.length : Int) == (ys.length : Int)) with _ | _
          · have hq' : ((xs.length : Int) != (ys.length : Int)) = true := by simpa using hq
            have HF : Hid (sameForm V V' xss yss = false) := by
              unfold sameForm Hid
              rw [decide_eq_false]
              rintro ⟨_, e⟩
              exact HNE.out (fun e => by rw [e] at hq; simp at hq) e
            go_wp2
            go_quiet (fail)
            go_wp2
            go_ret
            exact ⟨ret_bool HF.out.symm, below_drewN (below_drewN HBel.out _) _⟩
          · have hq' : ((xs.length : Int) != (ys.length : Int)) = false := by simpa using hq
            have hqe : xs.length = ys.length := by simp at hq; omega
            have HQE := Lib.hid hqe
            clear hqe
            go_wp2
            go_quiet (fail)
            go_wp2
            clear hq hq'
            go_loopg [46] (xs.length + 1) (fun g i w' => ∃ (j m : Nat), w' = w1.drewN m ∧ j ≤ xs.length ∧ g = xs.length - j + 1 ∧ i = .int .i64 j ∧ xs.take j = ys.take j)
            case atStart => exact ⟨0, _, rfl, by omega, by omega, rfl, rfl⟩
            case round =>
              obtain ⟨j, m, rfl, hj, rfl, rfl, hsj⟩ := hrel
              have HSJ := Lib.hid hsj
              clear hsj
              by_cases hlt : j < xs.length
              · have hlt' : j < ys.length := by have := HQE.out; omega
                obtain ⟨b2, off2, rfl, _, hcell2⟩ := HI.out.at_ hlt
                obtain ⟨b3, off3, rfl, _, hcell3⟩ := HI'.out.at_ hlt'
                have hne := getD_ne (xs := xs) (ys := ys) (k := j) 0
                have htn := take_next (xs := xs) (ys := ys) (k := j) 0 HSJ.out hlt hlt'
                obtain ⟨x, hx⟩ : ∃ x, x = xs.getD j 0 := ⟨_, rfl⟩
                obtain ⟨y, hy⟩ : ∃ y, y = ys.getD j 0 := ⟨_, rfl⟩
                rw [← hx] at hcell2 hne htn
                rw [← hy] at hcell3 hne htn
                clear hx hy
                have HNEJ := Lib.hid hne
                have HTNJ := Lib.hid htn
                clear hne htn
                have hj0 : (0 : Int) ≤ (j : Int) := Int.natCast_nonneg _
                have hj1 : (j : Int) < (xs.length : Int) := by omega
                have hj2 : (j : Int) < (ys.length : Int) := by omega
                rcases hq : (x == y) with _ | _
                · have hq' : (x != y) = true := by simpa using hq
                  have HF : Hid (sameForm V V' xss yss = false) := by
                    unfold sameForm Hid
                    rw [decide_eq_false]
                    rintro ⟨_, e⟩
                    exact HNE.out (HNEJ.out (by simpa using hq)) e
                  go_wp2
                  go_quiet (fail)
                  go_wp2
                  go_ret
                  exact ⟨ret_bool HF.out.symm, below_drewN (below_drewN HBel.out _) _⟩
                · have hq' : (x != y) = false := by simpa using hq
                  have hxy : x = y := by simpa using hq
                  have HXY := Lib.hid hxy
                  clear hxy
                  go_wp2
                  go_quiet (fail)
                  go_wp2
                  go_roundg (xs.length - j)
                  case measure => omega
                  case rel => exact ⟨j + 1, _, rfl, by omega, by omega, by go_num, HTNJ.out HXY.out⟩
              · go_wp2
                go_roundg (xss.length - k)
                case measure => omega
                case rel =>
                  refine ⟨k + 1, _, rfl, by omega, by omega, by go_num, HTN.out ?_⟩
                  have hsj := HSJ.out
                  have hqe := HQE.out
                  have e1 : xs.take j = xs := List.take_of_length_le (by omega)
                  have e2 : ys.take j = ys := List.take_of_length_le (by omega)
                  rw [e1, e2] at hsj
                  exact hsj
        · go_wp2
          go_ret
          refine ⟨ret_bool ?_, below_drewN HBel.out _⟩
          have := HLE.out
          have hs := HS.out
          rw [List.take_of_length_le (by omega), List.take_of_length_le (by omega)] at hs
          unfold sameForm
          rw [decide_eq_true ⟨HVE.out, hs⟩]
end Go.Proofs.YtnjcegjcaaplgaaGreatDoor
