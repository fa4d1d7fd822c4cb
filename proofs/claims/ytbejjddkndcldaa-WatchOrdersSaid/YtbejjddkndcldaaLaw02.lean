/- What the helpers of the second layer's statements answer. -/
import Derived.Test.YtbejjddkndcldaaCnf3
import Derived.Test.YtbejjddkndcldaaRawMath
namespace Go.Proofs.Ytbejjddkndcldaa
open Go.RowKit

theorem light_any (v : Int) (nss : List (List Int)) (B : Nat) (A : Option Addr) (c k : Nat) (w : World) (hk : k ≤ 1000000) (hx : nss.length ≤ 140737488355328) (hl : ∀ j, (nss.getD j []).length ≤ 140737488355328) (h : KRows .i16 w B A nss) (hB : B ≤ w.heap.size) :
    Calls Try.prog 11 #[.agg #[.int .u8 v, .slice A nss.length c], .int .i64 k] w fun e w' => e = .returned (.bool (light nss k)) ∧ Below w.heap.size w w' := by
  have H := Lib.hid h
  have HL := Lib.hid hl
  clear h hl
  go_enter Try.func11, Try.ntmps11
  go_wp2
  obtain ⟨w1, hw1⟩ : ∃ w1, w1 = w.alloc (Obj.cells #[Value.int IntKind.u8 v, Value.slice A nss.length c] 24) := ⟨_, rfl⟩
  have hR : KRows .i16 w1 B A nss := by rw [hw1]; exact H.out.alloc hB _
  have hBel : Below w.heap.size w w1 := by rw [hw1]; exact (Below.refl _ _).alloc (Nat.le_refl _) _
  have hc1 : w1.cell? ⟨w.heap.size, 1, none⟩ = some (.slice A nss.length c) := by rw [hw1]; go_cell
  rw [← hw1]
  clear hw1
  have HR := Lib.hid hR
  clear hR
  go_loopg [5, 11] (nss.length + 1) (fun g s i w' => ∃ (j : Nat) (s' : Int), w1 = w' ∧ j ≤ nss.length ∧ g = nss.length - j + 1 ∧ i = .int .i64 j ∧ s = .int .i64 s' ∧ Hid (s' = litCount (nss.take j) + j) ∧ 0 ≤ s' ∧ s' ≤ 10 * k)
  case atStart => exact ⟨0, 0, rfl, by omega, by omega, rfl, rfl, by simp [Hid, litCount], by omega, by omega⟩
  case round =>
    obtain ⟨j, s', rfl, hj, rfl, rfl, rfl, hs, hs0, hs1⟩ := hrel
    by_cases hlt : j < nss.length
    · obtain ⟨b, off, Ak, ck, rfl, _, hcell, _⟩ := HR.out.at_ hlt
      have h3 := litCount_take hlt
      have hlk := HL.out j
      obtain ⟨n, hn⟩ : ∃ n, n = (nss.getD j []).length := ⟨_, rfl⟩
      rw [← hn] at hcell h3 hlk
      clear hn
      have H3 := Lib.hid h3
      clear h3
      by_cases hgt : 10 * (k : Int) < s' + (1 + n)
      · have HF := Lib.hid (light_over (nss := nss) (k := k) (j := j + 1) (by omega) (by have := hs.out; have := H3.out; omega))
        go_wp2
        go_ret
        exact ⟨ret_bool HF.out.symm, hBel⟩
      · go_wp2
        go_roundg (nss.length - j)
        case measure => omega
        case rel => exact ⟨j + 1, _, rfl, by omega, by omega, by go_num, rfl, by have := hs.out; have := H3.out; unfold Hid; omega, by omega, by omega⟩
    · have hf := Lib.hid (litCount_full (xss := nss) (k := j) (by omega))
      by_cases hle : nss.length ≤ k
      · go_wp2
        go_ret
        refine ⟨ret_bool ?_, hBel⟩
        have h1 := hs.out
        rw [hf.out] at h1
        unfold light
        rw [decide_eq_true (show litCount nss + nss.length ≤ 10 * k by omega)]
        simp
        omega
      · go_wp2
        go_ret
        refine ⟨ret_bool ?_, hBel⟩
        unfold light
        simp
        omega

theorem take_next {α : Type} {xs ys : List α} {k : Nat} (d : α) (h : xs.take k = ys.take k) (h1 : k < xs.length) (h2 : k < ys.length) (e : xs.getD k d = ys.getD k d) : xs.take (k + 1) = ys.take (k + 1) := by
  rw [List.take_succ_eq_append_getElem h1, List.take_succ_eq_append_getElem h2, h]
  simp [List.getD, h1, h2] at e
  rw [e]
theorem getD_ne {α : Type} {xs ys : List α} {k : Nat} (d : α) (e : xs.getD k d ≠ ys.getD k d) : xs ≠ ys := fun h => e (by rw [h])

/-- the same formula -/
def sameForm (V V' : Int) (xss yss : List (List Int)) : Bool := decide (V = V' ∧ xss = yss)
end Go.Proofs.Ytbejjddkndcldaa
