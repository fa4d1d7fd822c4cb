/- What the helpers of the second layer's statements answer. -/
import Derived.Test.YtllgepabjglnaaaCnf3
import Derived.Test.YtllgepabjglnaaaRawMath
namespace Go.Proofs.Ytllgepabjglnaaa
open Go.RowKit

theorem light_any (v : Int) (nss : List (List Int)) (B : Nat) (A : Option Addr) (c k : Nat) (w : World) (hk : k ≤ 1000000) (hx : nss.length ≤ 140737488355328) (hl : ∀ j, (nss.getD j []).length ≤ 140737488355328) (h : KRows .i16 w B A nss) (hB : B ≤ w.heap.size) :
    Calls Try.prog 10 #[.agg #[.int .u8 v, .slice A nss.length c], .int .i64 k] w fun e w' => e = .returned (.bool (light nss k)) ∧ Below w.heap.size w w' := by
  have H := Lib.hid h
  have HL := Lib.hid hl
  clear h hl
  go_enter Try.func10, Try.ntmps10
  go_wp2
  obtain ⟨w1, hw1⟩ : ∃ w1, w1 = w.alloc (Obj.cells #[Value.int IntKind.u8 v, Value.slice A nss.length c] 24) := ⟨_, rfl⟩
  have hR : KRows .i16 w1 B A nss := by rw [hw1]; exact H.out.alloc hB _
  have hBel : Below w.heap.size w w1 := by rw [hw1]; exact (Below.refl _ _).alloc (Nat.le_refl _) _
  have hc1 : w1.cell? ⟨w.heap.size, 1, none⟩ = some (.slice A nss.length c) := by rw [hw1]; go_cell
  rw [← hw1]
  clear hw1
  have HR := Lib.hid hR
  clear hR
  go_loopg [5, 11] (nss.length + 1) (fun g s i w' => ∃ (j : Nat) (s' : Int), w1 = w' ∧ j ≤ nss.length ∧ g = nss.length - j + 1 ∧ i = .int .i64 j ∧ s = .int .i64 s' ∧ Hid (s' = litCount (nss.take j) + j) ∧ 0 ≤ s' ∧ s' ≤ 10 * k)
  case atStart => exact ⟨0, 0, rfl, by omega, by omega, rfl, rfl, by simp [Hid, litCount], by omega, by omega⟩
  case round =>
    obtain ⟨j, s', rfl, hj, rfl, rfl, rfl, hs, hs0, hs1⟩ := hrel
    by_cases hlt : j < nss.length
    · obtain ⟨b, off, Ak, ck, rfl, _, hcell, _⟩ := HR.out.at_ hlt
      have h3 := litCount_take hlt
      have hlk := HL.out j
      obtain ⟨n, hn⟩ : ∃ n, n = (nss.getD j []).length := ⟨_, rfl⟩
      rw [← hn] at hcell h3 hlk
      clear hn
      have H3 := Lib.hid h3
      clear h3
      by_cases hgt : 10 * (k : Int) < s' + (1 + n)
      · have HF := Lib.hid (light_over (nss := nss) (k := k) (j := j + 1) (by omega) (by have := hs.out; have := H3.out; omega))
        go_wp2
        go_ret
        exact ⟨ret_bool HF.out.symm, hBel⟩
      · go_wp2
        go_roundg (nss.length - j)
        case measure => omega
        case rel => exact ⟨j + 1, _, rfl, by omega, by omega, by go_num, rfl, by have := hs.out; have := H3.out; unfold Hid; omega, by omega, by omega⟩
    · have hf := Lib.hid (litCount_full (xss := nss) (k := j) (by omega))
      by_cases hle : nss.length ≤ k
      · go_wp2
        go_ret
        refine ⟨ret_bool ?_, hBel⟩
        have h1 := hs.out
        rw [hf.out] at h1
        unfold light
        rw [decide_eq_true (show litCount nss + nss.length ≤ 10 * k by omega)]
        simp
        omega
      · go_wp2
        go_ret
        refine ⟨ret_bool ?_, hBel⟩
        unfold light
        simp
        omega

/-- the document's own test of an assignment -/
theorem docholds_any (V : Int) (xss : List (List Int)) (B B' : Nat) (A A' : Option Addr) (z : List Bool) (c c' : Nat) (w : World) (hx : xss.length ≤ 1099511627776) (hxl : ∀ j, (xss.getD j []).length ≤ 1099511627776)
    (hb : ∀ j k, -(z.length : Int) ≤ (xss.getD j []).getD k 0 ∧ (xss.getD j []).getD k 0 ≤ z.length) (hn : z.length ≤ 1099511627776) (h : Rows w B A xss) (hz : Bools w B' A' z) (hB : B ≤ w.heap.size) (hB' : B' ≤ w.heap.size) :
    Calls Try.prog 29 #[.agg #[.int .i64 V, .slice A xss.length c], .slice A' z.length c'] w fun e w' => e = .returned (.bool (formSat z xss)) ∧ Below w.heap.size w w' := by
  have H := Lib.hid h
  have HZ := Lib.hid hz
  have HXL := Lib.hid hxl
  have HBD := Lib.hid hb
  clear h hz hxl hb
  go_enter Try.func29, Try.ntmps29
  go_wp2
  obtain ⟨w1, hw1⟩ : ∃ w1, w1 = w.alloc (Obj.cells #[Value.int IntKind.i64 V, Value.slice A xss.length c] 32) := ⟨_, rfl⟩
  have hR : Rows w1 B A xss := by rw [hw1]; exact H.out.alloc hB _
  have hZ : Bools w1 B' A' z := by rw [hw1]; exact HZ.out.alloc hB' _
  have hBel : Below w.heap.size w w1 := by rw [hw1]; exact (Below.refl _ _).alloc (Nat.le_refl _) _
  rw [← hw1]
  clear hw1
  have HR := Lib.hid hR
  have HZ1 := Lib.hid hZ
  clear hR hZ
  go_loopg [13] (xss.length + 1) (fun g i w' => ∃ k : Nat, w1 = w' ∧ k ≤ xss.length ∧ g = xss.length - k + 1 ∧ i = .int .i64 k ∧ formSat z xss = formSat z (xss.drop k))
  case atStart => exact ⟨0, rfl, by omega, by omega, rfl, rfl⟩
  case round =>
    obtain ⟨k, rfl, hk, rfl, rfl, hs⟩ := hrel
    have HS := Lib.hid hs
    clear hs
    by_cases hlt : k < xss.length
    · obtain ⟨b, off, Ak, ck, rfl, _, hcell, hint⟩ := HR.out.at_ hlt
      have hxk := HXL.out k
      have hbk := HBD.out k
      have hd : formSat z (xss.drop k) = (clauseSat z (xss.getD k []) && formSat z (xss.drop (k + 1))) := by unfold formSat; rw [drop_getD [] xss k hlt]; rfl
      obtain ⟨xs, hxs⟩ : ∃ xs, xs = xss.getD k [] := ⟨_, rfl⟩
      rw [← hxs] at hcell hint hxk hbk hd
      clear hxs
      have HI := Lib.hid hint
      have HBK := Lib.hid hbk
      have HD := Lib.hid hd
      clear hint hbk hd
      go_wp2
      go_loopg [7, 19] (xs.length + 1) (fun g s i w' => ∃ (j : Nat) (sm : Bool), w1 = w' ∧ j ≤ xs.length ∧ g = xs.length - j + 1 ∧ i = .int .i64 j ∧ s = .bool sm ∧ clauseSat z xs = (sm || clauseSat z (xs.drop j)))
      case atStart => exact ⟨0, false, rfl, by omega, by omega, rfl, rfl, rfl⟩
      case round =>
        obtain ⟨j, sm, rfl, hj, rfl, rfl, rfl, hs⟩ := hrel
        have HSj := Lib.hid hs
        clear hs
        by_cases hlt : j < xs.length
        · obtain ⟨b2, off2, rfl, _, hcell2⟩ := HI.out.at_ hlt
          obtain ⟨hb1, hb2⟩ := HBK.out j
          have hd2 := clauseSat_drop (z := z) hlt
          obtain ⟨l, hl⟩ : ∃ l, l = xs.getD j 0 := ⟨_, rfl⟩
          rw [← hl] at hcell2 hb1 hb2 hd2
          clear hl
          have HD2 := Lib.hid hd2
          clear hd2
          have fin : ∀ (r : Bool), (sm || litHolds l z.length (fun j => z.getD j false)) = r → clauseSat z xs = (r || clauseSat z (xs.drop (j + 1))) := by
            intro r hr; rw [HSj.out, HD2.out, ← hr, Bool.or_assoc]
          have FIN := Lib.hid fin
          clear fin
          rcases sm with _ | _
          · by_cases hp : 0 < l
            · obtain ⟨m, rfl⟩ : ∃ m : Nat, l = (m : Int) + 1 := ⟨(l - 1).toNat, by omega⟩
              have hmz : m < z.length := by omega
              obtain ⟨b3, off3, rfl, _, hcell3⟩ := HZ1.out.at_ hmz
              have hh := litHolds_pos (z := fun j => z.getD j false) hmz
              obtain ⟨v, hv⟩ : ∃ v, v = z.getD m false := ⟨_, rfl⟩
              simp only [← hv] at hcell3 hh
              clear hv
              have HH := Lib.hid hh
              clear hh
              have hp2 : ((m : Int) + 1 < 0) = False := by simp; omega
              rcases v with _ | _
              all_goals
                go_wp2
                go_roundg (xs.length - j)
                case measure => omega
                case rel => exact ⟨j + 1, _, rfl, by omega, by omega, by go_num, rfl, FIN.out _ (by rw [HH.out]; rfl)⟩
            · by_cases hq : l < 0
              · obtain ⟨m, rfl⟩ : ∃ m : Nat, l = -((m : Int) + 1) := ⟨(-l - 1).toNat, by omega⟩
                have hmz : m < z.length := by omega
                obtain ⟨b3, off3, rfl, _, hcell3⟩ := HZ1.out.at_ hmz
                have hh := litHolds_neg (z := fun j => z.getD j false) hmz
                obtain ⟨v, hv⟩ : ∃ v, v = z.getD m false := ⟨_, rfl⟩
                simp only [← hv] at hcell3 hh
                clear hv
                have HH := Lib.hid hh
                clear hh
                rcases v with _ | _
                all_goals
                  go_wp2
                  go_roundg (xs.length - j)
                  case measure => omega
                  case rel => exact ⟨j + 1, _, rfl, by omega, by omega, by go_num, rfl, FIN.out _ (by rw [HH.out]; rfl)⟩
              · obtain rfl : l = 0 := by omega
                have HH := Lib.hid (litHolds_out (l := 0) (n := z.length) (z := fun j => z.getD j false) (by simp [litVar]))
                go_wp2
                go_roundg (xs.length - j)
                case measure => omega
                case rel => exact ⟨j + 1, _, rfl, by omega, by omega, by go_num, rfl, FIN.out _ (by rw [HH.out]; rfl)⟩
          · go_wp2
            go_roundg (xs.length - j)
            case measure => omega
            case rel => exact ⟨j + 1, _, rfl, by omega, by omega, by go_num, rfl, FIN.out _ rfl⟩
        · have hend : clauseSat z xs = sm := by rw [HSj.out, List.drop_eq_nil_of_le (by omega), clauseSat_nil, Bool.or_false]
          have HEND := Lib.hid hend
          clear hend
          rcases sm with _ | _
          · go_wp2
            go_ret
            exact ⟨ret_bool (by rw [HS.out, HD.out, HEND.out]; rfl), hBel⟩
          · go_wp2
            go_roundg (xss.length - k)
            case measure => omega
            case rel => exact ⟨k + 1, rfl, by omega, by omega, by go_num, by rw [HS.out, HD.out, HEND.out]; rfl⟩
    · go_wp2
      go_ret
      exact ⟨ret_bool (by rw [HS.out, List.drop_eq_nil_of_le (by omega)]; rfl), hBel⟩

theorem take_next {α : Type} {xs ys : List α} {k : Nat} (d : α) (h : xs.take k = ys.take k) (h1 : k < xs.length) (h2 : k < ys.length) (e : xs.getD k d = ys.getD k d) : xs.take (k + 1) = ys.take (k + 1) := by
  rw [List.take_succ_eq_append_getElem h1, List.take_succ_eq_append_getElem h2, h]
  simp [List.getD, h1, h2] at e
  rw [e]
theorem getD_ne {α : Type} {xs ys : List α} {k : Nat} (d : α) (e : xs.getD k d ≠ ys.getD k d) : xs ≠ ys := fun h => e (by rw [h])

/-- the same formula -/
def sameForm (V V' : Int) (xss yss : List (List Int)) : Bool := decide (V = V' ∧ xss = yss)
end Go.Proofs.Ytllgepabjglnaaa
