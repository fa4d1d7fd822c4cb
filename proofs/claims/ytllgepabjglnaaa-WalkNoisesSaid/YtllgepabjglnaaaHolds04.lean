/- What the law's own reading of a formula answers, with the world behind it told. -/
import Derived.Test.YtllgepabjglnaaaLaw02
import Derived.Sort.Grow
namespace Go.Proofs.Ytllgepabjglnaaa
open Go.RowKit

theorem docholds_grown (V : Int) (xss : List (List Int)) (B B' : Nat) (A A' : Option Addr) (z : List Bool) (c c' : Nat) (w : World) (hx : xss.length ≤ 1099511627776) (hxl : ∀ j, (xss.getD j []).length ≤ 1099511627776)
    (hb : ∀ j k, -(z.length : Int) ≤ (xss.getD j []).getD k 0 ∧ (xss.getD j []).getD k 0 ≤ z.length) (hn : z.length ≤ 1099511627776) (h : Rows w B A xss) (hz : Bools w B' A' z) (hB : B ≤ w.heap.size) (hB' : B' ≤ w.heap.size) :
    Calls Try.prog 29 #[.agg #[.int .i64 V, .slice A xss.length c], .slice A' z.length c'] w fun e w' => e = .returned (.bool (formSat z xss)) ∧ ∃ q os', w' = Go.Sort.grow (w.drewN q) os' := by
  have H := Lib.hid h
  have HZ := Lib.hid hz
  have HXL := Lib.hid hxl
  have HBD := Lib.hid hb
  clear h hz hxl hb
  go_enter Try.func29, Try.ntmps29
  go_wp2
  obtain ⟨w1, hw1⟩ : ∃ w1, w1 = w.alloc (Obj.cells #[Value.int IntKind.i64 V, Value.slice A xss.length c] 32) := ⟨_, rfl⟩
  have hR : Rows w1 B A xss := by rw [hw1]; exact H.out.alloc hB _
  have hZ : Bools w1 B' A' z := by rw [hw1]; exact HZ.out.alloc hB' _
  have hBel : ∃ q os', w1 = Go.Sort.grow (w.drewN q) os' := ⟨0, #[Obj.cells #[Value.int IntKind.i64 V, Value.slice A xss.length c] 32], by rw [hw1, Go.Sort.alloc_eq_grow]; rfl⟩
  rw [← hw1]
  clear hw1
  have HR := Lib.hid hR
  have HZ1 := Lib.hid hZ
  clear hR hZ
  go_loopg [13] (xss.length + 1) (fun g i w' => ∃ k : Nat, w1 = w' ∧ k ≤ xss.length ∧ g = xss.length - k + 1 ∧ i = .int .i64 k ∧ formSat z xss = formSat z (xss.drop k))
  case atStart => exact ⟨0, rfl, by omega, by omega, rfl, rfl⟩
  case round =>
    obtain ⟨k, rfl, hk, rfl, rfl, hs⟩ := hrel
    have HS := Lib.hid hs
    clear hs
    by_cases hlt : k < xss.length
    · obtain ⟨b, off, Ak, ck, rfl, _, hcell, hint⟩ := HR.out.at_ hlt
      have hxk := HXL.out k
      have hbk := HBD.out k
      have hd : formSat z (xss.drop k) = (clauseSat z (xss.getD k []) && formSat z (xss.drop (k + 1))) := by unfold formSat; rw [drop_getD [] xss k hlt]; rfl
      obtain ⟨xs, hxs⟩ : ∃ xs, xs = xss.getD k [] := ⟨_, rfl⟩
      rw [← hxs] at hcell hint hxk hbk hd
      clear hxs
      have HI := Lib.hid hint
      have HBK := Lib.hid hbk
      have HD := Lib.hid hd
      clear hint hbk hd
      go_wp2
      go_loopg [7, 19] (xs.length + 1) (fun g s i w' => ∃ (j : Nat) (sm : Bool), w1 = w' ∧ j ≤ xs.length ∧ g = xs.length - j + 1 ∧ i = .int .i64 j ∧ s = .bool sm ∧ clauseSat z xs = (sm || clauseSat z (xs.drop j)))
      case atStart => exact ⟨0, false, rfl, by omega, by omega, rfl, rfl, rfl⟩
      case round =>
        obtain ⟨j, sm, rfl, hj, rfl, rfl, rfl, hs⟩ := hrel
        have HSj := Lib.hid hs
        clear hs
        by_cases hlt : j < xs.length
        · obtain ⟨b2, off2, rfl, _, hcell2⟩ := HI.out.at_ hlt
          obtain ⟨hb1, hb2⟩ := HBK.out j
          have hd2 := clauseSat_drop (z := z) hlt
          obtain ⟨l, hl⟩ : ∃ l, l = xs.getD j 0 := ⟨_, rfl⟩
          rw [← hl] at hcell2 hb1 hb2 hd2
          clear hl
          have HD2 := Lib.hid hd2
          clear hd2
          have fin : ∀ (r : Bool), (sm || litHolds l z.length (fun j => z.getD j false)) = r → clauseSat z xs = (r || clauseSat z (xs.drop (j + 1))) := by
            intro r hr; rw [HSj.out, HD2.out, ← hr, Bool.or_assoc]
          have FIN := Lib.hid fin
          clear fin
          rcases sm with _ | _
          · by_cases hp : 0 < l
            · obtain ⟨m, rfl⟩ : ∃ m : Nat, l = (m : Int) + 1 := ⟨(l - 1).toNat, by omega⟩
              have hmz : m < z.length := by omega
              obtain ⟨b3, off3, rfl, _, hcell3⟩ := HZ1.out.at_ hmz
              have hh := litHolds_pos (z := fun j => z.getD j false) hmz
              obtain ⟨v, hv⟩ : ∃ v, v = z.getD m false := ⟨_, rfl⟩
              simp only [← hv] at hcell3 hh
              clear hv
              have HH := Lib.hid hh
              clear hh
              have hp2 : ((m : Int) + 1 < 0) = False := by simp; omega
              rcases v with _ | _
              all_goals
                go_wp2
                go_roundg (xs.length - j)
                case measure => omega
                case rel => exact ⟨j + 1, _, rfl, by omega, by omega, by go_num, rfl, FIN.out _ (by rw [HH.out]; rfl)⟩
            · by_cases hq : l < 0
              · obtain ⟨m, rfl⟩ : ∃ m : Nat, l = -((m : Int) + 1) := ⟨(-l - 1).toNat, by omega⟩
                have hmz : m < z.length := by omega
                obtain ⟨b3, off3, rfl, _, hcell3⟩ := HZ1.out.at_ hmz
                have hh := litHolds_neg (z := fun j => z.getD j false) hmz
                obtain ⟨v, hv⟩ : ∃ v, v = z.getD m false := ⟨_, rfl⟩
                simp only [← hv] at hcell3 hh
                clear hv
                have HH := Lib.hid hh
                clear hh
                rcases v with _ | _
                all_goals
                  go_wp2
                  go_roundg (xs.length - j)
                  case measure => omega
                  case rel => exact ⟨j + 1, _, rfl, by omega, by omega, by go_num, rfl, FIN.out _ (by rw [HH.out]; rfl)⟩
              · obtain rfl : l = 0 := by omega
                have HH := Lib.hid (litHolds_out (l := 0) (n := z.length) (z := fun j => z.getD j false) (by simp [litVar]))
                go_wp2
                go_roundg (xs.length - j)
                case measure => omega
                case rel => exact ⟨j + 1, _, rfl, by omega, by omega, by go_num, rfl, FIN.out _ (by rw [HH.out]; rfl)⟩
          · go_wp2
            go_roundg (xs.length - j)
            case measure => omega
            case rel => exact ⟨j + 1, _, rfl, by omega, by omega, by go_num, rfl, FIN.out _ rfl⟩
        · have hend : clauseSat z xs = sm := by rw [HSj.out, List.drop_eq_nil_of_le (by omega), clauseSat_nil, Bool.or_false]
          have HEND := Lib.hid hend
          clear hend
          rcases sm with _ | _
          · go_wp2
            go_ret
            exact ⟨ret_bool (by rw [HS.out, HD.out, HEND.out]; rfl), hBel⟩
          · go_wp2
            go_roundg (xss.length - k)
            case measure => omega
            case rel => exact ⟨k + 1, rfl, by omega, by omega, by go_num, by rw [HS.out, HD.out, HEND.out]; rfl⟩
    · go_wp2
      go_ret
      exact ⟨ret_bool (by rw [HS.out, List.drop_eq_nil_of_le (by omega)]; rfl), hBel⟩
end Go.Proofs.Ytllgepabjglnaaa
