/- What Unsatisfied, Lits and Right answer. -/
import Derived.Test.YtdacdodigbpdoaaCnf
namespace Go.Proofs.Ytdacdodigbpdoaa
open Go.RowKit

theorem Try.infoInt : (Try.prog.info? 3).map (fun i => (i.zero, i.size, i.bytes)) = some (some (.int .i64 0), 1, 8) := by kernel_rfl

theorem unsatisfied_any (V : Int) (xss : List (List Int)) (B B' : Nat) (A A' : Option Addr) (z : List Bool) (c c' : Nat) (w : World) (hxw : Wides xss) (hxm : xss.length ≤ 1099511627776) (hn : z.length ≤ 9223372036854775807)
    (h : Rows w B A xss) (hz : Bools w B' A' z) (hB : B ≤ w.heap.size) (hB' : B' ≤ w.heap.size) :
    Calls Try.prog 11 #[.agg #[.int .i64 V, .slice A xss.length c], .slice A' z.length c'] w fun e w' =>
      ∃ v, e = .returned v ∧ w'.ownsRow w.heap.size 3 1 v (unsUpto z xss xss.length).length ((unsUpto z xss xss.length).map fun j : Nat => .int .i64 j) ∧ Below w.heap.size w w' := by
  have H := Lib.hid h
  have HZ := Lib.hid hz
  have HX := Lib.hid hxw
  clear h hz hxw
  obtain ⟨i0, hi, hz0, hz1, hz2⟩ := info_parts Try.infoInt
  go_enter Try.func11, Try.ntmps11
  go_wp2_with fail
  refine (next_any xss B B' A A' z _ _ 0 _ HX.out hn (Nat.zero_le _) (H.out.alloc hB _) (HZ.out.alloc hB' _)).mono ?_
  rintro e w' ⟨rfl, rfl⟩
  obtain ⟨m0, hm0⟩ : ∃ m0, m0 = nextUns z xss 0 := ⟨_, rfl⟩
  have hb0 := nextUns_bd z xss 0 (Nat.zero_le _)
  have hu0 := unsUpto_next z xss _ 0 (Nat.zero_le _) rfl
  have ha0 := nextUns_at z xss _ 0 (Nat.zero_le _) rfl
  rw [← hm0] at *
  clear hm0
  have HU0 := Lib.hid hu0
  have HA0 := Lib.hid ha0
  clear hu0 ha0
  go_wp2
  go_loopw [5, 6] (fun v i wr => ∃ m : Nat, m ≤ xss.length ∧ i = .int .i64 m ∧ wr.ownsRow (w.heap.size + 1) 3 1 v (unsUpto z xss m).length ((unsUpto z xss m).map fun j : Nat => .int .i64 j) ∧
      Below (w.heap.size + 1) (w.alloc (Obj.cells #[Value.int IntKind.i64 V, Value.slice A xss.length c] 30)) wr ∧ (m = xss.length ∨ clauseSat z (xss.getD m []) = false)) (fun _ i _ => xss.length - (intOf i).toNat)
  case atStart => exact ⟨m0, hb0.2, rfl, by rw [HU0.out]; exact World.ownsRow_nil _ _ _ _, Below.refl _ _, HA0.out⟩
  case round =>
    obtain ⟨m, hm, rfl, hown, hbel, hat⟩ := hrel
    have HA := Lib.hid hat
    have HO := Lib.hid hown
    have HBel := Lib.hid hbel
    have hsz : w.heap.size + 1 ≤ wr.heap.size := by have := hbel.size; simpa using this
    have hc0 : wr.cell? ⟨w.heap.size, 0, none⟩ = some (.int .i64 V) := by rw [hbel.cell (p := ⟨w.heap.size, 0, none⟩) (by simp)]; go_cell
    have hc1 : wr.cell? ⟨w.heap.size, 1, none⟩ = some (.slice A xss.length c) := by rw [hbel.cell (p := ⟨w.heap.size, 1, none⟩) (by simp)]; go_cell
    clear hat hown hbel
    by_cases hlt : m < xss.length
    · have hs : clauseSat z (xss.getD m []) = false := by
        rcases HA.out with h | h
        · omega
        · exact h
      have HH := Lib.hid (unsUpto_hit hs)
      have hul := unsUpto_len z xss m
      clear hs
      go_wp2_with (at_builtin; refine wpList_append1 _ rfl _ _ 33 rfl (w.heap.size + 1) 3 i0 (.int .i64 0) 8 Try.underlying33 hi hz0 hz1 hz2 rfl _ _ _ rfl (HO.out.alloc _) (.int .i64 m) wr.heap.size rfl (by go_cell) rfl (by unfold maxLen; omega) (by omega) (by simp; omega) ?_)
      intro v' w1 hown1 hg1 _
      have hb1 := (HBel.out.alloc (by omega) _).grown hg1 (by simp; omega) (fun k hk => (HO.out.lt k hk).1)
      have HO1 := Lib.hid hown1
      have HB1 := Lib.hid hb1
      clear hown1 hg1 hb1
      have hd0 : w1.cell? ⟨w.heap.size, 0, none⟩ = some (.int .i64 V) := by rw [HB1.out.cell (p := ⟨w.heap.size, 0, none⟩) (by simp)]; go_cell
      have hd1 : w1.cell? ⟨w.heap.size, 1, none⟩ = some (.slice A xss.length c) := by rw [HB1.out.cell (p := ⟨w.heap.size, 1, none⟩) (by simp)]; go_cell
      go_wp2_with fail
      have hR : Rows w1 B A xss := (H.out.alloc hB _).below (HB1.out.mono (by omega))
      have hZ : Bools w1 B' A' z := (HZ.out.alloc hB' _).below (HB1.out.mono (by omega))
      have hcon := next_any xss B B' A A' z c c' (m + 1) w1 HX.out hn (by omega) hR hZ
      clear hR hZ
      have em : ((m + 1 : Nat) : Int) = (m : Int) + 1 := by omega
      rw [em] at hcon
      clear em
      refine hcon.mono ?_
      rintro e w' ⟨rfl, rfl⟩
      clear hcon
      obtain ⟨m1, hm1⟩ : ∃ m1, m1 = nextUns z xss (m + 1) := ⟨_, rfl⟩
      have hb0 := nextUns_bd z xss (m + 1) (by omega)
      have hu0 := unsUpto_next z xss _ (m + 1) (by omega) rfl
      have ha0 := nextUns_at z xss _ (m + 1) (by omega) rfl
      rw [← hm1] at *
      clear hm1
      have HU := Lib.hid hu0
      have HAT := Lib.hid ha0
      clear hu0 ha0
      go_wp2
      go_roundw
      case rel =>
        refine ⟨m1, hb0.2, rfl, ?_, HB1.out, HAT.out⟩
        have := HO1.out
        rw [HU.out, HH.out, List.map_append, List.length_append]
        exact this
      case measure => simp [intOf]; omega
    · go_wp2
      go_ret
      obtain rfl : m = xss.length := by omega
      exact ⟨_, rfl, own_more HO.out (by omega), ((Below.refl _ _).alloc (Nat.le_refl _) _).trans (HBel.out.mono (by omega))⟩

theorem lits_any (V : Int) (xss : List (List Int)) (B : Nat) (A : Option Addr) (c : Nat) (w : World) (hx : xss.length ≤ 1099511627776) (hl : litCount xss ≤ 1099511627776) (h : Rows w B A xss) (hB : B ≤ w.heap.size) :
    Calls Try.prog 19 #[.agg #[.int .i64 V, .slice A xss.length c]] w fun e w' => e = .returned (.int .i64 (litCount xss)) ∧ Below w.heap.size w w' := by
  have H := Lib.hid h
  clear h
  go_enter Try.func19, Try.ntmps19
  go_wp2
  obtain ⟨w1, hw1⟩ : ∃ w1, w1 = w.alloc (Obj.cells #[Value.int IntKind.i64 V, Value.slice A xss.length c] 30) := ⟨_, rfl⟩
  have hR : Rows w1 B A xss := by rw [hw1]; exact H.out.alloc hB _
  have hBel : Below w.heap.size w w1 := by rw [hw1]; exact (Below.refl _ _).alloc (Nat.le_refl _) _
  rw [← hw1]
  clear hw1
  have HR := Lib.hid hR
  clear hR
  go_loopg [3, 9] (xss.length + 1) (fun g s i w' => ∃ k : Nat, w1 = w' ∧ k ≤ xss.length ∧ g = xss.length - k + 1 ∧ i = .int .i64 k ∧ s = .int .i64 (litCount (xss.take k)))
  case atStart => exact ⟨0, rfl, by omega, by omega, rfl, rfl⟩
  case round =>
    obtain ⟨k, rfl, hk, rfl, rfl, rfl⟩ := hrel
    by_cases hlt : k < xss.length
    · obtain ⟨b, off, Ak, ck, rfl, _, hcell, _⟩ := HR.out.at_ hlt
      have h1 := litCount_take_le xss k
      have h2 := litCount_take_le xss (k + 1)
      have h3 := litCount_take hlt
      obtain ⟨n, hn⟩ : ∃ n, n = (xss.getD k []).length := ⟨_, rfl⟩
      obtain ⟨s, hs⟩ : ∃ s, s = litCount (xss.take k) := ⟨_, rfl⟩
      rw [← hn] at hcell h3
      rw [← hs] at h1 h3 ⊢
      clear hn hs
      have h4 : s + n ≤ 1099511627776 := by omega
      have H3 := Lib.hid h3
      clear h2 h3
      go_wp2
      go_roundg (xss.length - k)
      case measure => omega
      case rel => exact ⟨k + 1, rfl, by omega, by omega, by go_num, by rw [H3.out]; go_num⟩
    · have hf := Lib.hid (litCount_full (xss := xss) (k := k) (by omega))
      rw [hf.out]
      go_wp2
      go_ret
      exact ⟨rfl, hBel⟩

theorem formright_any (V : Int) (xss : List (List Int)) (B : Nat) (A : Option Addr) (c : Nat) (w : World) (hV1 : -9223372036854775808 ≤ V) (hV2 : V ≤ 9223372036854775807) (hx : xss.length ≤ 1099511627776)
    (hxl : ∀ j, (xss.getD j []).length ≤ 1099511627776) (hxx : ∀ j k, -9223372036854775808 ≤ (xss.getD j []).getD k 0 ∧ (xss.getD j []).getD k 0 ≤ 9223372036854775807) (h : Rows w B A xss) (hB : B ≤ w.heap.size) :
    Calls Try.prog 18 #[.agg #[.int .i64 V, .slice A xss.length c]] w fun e w' => e = .returned (.bool (formRight V xss)) ∧ Below w.heap.size w w' := by
  have H := Lib.hid h
  have HXL := Lib.hid hxl
  have HXX := Lib.hid hxx
  clear h hxl hxx
  by_cases hd : 0 ≤ V ∧ V ≤ 100000 ∧ xss.length ≤ 200000
  · have hfr : formRight V xss = (decide (litCount xss ≤ 1000000) && xss.all (clauseRight V)) := by unfold formRight; rw [decide_eq_true hd]; rfl
    have HFR := Lib.hid hfr
    clear hfr
    obtain ⟨d1, d2, d3⟩ := hd
    go_enter Try.func18, Try.ntmps18
    go_wp2
    obtain ⟨w1, hw1⟩ : ∃ w1, w1 = w.alloc (Obj.cells #[Value.int IntKind.i64 V, Value.slice A xss.length c] 30) := ⟨_, rfl⟩
    have hR : Rows w1 B A xss := by rw [hw1]; exact H.out.alloc hB _
    have hBel : Below w.heap.size w w1 := by rw [hw1]; exact (Below.refl _ _).alloc (Nat.le_refl _) _
    have hc0 : w1.cell? ⟨w.heap.size, 0, none⟩ = some (.int .i64 V) := by rw [hw1]; go_cell
    rw [← hw1]
    clear hw1
    have HR := Lib.hid hR
    clear hR
    go_loopg [3, 25] (xss.length + 1) (fun g s i w' => ∃ (k : Nat) (l : Int), w1 = w' ∧ k ≤ xss.length ∧ g = xss.length - k + 1 ∧ i = .int .i64 k ∧ s = .int .i64 l ∧ 0 ≤ l ∧ l + litCount (xss.take k) = 1000000 ∧ xss.all (clauseRight V) = (xss.drop k).all (clauseRight V))
    case atStart => exact ⟨0, 1000000, rfl, by omega, by omega, rfl, rfl, by omega, by simp [litCount], rfl⟩
    case round =>
      obtain ⟨k, l, rfl, hk, rfl, rfl, rfl, hl0, hl, hall⟩ := hrel
      have HALL := Lib.hid hall
      clear hall
      by_cases hlt : k < xss.length
      · obtain ⟨b, off, Ak, ck, rfl, _, hcell, hint⟩ := HR.out.at_ hlt
        have h3 := litCount_take hlt
        have hxk := HXL.out k
        have hxb := HXX.out k
        have hnext := rowsRight_drop (V := V) hlt
        obtain ⟨xs, hxs⟩ : ∃ xs, xs = xss.getD k [] := ⟨_, rfl⟩
        rw [← hxs] at hcell hint h3 hxk hxb hnext
        clear hxs
        have HI := Lib.hid hint
        have HXB := Lib.hid hxb
        have HN := Lib.hid hnext
        clear hint hxb hnext
        have hl1 : l ≤ 1000000 := by omega
        by_cases hneg : l - xs.length < 0
        · have HF := Lib.hid (formRight_few (V := V) (xss := xss) (k := k + 1) (by omega))
          clear h3 hl
          go_wp2
          go_ret
          exact ⟨ret_bool HF.out.symm, hBel⟩
        · have H3 := Lib.hid h3
          have HL := Lib.hid hl
          clear h3 hl
          go_wp2
          go_loopg [37] (xs.length + 1) (fun g i w' => ∃ j : Nat, w1 = w' ∧ j ≤ xs.length ∧ g = xs.length - j + 1 ∧ i = .int .i64 j ∧ clauseRight V xs = clauseRight V (xs.drop j))
          case atStart => exact ⟨0, rfl, by omega, by omega, rfl, rfl⟩
          case round =>
            obtain ⟨j, rfl, hj, rfl, rfl, hs⟩ := hrel
            have HSj := Lib.hid hs
            clear hs
            by_cases hlt : j < xs.length
            · obtain ⟨b, off, rfl, _, hcell⟩ := HI.out.at_ hlt
              obtain ⟨hb1, hb2⟩ := HXB.out j
              have hd := clauseRight_drop (V := V) hlt
              obtain ⟨x, hx⟩ : ∃ x, x = xs.getD j 0 := ⟨_, rfl⟩
              rw [← hx] at hcell hb1 hb2 hd
              clear hx
              rcases hh : litRight x V with _ | _
              · rw [hh, Bool.false_and] at hd
                have HD := Lib.hid hd
                have HH := Lib.hid hh
                clear hd hh
                go_wp2_with (go_at_call 26; refine (right_any x V _ hb1 hb2 hV1 hV2).mono ?_; rintro e w' ⟨rfl, rfl⟩; rw [HH.out])
                go_ret
                exact ⟨ret_bool (by rw [HFR.out, HALL.out, HN.out, HSj.out, HD.out]; simp), hBel⟩
              · rw [hh, Bool.true_and] at hd
                have HD := Lib.hid hd
                have HH := Lib.hid hh
                clear hd hh
                go_wp2_with (go_at_call 26; refine (right_any x V _ hb1 hb2 hV1 hV2).mono ?_; rintro e w' ⟨rfl, rfl⟩; rw [HH.out])
                go_roundg (xs.length - j)
                case measure => omega
                case rel => exact ⟨j + 1, rfl, by omega, by omega, by go_num, by rw [HSj.out, HD.out]⟩
            · go_wp2
              go_roundg (xss.length - k)
              case measure => omega
              case rel =>
                refine ⟨k + 1, l - xs.length, rfl, by omega, by omega, by go_num, rfl, by omega, ?_, ?_⟩
                · have := H3.out; have := HL.out; omega
                · rw [HALL.out, HN.out, HSj.out, List.drop_eq_nil_of_le (by omega)]; rfl
      · have HF := Lib.hid (litCount_full (xss := xss) (k := k) (by omega))
        have HL := Lib.hid hl
        clear hl
        go_wp2
        go_ret
        refine ⟨ret_bool ?_, hBel⟩
        have hl := HL.out
        rw [HF.out] at hl
        rw [HFR.out, HALL.out, List.drop_eq_nil_of_le (by omega), decide_eq_true (by omega)]
        rfl
  · have hfr : formRight V xss = false := by unfold formRight; rw [decide_eq_false hd]; rfl
    rw [hfr]
    by_cases d1 : V < 0
    · go_enter Try.func18, Try.ntmps18
      go_wp2
      go_ret
      exact ⟨rfl, (Below.refl _ _).alloc (Nat.le_refl _) _⟩
    · by_cases d2 : 100000 < V
      · go_enter Try.func18, Try.ntmps18
        go_wp2
        go_ret
        exact ⟨rfl, (Below.refl _ _).alloc (Nat.le_refl _) _⟩
      · have d3 : 200000 < xss.length := by omega
        clear hd
        go_enter Try.func18, Try.ntmps18
        go_wp2
        go_ret
        exact ⟨rfl, (Below.refl _ _).alloc (Nat.le_refl _) _⟩
end Go.Proofs.Ytdacdodigbpdoaa
