/- What the small helpers of the fourth layer's statements answer. -/
import Derived.Test.YtkncndddednipaaLit
import Derived.Test.YtkncndddednipaaCnf3
import Derived.Test.YtkncndddednipaaNormMath
namespace Go.Proofs.Ytkncndddednipaa
open Go.RowKit

theorem ints_blk4 {w : World} {B g : Nat} {t : TypeId} {xs : List Int} (h : Blk w g t (xs.map (Value.int .i64)).toArray) (hB : g < B) : Ints w B (some ⟨g, 0, none⟩) xs :=
  fun _ => ⟨g, 0, rfl, hB, fun j hj => by rw [Nat.zero_add, h.cell j]; simp [List.getD, hj]⟩
theorem rows_blk4 {w : World} {B g : Nat} {t : TypeId} {vs : List Value} {xss : List (List Int)} (h : Blk w g t vs.toArray) (hB : g < B)
    (hr : ∀ j, j < xss.length → ∃ Aj cj, vs[j]? = some (.slice Aj (xss.getD j []).length cj) ∧ Ints w B Aj (xss.getD j [])) : Rows w B (some ⟨g, 0, none⟩) xss :=
  fun _ => ⟨g, 0, rfl, hB, fun j hj => by
    obtain ⟨Aj, cj, h1, h2⟩ := hr j hj
    exact ⟨Aj, cj, by rw [Nat.zero_add, h.cell j]; simpa using h1, h2⟩⟩

/-- the literals of raw numbers -/
def clauseOf (ns : List Int) : List Int := ns.filter fun n => n != 0
theorem clauseOf_take {ns : List Int} {k : Nat} (h : k < ns.length) : clauseOf (ns.take (k + 1)) = clauseOf (ns.take k) ++ if ns.getD k 0 = 0 then [] else [ns.getD k 0] := by
  unfold clauseOf
  rw [List.take_succ_eq_append_getElem h, List.filter_append]
  simp only [List.getD, List.getElem?_eq_getElem h, Option.getD_some]
  congr 1
  by_cases h0 : ns[k] = 0 <;> simp [h0]
theorem clauseOf_len (ns : List Int) : (clauseOf ns).length ≤ ns.length := List.length_filter_le _ _
theorem clauseOf_take_len (ns : List Int) (k : Nat) : (clauseOf (ns.take k)).length ≤ k := Nat.le_trans (clauseOf_len _) (by simp; omega)

/-- a row of ints that the call has made for itself -/
def OwnInts (ys : List Int) (w : World) (e : Ending) (w' : World) : Prop :=
  ∃ A c, e = .returned (.slice A ys.length c) ∧ w'.ownsRow w.heap.size 3 1 (.slice A ys.length c) ys.length (ys.map (Value.int .i64)) ∧ Below w.heap.size w w'

theorem clause_law_any (ns : List Int) (B : Nat) (A : Option Addr) (c : Nat) (w : World) (hn : ns.length ≤ 1099511627776) (hb : ∀ k, -128 ≤ ns.getD k 0 ∧ ns.getD k 0 ≤ 127) (h : KInts .i8 w B A ns) (hB : B ≤ w.heap.size) :
    Calls Try.prog 9 #[.slice A ns.length c] w (OwnInts (clauseOf ns) w) := by
  have H := Lib.hid h
  have HBD := Lib.hid hb
  clear h hb
  obtain ⟨i0, hi, hz0, hz1, hz2⟩ := info_parts Try.infoInt3
  go_enter Try.func9, Try.ntmps9
  go_wp2
  go_loopw [3, 8] (fun v i wr => ∃ k : Nat, k ≤ ns.length ∧ i = .int .i64 k ∧ wr.ownsRow w.heap.size 3 1 v (clauseOf (ns.take k)).length ((clauseOf (ns.take k)).map (Value.int .i64)) ∧ Below w.heap.size w wr) (fun _ i _ => ns.length - (intOf i).toNat)
  case atStart => exact ⟨0, by omega, rfl, World.ownsRow_nil _ _ _ _, Below.refl _ _⟩
  case round =>
    obtain ⟨k, hk, rfl, hown, hbel⟩ := hrel
    have HO := Lib.hid hown
    have HBel := Lib.hid hbel
    have hsz := hbel.size
    clear hown hbel
    by_cases hlt : k < ns.length
    · obtain ⟨b, off, rfl, _, hcell⟩ := Cells.at_ (H.out.keep fun p hp => HBel.out.cell (by omega)) hlt
      obtain ⟨x1, x2⟩ := HBD.out k
      have htk := clauseOf_take hlt
      have hln := clauseOf_take_len ns k
      obtain ⟨x, hx⟩ : ∃ x, x = ns.getD k 0 := ⟨_, rfl⟩
      rw [← hx] at hcell x1 x2 htk
      clear hx
      rcases hq : (x == 0) with _ | _
      · have hq' : (x != 0) = true := by simpa using hq
        have hx0 : x ≠ 0 := by simpa using hq
        rw [if_neg hx0] at htk
        have HTK := Lib.hid htk
        clear htk hx0 hq
        go_wp2_with (at_builtin; refine wpList_append1 _ rfl _ _ 24 rfl w.heap.size 3 i0 (.int .i64 0) 8 Try.underlying24 hi hz0 hz1 hz2 rfl _ _ _ rfl (HO.out.alloc _) (.int .i64 x) wr.heap.size rfl (by go_cell) rfl (by unfold maxLen; omega) (by omega) (by simp; omega) ?_)
        intro v' w1 hown1 hg1 _
        have hb1 := (HBel.out.alloc (by omega) _).grown hg1 (by simp; omega) (fun k hk => (HO.out.lt k hk).1)
        have HO1 := Lib.hid hown1
        have HB1 := Lib.hid hb1
        clear hown1 hg1 hb1
        go_wp2
        go_roundw
        case rel =>
          refine ⟨k + 1, by omega, by go_num, ?_, HB1.out⟩
          have := HO1.out
          rw [HTK.out, List.map_append, List.length_append]
          exact this
        case measure => simp [intOf]; omega
      · have hq' : (x != 0) = false := by simpa using hq
        have hx0 : x = 0 := by simpa using hq
        rw [if_pos hx0, List.append_nil] at htk
        have HTK := Lib.hid htk
        clear htk hx0 hq
        go_wp2
        go_roundw
        case rel => exact ⟨k + 1, by omega, by go_num, by rw [HTK.out]; exact HO.out, HBel.out⟩
        case measure => simp [intOf]; omega
    · go_wp2
      go_ret
      obtain rfl : k = ns.length := by omega
      have ho := HO.out
      rw [List.take_of_length_le (Nat.le_refl _)] at ho
      obtain ⟨A', c', hv', _⟩ := own_slice ho
      rw [hv'] at ho ⊢
      exact ⟨_, _, rfl, ho, HBel.out⟩

theorem in_any (xs : List Int) (l : Int) (B : Nat) (A : Option Addr) (c : Nat) (w : World) (hn : xs.length ≤ 1099511627776) (h : Ints w B A xs) :
    Calls Try.prog 11 #[.slice A xs.length c, .int .i64 l] w fun e w' => e = .returned (.bool (xs.contains l)) ∧ w = w' := by
  have H := Lib.hid h
  clear h
  obtain ⟨r, hr⟩ : ∃ r, r = xs.contains l := ⟨_, rfl⟩
  have HR := Lib.hid hr
  rw [← hr]
  clear hr
  go_enter Try.func11, Try.ntmps11
  go_wp2
  go_loopg [9] (xs.length + 1) (fun g i w' => ∃ k : Nat, w = w' ∧ k ≤ xs.length ∧ g = xs.length - k + 1 ∧ i = .int .i64 k ∧ r = (xs.drop k).contains l)
  case atStart => exact ⟨0, rfl, by omega, by omega, rfl, HR.out⟩
  case round =>
    obtain ⟨k, rfl, hk, rfl, rfl, hs⟩ := hrel
    by_cases hlt : k < xs.length
    · obtain ⟨b, off, rfl, _, hcell⟩ := H.out.at_ hlt
      rw [drop_getD 0 xs k hlt, List.contains_cons] at hs
      obtain ⟨x, hx⟩ : ∃ x, x = xs.getD k 0 := ⟨_, rfl⟩
      rw [← hx] at hcell hs
      clear hx
      rcases hq : (x == l) with _ | _
      · have hs' : r = (xs.drop (k + 1)).contains l := by rw [hs, show (l == x) = false by simp at hq ⊢; exact fun e => hq e.symm, Bool.false_or]
        have HS := Lib.hid hs'
        clear hs hs'
        go_wp2
        go_roundg (xs.length - k)
        case measure => omega
        case rel => exact ⟨k + 1, rfl, by omega, by omega, by go_num, HS.out⟩
      · have hs' : r = true := by rw [hs, show (l == x) = true by simp at hq ⊢; exact hq.symm, Bool.true_or]
        have HS := Lib.hid hs'
        clear hs hs'
        go_wp2
        go_ret
        exact ⟨ret_bool HS.out.symm, rfl⟩
    · have HS := Lib.hid hs
      clear hs
      go_wp2
      go_ret
      exact ⟨ret_bool (by rw [HS.out, List.drop_eq_nil_of_le (by omega)]; rfl), rfl⟩

theorem index_law_any (l : Int) (w : World) (h1 : -1000000 ≤ l) (h2 : l ≤ 1000000) :
    Calls Try.prog 25 #[.int .i64 l] w fun e w' => e = .returned (.int .i64 (litIndex l)) ∧ w = w' := by
  by_cases h : l < 0
  · rw [litIndex_neg h]
    go_enter Try.func25, Try.ntmps25
    go_wp2
    go_ret
    exact ⟨ret_int (by omega), rfl⟩
  · rw [litIndex_pos (by omega)]
    go_enter Try.func25, Try.ntmps25
    go_wp2
    go_ret
    exact ⟨ret_int (by omega), rfl⟩

theorem form_any (xs : List Int) (B : Nat) (A : Option Addr) (c : Nat) (w : World) (hn : xs.length ≤ 1099511627776) (hb : ∀ k, -1000000 ≤ xs.getD k 0 ∧ xs.getD k 0 ≤ 1000000) (hr : Rising xs) (h : Ints w B A xs) :
    Calls Try.prog 12 #[.slice A xs.length c] w fun e w' => e = .returned (.bool true) ∧ ∃ m, w' = w.drewN m := by
  have H := Lib.hid h
  have HBD := Lib.hid hb
  have HRI := Lib.hid hr
  clear h hb hr
  go_enter Try.func12, Try.ntmps12
  go_wp2
  go_loopg [3] (xs.length + 1) (fun g i w' => ∃ k m : Nat, w' = w.drewN m ∧ (k + 1 ≤ xs.length ∨ k = 0) ∧ g = xs.length - k + 1 ∧ i = .int .i64 ((k : Int) + 1))
  case atStart => exact ⟨0, 0, rfl, by omega, by omega, rfl⟩
  case round =>
    obtain ⟨k, m, rfl, hk, rfl, rfl⟩ := hrel
    by_cases hlt : k + 1 < xs.length
    · obtain ⟨b, off, e1, _, hcell⟩ := H.out.at_ (show k < xs.length by omega)
      obtain ⟨b', off', e2, _, hcell'⟩ := H.out.at_ hlt
      rw [e1] at e2
      obtain ⟨rfl, rfl⟩ : b = b' ∧ off = off' := by injection e2 with e2; injection e2 with h1 h2; exact ⟨h1, h2⟩
      subst e1
      clear e2
      obtain ⟨x1, x2⟩ := HBD.out k
      obtain ⟨y1, y2⟩ := HBD.out (k + 1)
      have hxy := List.pairwise_iff_getElem.1 HRI.out k (k + 1) (by omega) hlt (by omega)
      have gx : xs[k]'(by omega) = xs.getD k 0 := by simp [List.getD, show k < xs.length by omega]
      have gy : xs[k + 1]'hlt = xs.getD (k + 1) 0 := by simp [List.getD, hlt]
      rw [gx, gy] at hxy
      clear gx gy
      obtain ⟨x, hx⟩ : ∃ x, x = xs.getD k 0 := ⟨_, rfl⟩
      obtain ⟨y, hy⟩ : ∃ y, y = xs.getD (k + 1) 0 := ⟨_, rfl⟩
      rw [← hx] at hcell x1 x2 hxy
      rw [← hy] at hcell' y1 y2 hxy
      clear hx hy
      have HQ : ∀ (l : Int) W, -1000000 ≤ l → l ≤ 1000000 → Calls Try.prog 25 #[.int .i64 l] W fun e w' => e = .returned (.int .i64 (litIndex l)) ∧ W = w' := fun l W h1 h2 => index_law_any l W h1 h2
      have hge : ¬ litIndex y ≤ litIndex x := by omega
      obtain ⟨wr, hw⟩ : ∃ wr, wr = w.drewN m := ⟨_, rfl⟩
      have c1 : wr.cell? ⟨b, off + k, none⟩ = some (.int .i64 x) := by rw [hw]; exact hcell
      have c2 : wr.cell? ⟨b, off + (k + 1), none⟩ = some (.int .i64 y) := by rw [hw]; exact hcell'
      rw [← hw]
      have HW := Lib.hid hw
      clear hw hcell hcell'
      go_wp2_with fail
      go_quiet ((go_at_call 25; exact quiet_left (HQ _ _ (by omega) (by omega))))
      go_wp2
      go_roundg (xs.length - k)
      case measure => omega
      case rel => exact ⟨k + 1, _, by rw [HW.out, World.drewN_drewN], by omega, by omega, by go_num⟩
    · go_wp2
      go_ret
      exact ⟨rfl, _, rfl⟩
end Go.Proofs.Ytkncndddednipaa
