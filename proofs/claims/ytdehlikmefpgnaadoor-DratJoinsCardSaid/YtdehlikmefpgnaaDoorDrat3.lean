/- A number at the front of bytes. -/
import Derived.Test.YtdehlikmefpgnaaDoorDrat2
import Derived.Test.YtdehlikmefpgnaaDoorTail
import Derived.Deep.QuietTactic
import Derived.BigQuiet
import Derived.IntWalk
namespace Go.Proofs.YtdehlikmefpgnaaDoor
open Go.RowKit
set_option linter.unusedSimpArgs false
set_option linter.unusedVariables false

theorem num_ok {bs pre r : List UInt8} {x : UInt8} (hb : bs = pre ++ x :: r) (hp : ∀ y ∈ pre, 128 ≤ y.toNat) (hx : x.toNat < 128) (h0 : x ≠ 0 ∨ pre = []) (hl : pre.length ≤ 2) : NumIs bs (some (grp (pre ++ [x]), r), 0) := by
  refine .ok _ _ ?_ ?_
  · have := grp_lt (pre ++ [x])
    have h3 : 128 ^ (pre ++ [x]).length ≤ 128 ^ 3 := Nat.pow_le_pow_right (by decide) (by simp; omega)
    omega
  · rw [nb_grp pre x hp hx h0, hb]; simp
theorem num_zero {bs pre r : List UInt8} (hb : bs = pre ++ 0 :: r) (hp : ∀ y ∈ pre, 128 ≤ y.toNat) (h0 : pre ≠ []) : NumIs bs (none, 9) :=
  .form fun n q e _ hh => nb_pad pre n q (r ++ e) hp h0 (by rw [hh, hb]; simp)
theorem num_three {bs pre r : List UInt8} {x : UInt8} (hb : bs = pre ++ x :: r) (hp : ∀ y ∈ pre, 128 ≤ y.toNat) (hx : 128 ≤ x.toNat) (hl : pre.length = 2) : NumIs bs (none, 9) :=
  .form fun n q e hn hh => nb_three (b := pre ++ [x]) (n := n) (r := q) (q := r ++ e) (fun y hy => by
    rcases List.mem_append.1 hy with h | h
    · exact hp y h
    · rw [List.mem_singleton.1 h]; exact hx) (by simp; omega) hn (by rw [hh, hb]; simp)
theorem take_cons {bs : List UInt8} {k : Nat} (h : k < bs.length) : bs = bs.take k ++ bs.getD k 0 :: bs.drop (k + 1) := by
  have h1 : bs.getD k 0 = bs[k] := by simp [List.getD, h]
  rw [h1]
  conv => lhs; rw [← List.take_append_drop k bs, List.drop_eq_getElem_cons h]

/-- what the cutter of a number answers -/
def CutNum (bs : List UInt8) (B : Nat) (w : World) (e : Ending) (w' : World) : Prop :=
  (∃ n, w' = w.drewN n) ∧ ((∃ (N : Nat) (r : List UInt8) (A2 : Option Addr) (c2 : Nat), e = .returned (.tuple #[.int .i64 N, .slice A2 r.length c2, .int .i64 0]) ∧ NumIs bs (some (N, r), 0) ∧ Bytes w B A2 r ∧ r.length ≤ c2) ∨
    (∃ k : Int, e = .returned (.tuple #[.int .i64 0, .slice none 0 0, .int .i64 k]) ∧ NumIs bs (none, k) ∧ k ≠ 0))

set_option maxRecDepth 100000 in
set_option maxHeartbeats 4000000 in
theorem cutNumber_any (bs : List UInt8) (B c : Nat) (A : Option Addr) (w : World) (h : Bytes w B A bs) (hc : bs.length ≤ c) (hl : bs.length ≤ 1099511627776) :
    Calls Tryd.prog 48 #[.slice A bs.length c] w (CutNum bs B w) := by
  have H := Lib.hid h
  clear h
  obtain ⟨i0, hi, hz0, hz1, hz2⟩ := info_parts Tryd.infoByte
  go_enter Tryd.func48, Tryd.ntmps48
  go_wp2
  go_loopg [5, 6, 11] (bs.length + 1) (fun gk n u i wr => ∃ (k U : Nat), k ≤ bs.length ∧ k ≤ 2 ∧ gk = bs.length - k + 1 ∧ i = .int .i64 k ∧ u = .int .i64 U ∧ U = 128 ^ k ∧ n = .int .i64 (grp (bs.take k)) ∧ (∀ x ∈ bs.take k, 128 ≤ x.toNat) ∧ w = wr)
  case atStart => exact ⟨0, 1, by omega, by omega, by omega, rfl, rfl, rfl, rfl, by simp, rfl⟩
  case round =>
    obtain ⟨k, U, hk, hk2, rfl, rfl, rfl, hU, rfl, hge, rfl⟩ := hrel
    have HGE := Lib.hid hge
    have hU1 : 1 ≤ U ∧ U ≤ 16384 := by
      rw [hU]
      match k, hk2 with
      | 0, _ => decide
      | 1, _ => decide
      | 2, _ => decide
    have hg := grp_lt (bs.take k)
    rw [List.length_take, Nat.min_eq_left hk, ← hU] at hg
    have HU := Lib.hid hU
    clear hge hU
    obtain ⟨g, hgg⟩ : ∃ g, g = grp (bs.take k) := ⟨_, rfl⟩
    rw [← hgg] at hg ⊢
    have HG := Lib.hid hgg
    clear hgg
    by_cases hlt : k < bs.length
    · obtain ⟨b, off, rfl, hbB, hcell⟩ := H.out.at_ hlt
      obtain ⟨x, hx⟩ : ∃ x, x = bs.getD k 0 := ⟨_, rfl⟩
      rw [← hx] at hcell
      have hx2 := x.toNat_lt
      have HXX := Lib.hid hx
      have htc := take_cons hlt
      rw [← hx] at htc
      have HTC := Lib.hid htc
      clear hx htc
      obtain ⟨X, hX⟩ : ∃ X : Nat, X = x.toNat := ⟨_, rfl⟩
      rw [← hX] at hcell hx2
      have HX := Lib.hid hX
      clear hX
      have hp0 : 0 ≤ (U : Int) * ((X : Int) % 128) := Int.mul_nonneg (by omega) (by omega)
      have hp1 : (U : Int) * ((X : Int) % 128) ≤ 16384 * 127 := Int.mul_le_mul (by omega) (by omega) (by omega) (by omega)
      have hST := fun w' => run_slice_tail (P := Tryd.prog) 28 5 i0 Tryd.underlying28 hi hz1 (some ⟨b, off, none⟩) bs.length c (k + 1) ((k : Int) + 1) rfl hlt w'
      have HTL := Lib.hid (H.out.tail (m := k + 1) hlt hc)
      have htk : bs.take (k + 1) = bs.take k ++ [x] := by rw [List.take_succ_eq_append_getElem hlt, HXX.out]; simp [List.getD, hlt]
      have HTK := Lib.hid htk
      clear htk
      generalize hA2 : tailAddr (some ⟨b, off, none⟩) c (k + 1) = A2 at hST HTL
      clear hA2
      by_cases hlow : X < 128
      · by_cases hz : X = 0
        · have hq : ((X : Int) == 0) = true := by simp; omega
          have HZ := Lib.hid hz
          clear hz
          by_cases hk0 : k ≤ 0
          · go_wp2
            go_quiet (fail)
            go_wp2
            go_ret3
            have hcase : x ≠ 0 ∨ bs.take k = [] := Or.inr (by rw [show k = 0 by omega]; rfl)
            have hno := num_ok HTC.out HGE.out (by have := HX.out; omega) hcase (by simp; omega)
            have hgs := grp_snoc (bs.take k) x
            rw [List.length_take, Nat.min_eq_left hk, ← HG.out, ← HU.out, ← HX.out] at hgs
            refine ⟨⟨_, rfl⟩, Or.inl ⟨grp (bs.take k ++ [x]), bs.drop (k + 1), A2, c - (k + 1), ?_, hno, HTL.out, by simp; omega⟩⟩
            show Ending.returned (.tuple #[.int .i64 ((g : Int) + (U : Int) * ((X : Int) % 128)), .slice A2 (bs.length - (k + 1)) (c - (k + 1)), .int .i64 0]) = _
            rw [hgs, List.length_drop]
            push_cast
            rfl
          · clear hST
            go_wp2
            go_ret3
            have hx0 : x = 0 := by
              rw [← UInt8.toNat_inj, ← HX.out, HZ.out]; rfl
            have hb := HTC.out
            rw [hx0] at hb
            refine ⟨⟨0, rfl⟩, Or.inr ⟨9, rfl, num_zero hb HGE.out (fun h => ?_), by decide⟩⟩
            have := congrArg List.length h
            rw [List.length_take, Nat.min_eq_left hk] at this
            have h2 : ([] : List UInt8).length = 0 := rfl
            omega
        · have hq : ((X : Int) == 0) = false := by simp; omega
          go_wp2
          go_quiet (fail)
          go_wp2
          go_ret3
          have hcase : x ≠ 0 ∨ bs.take k = [] := Or.inl (fun h => by have := HX.out; rw [h] at this; simp at this; simp [this] at hq)
          have hno := num_ok HTC.out HGE.out (by have := HX.out; omega) hcase (by simp; omega)
          have hgs := grp_snoc (bs.take k) x
          rw [List.length_take, Nat.min_eq_left hk, ← HG.out, ← HU.out, ← HX.out] at hgs
          refine ⟨⟨_, rfl⟩, Or.inl ⟨grp (bs.take k ++ [x]), bs.drop (k + 1), A2, c - (k + 1), ?_, hno, HTL.out, by simp; omega⟩⟩
          show Ending.returned (.tuple #[.int .i64 ((g : Int) + (U : Int) * ((X : Int) % 128)), .slice A2 (bs.length - (k + 1)) (c - (k + 1)), .int .i64 0]) = _
          rw [hgs, List.length_drop]
          push_cast
          rfl
      · clear hST
        by_cases hk2 : k = 2
        · have hq : ((k : Int) + 1 == 3) = true := by simp; omega
          have HK2 := Lib.hid hk2
          clear hk2
          go_wp2
          go_ret3
          exact ⟨⟨0, rfl⟩, Or.inr ⟨9, rfl, num_three HTC.out HGE.out (by have := HX.out; omega) (by simp; have := HK2.out; omega), by decide⟩⟩
        · have hq : ((k : Int) + 1 == 3) = false := by simp; omega
          go_wp2
          go_roundg (bs.length - k)
          case measure => omega
          case rel =>
            have hgs := grp_snoc (bs.take k) x
            rw [List.length_take, Nat.min_eq_left hk, ← HG.out, ← HU.out, ← HX.out] at hgs
            refine ⟨k + 1, U * 128, by omega, by omega, by omega, by go_num, by go_num, by rw [HU.out, Nat.pow_succ], ?_, ?_, rfl⟩
            · rw [HTK.out, hgs]
              push_cast
              rfl
            · rw [HTK.out]
              intro y hy
              rcases List.mem_append.1 hy with h | h
              · exact HGE.out y h
              · rw [List.mem_singleton.1 h]; have := HX.out; omega
    · have htk : bs.take k = bs := List.take_of_length_le (by omega)
      have HTK := Lib.hid htk
      clear htk
      go_wp2
      go_ret3
      refine ⟨⟨0, rfl⟩, Or.inr ⟨10, rfl, .short (by omega) (fun x hx => HGE.out x (by rw [HTK.out]; exact hx)), by decide⟩⟩
end Go.Proofs.YtdehlikmefpgnaaDoor
