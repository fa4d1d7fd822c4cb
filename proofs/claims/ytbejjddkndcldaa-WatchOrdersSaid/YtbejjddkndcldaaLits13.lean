/- What is on the trail, as the law lists it. -/
import Derived.Test.YtbejjddkndcldaaLaw13
import Derived.Test.YtbejjddkndcldaaRawForm
namespace Go.Proofs.Ytbejjddkndcldaa
open Go.RowKit
set_option linter.unusedVariables false
set_option linter.unusedSimpArgs false

theorem atT_lits (t : TS) (k : Nat) : atT t.recs (k : Int) = t.lits.getD k 0 := by
  unfold atT
  rw [if_pos (by omega)]
  simp [TS.lits, List.getD]

set_option maxHeartbeats 2000000 in
theorem lits13_any {w : World} {base N gX ML : Nat} {yss : List (List Int)} {px : Px} {G : Nat → Prop} {cs : List Cl} {t : TS} {s : WS} {hd : Nat → Value} (h : Lv w base N yss gX ML px G cs t s hd) :
    Calls Try.prog 16 #[.pointer (some ⟨gX, 0, none⟩)] w fun e w' => ∃ A c, e = .returned (.slice A t.lits.length c) ∧ w'.ownsRow w.heap.size 3 1 (.slice A t.lits.length c) t.lits.length (t.lits.map (Value.int .i64)) ∧ Below w.heap.size w w' := by
  have x1 := h.blk.cell 1
  simp at x1
  have hgl := h.blk.lt
  have hf := h.pi.good.few
  have hml := h.pi.good.len
  have hln := lits_len t
  have CL0 := len_any h.tr
  rw [← hln] at CL0 hml
  obtain ⟨n, hn⟩ : ∃ n, t.lits.length = n := ⟨_, rfl⟩
  rw [hn] at CL0 hml ⊢
  have CL := Lib.hid CL0
  have H := Lib.hid h
  have HN := Lib.hid hn
  clear h hn hln CL0
  obtain ⟨i0, hi, hz0, hz1, hz2⟩ := info_parts Try.infoInt3
  go_enter Try.func16, Try.ntmps16
  go_wp2_with fail
  refine CL.out.mono ?_
  rintro e w2 ⟨rfl, rfl⟩
  go_wp2_with fail
  go_loopg [3, 10] (n + 1) (fun gk o i wr => ∃ (k : Nat) (A : Option Addr) (c : Nat), k ≤ n ∧ gk = n - k + 1 ∧ o = .slice A k c ∧ i = .int .i64 k ∧ wr.ownsRow w.heap.size 3 1 (.slice A k c) k ((t.lits.take k).map (Value.int .i64)) ∧ Below w.heap.size w wr)
  case atStart => exact ⟨0, none, 0, by omega, by omega, rfl, rfl, World.ownsRow_nil _ _ _ _, Below.refl _ _⟩
  case round =>
    obtain ⟨k, A, c, hk, rfl, rfl, rfl, hown, hb⟩ := hrel
    by_cases hlt : k < n
    · have hv := H.out.below hb
      have y1 := hv.blk.cell 1
      simp at y1
      have hyl := hv.blk.lt
      have hat := at_any12 hv.tr (k : Int)
      rw [atT_lits] at hat
      have htk : t.lits.take (k + 1) = t.lits.take k ++ [t.lits.getD k 0] := by
        rw [List.take_succ_eq_append_getElem (by rw [HN.out]; exact hlt)]
        simp [List.getD, show k < t.lits.length by rw [HN.out]; exact hlt]
      obtain ⟨v, hvv⟩ : ∃ v, t.lits.getD k 0 = v := ⟨_, rfl⟩
      rw [hvv] at hat htk
      have CA := Lib.hid hat
      have HTK := Lib.hid htk
      have HO := Lib.hid hown
      have HB := Lib.hid hb
      have hwr := hb.size
      clear hv hat htk hvv hown hb x1
      go_wp2_with fail
      refine CA.out.mono ?_
      rintro e w5 ⟨rfl, hd5⟩
      have HO5 := Lib.hid (show w5.ownsRow w.heap.size 3 1 (.slice A k c) k ((t.lits.take k).map (Value.int .i64)) by obtain ⟨m, rfl⟩ := hd5; exact HO.out)
      have HB5 := Lib.hid (show Below w.heap.size w w5 by obtain ⟨m, rfl⟩ := hd5; exact below_drewN HB.out m)
      have hs5 : w.heap.size ≤ w5.heap.size := HB5.out.size
      clear hd5 CA y1 hyl
      go_wp2_with (at_builtin; refine wpList_append1 _ rfl _ _ 32 rfl w.heap.size 3 i0 (.int .i64 0) 8 Try.underlying32 hi hz0 hz1 hz2 rfl _ _ _ rfl (HO5.out.alloc _) (.int .i64 v) w5.heap.size rfl (by go_cell) rfl (by unfold maxLen; omega) (by omega) (by simp; omega) ?_)
      intro v' w3 hown3 hg3 hob3
      obtain ⟨A3, c3, hv3, _⟩ := own_slice hown3
      subst hv3
      have HO3 := Lib.hid hown3
      have HB3 := Lib.hid ((HB5.out.alloc hs5 (.cells #[.int .i64 v] 3)).grown hg3 (by simp; omega) (fun g hg => by have := (HO5.out.lt g hg).1; omega))
      clear hown3 hg3 hob3
      go_wp2
      go_roundg (n - k)
      case measure => omega
      case rel =>
        refine ⟨k + 1, A3, c3, by omega, by omega, rfl, by go_num, ?_, HB3.out⟩
        rw [HTK.out, List.map_append]
        have e := HO3.out
        rw [← List.map_take] at e
        exact e
    · obtain rfl : k = n := by omega
      go_wp2
      go_ret
      refine ⟨A, c, rfl, ?_, hb⟩
      have := hown
      rw [List.take_of_length_le (by rw [HN.out]; omega)] at this
      exact this
end Go.Proofs.Ytbejjddkndcldaa
