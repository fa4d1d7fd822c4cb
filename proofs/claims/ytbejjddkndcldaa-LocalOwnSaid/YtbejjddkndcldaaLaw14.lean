/- The statements' own helpers of layer 14: an assignment of raw bits, how many literals hold, the example. -/
import Derived.Test.YtbejjddkndcldaaLoc11
import Derived.Test.YtbejjddkndcldaaLaw04
import Derived.Laws.BitsAllLaws
namespace Go.Proofs.Ytbejjddkndcldaa
open Go.RowKit
set_option linter.unusedVariables false
set_option linter.unusedSimpArgs false

theorem new_no14 (F : Nat) (A Az : Option Addr) (c k n cz : Nat) (w : World) (hF : F ≤ 1000) (hn : n ≤ 1000) (hne : n ≠ F) :
    Calls Try.prog 21 #[.agg #[.int .i64 F, .slice A k c], .slice Az n cz] w fun e w' => e = .returned (.tuple #[.pointer none, .int .i64 1]) ∧ Below w.heap.size w w' := by
  have hd : ((n : Int) == (F : Int)) = false := by simp; omega
  go_enter Try.func21, Try.ntmps21
  go_wp2
  go_ret2
  exact ⟨rfl, (Below.refl _ _).alloc (Nat.le_refl _) _⟩

theorem madeBools14 (n : Nat) : madeCells #[Value.bool false] n = boolCells (List.replicate n false) := by
  apply Array.ext'
  rw [toList_madeCells_one]
  simp [boolCells]
def startB (bits : Int) (j : Nat) : Bool := Go.bits BinOp.and IntKind.u32 (bits / 2 ^ (j % 32)) 1 == 1
def startZ (n : Nat) (bits : Int) : List Bool := (List.range n).map (startB bits)
def startTo (n : Nat) (bits : Int) (j : Nat) : List Bool := (List.range n).map fun i => if i < j then startB bits i else false
theorem startZ_len (n : Nat) (bits : Int) : (startZ n bits).length = n := by simp [startZ]
theorem startTo_len (n : Nat) (bits : Int) (j : Nat) : (startTo n bits j).length = n := by simp [startTo]
theorem startTo_zero (n : Nat) (bits : Int) : startTo n bits 0 = List.replicate n false := by
  apply List.ext_getElem
  · simp [startTo]
  · intro i h1 h2
    simp [startTo]
theorem startTo_full (n : Nat) (bits : Int) : startTo n bits n = startZ n bits := by
  unfold startTo startZ
  refine List.map_congr_left fun i hi => ?_
  rw [if_pos (List.mem_range.1 hi)]
theorem startTo_next {n : Nat} (bits : Int) {j : Nat} (hj : j < n) : (startTo n bits j).set j (startB bits j) = startTo n bits (j + 1) := by
  apply List.ext_getElem
  · simp [startTo]
  · intro i h1 h2
    rw [List.getElem_set]
    simp only [startTo, List.getElem_map, List.getElem_range]
    by_cases e : j = i
    · subst e
      rw [if_pos rfl, if_pos (by omega)]
    · rw [if_neg e]
      by_cases hl : i < j
      · rw [if_pos hl, if_pos (by omega)]
      · rw [if_neg hl, if_neg (by omega)]
set_option maxRecDepth 100000 in
set_option maxHeartbeats 1000000 in
theorem start_any (n : Nat) (bits : Int) (w : World) (hn : n ≤ 1000) (hb : 0 ≤ bits ∧ bits < 4294967296) :
    Calls Try.prog 20 #[.int .i64 n, .int .u32 bits] w fun e w' => e = .returned (.slice (some ⟨w.heap.size, 0, none⟩) n n) ∧ BlkB w' w.heap.size 4 (startZ n bits) ∧ Below w.heap.size w w' := by
  have hmk := run_make_row' (P := Try.prog) 51 4 (.bool false) 1 Try.underlying51 infoCB rfl .i64 .i64 n (by omega) (by omega)
  go_enter Try.func20, Try.ntmps20
  go_wp2
  clear hmk
  obtain ⟨w7, hw7⟩ : ∃ w7, w7 = w.alloc (Obj.cells (madeCells #[Value.bool false] n) 4) := ⟨_, rfl⟩
  have HBK7 := Lib.hid (show BlkB w7 w.heap.size 4 (startTo n bits 0) by rw [hw7, madeBools14, startTo_zero]; exact Blk.new w _ _)
  have HB7 := Lib.hid (show Below w.heap.size w w7 by rw [hw7]; exact (Below.refl _ _).alloc (Nat.le_refl _) _)
  rw [← hw7]
  clear hw7
  go_loopg [11] (n + 1) (fun gk i wr => ∃ (j : Nat), j ≤ n ∧ gk = n - j + 1 ∧ i = .int .i64 j ∧ Hid (BlkB wr w.heap.size 4 (startTo n bits j)) ∧ Hid (Below w.heap.size w wr))
  case atStart => exact ⟨0, by omega, by omega, rfl, HBK7, HB7⟩
  case round =>
    obtain ⟨j, hj, rfl, rfl, HBKr, HBr⟩ := hrel
    clear HBK7 HB7
    by_cases hjl : j < n
    · have hc : wr.cell? ⟨w.heap.size, j, none⟩ = some (.bool ((startTo n bits j).getD j false)) := HBKr.out.cell (by rw [startTo_len]; omega)
      have hf : wr.frozen? ⟨w.heap.size, j, none⟩ = false := HBKr.out.frozen j
      obtain ⟨zj, hzj⟩ : ∃ zj, zj = (startTo n bits j).getD j false := ⟨_, rfl⟩
      rw [← hzj] at hc
      have HN : Hid (BlkB (wr.setCell ⟨w.heap.size, j, none⟩ (.bool (startB bits j))) w.heap.size 4 (startTo n bits (j + 1))) := Lib.hid (by rw [← startTo_next bits hjl]; exact HBKr.out.set_ j _)
      clear hzj
      go_wp2
      go_roundg (n - j)
      case measure => omega
      case rel => exact ⟨j + 1, by omega, by omega, by go_num, HN, Lib.hid (HBr.out.setCell (Nat.le_refl _) _)⟩
    · have hjl : n = j := by omega
      subst hjl
      rw [startTo_full] at HBKr
      go_wp2
      go_ret
      exact ⟨rfl, HBKr.out, HBr.out⟩

set_option maxRecDepth 100000 in
set_option maxHeartbeats 1000000 in
/-- how many literals hold -/
theorem holding_law (c : List Int) (z : List Bool) (B B' : Nat) (A Az : Option Addr) (cc cz : Nat) (w : World) (hc : c.length ≤ 1000) (hz : z.length ≤ 1000) (hl : ∀ x ∈ c, x ≠ 0 ∧ x.natAbs ≤ z.length) (h : Ints w B A c) (hZ : Bools w B' Az z) :
    Calls Try.prog 56 #[.slice A c.length cc, .slice Az z.length cz] w fun e w' => e = .returned (.int .i64 ((c.filter (hol z)).length : Nat)) ∧ w = w' := by
  have HA := Lib.hid h
  have HZ := Lib.hid hZ
  have HL := Lib.hid hl
  obtain ⟨n, hn⟩ : ∃ n, c.length = n := ⟨_, rfl⟩
  obtain ⟨m, hm⟩ : ∃ m, z.length = m := ⟨_, rfl⟩
  have HN := Lib.hid (And.intro hn hm)
  rw [hn] at hc ⊢
  rw [hm] at hz ⊢
  clear h hZ hl hn hm
  go_enter Try.func56, Try.ntmps56
  go_wp2
  go_loopg [5, 10] (n + 1) (fun gk tn i wr => ∃ (j k : Nat), w = wr ∧ j ≤ n ∧ gk = n - j + 1 ∧ i = .int .i64 j ∧ tn = .int .i64 (k : Nat) ∧ k ≤ j ∧ Hid (k = ((c.take j).filter (hol z)).length))
  case atStart => exact ⟨0, 0, rfl, by omega, by omega, rfl, rfl, Nat.le_refl _, Lib.hid rfl⟩
  case round =>
    obtain ⟨j, k, hw, hj, rfl, rfl, rfl, hkj, HK⟩ := hrel
    subst hw
    by_cases hlt : j < n
    · have hjc : j < c.length := by rw [HN.out.1]; exact hlt
      obtain ⟨b, o, eA, _, hcell⟩ := Cells.at_ HA.out hjc
      have hx := HL.out (c.getD j 0) (by simp only [List.getD, List.getElem?_eq_getElem hjc, Option.getD_some]; exact List.getElem_mem hjc)
      have hnx : ((c.take (j + 1)).filter (hol z)).length = k + if hol z (c.getD j 0) = true then 1 else 0 := by
        rw [List.take_succ_eq_append_getElem hjc, List.filter_append, List.length_append, ← HK.out]
        congr 1
        simp only [List.getD, List.getElem?_eq_getElem hjc, Option.getD_some, List.filter_cons]
        split <;> rfl
      obtain ⟨x, hxx⟩ : ∃ x, c.getD j 0 = x := ⟨_, rfl⟩
      rw [hxx] at hcell hx hnx
      obtain ⟨v, v1, v2, v3⟩ := lit_cases hx.1
      obtain ⟨u, rfl⟩ : ∃ u, v = u + 1 := ⟨v - 1, by omega⟩
      have hum : u < z.length := by omega
      obtain ⟨b2, o2, eZ, _, hcz⟩ := Cells.at_ HZ.out hum
      have hp := hol_pos (z := z) (v := u + 1) (by omega) (by omega)
      have hq := hol_neg (z := z) (v := u + 1) (by omega) (by omega)
      rw [Nat.add_sub_cancel] at hp hq
      rw [HN.out.2] at hum
      have hmu : (u : Int) < (m : Int) := by omega
      have hub : (u : Int) ≤ 1000 := by omega
      have hkb : (k : Int) ≤ 1000 := by omega
      have hjn : (j : Int) < (n : Int) := by omega
      subst eA eZ
      rcases v3 with e | e
      · have hxp : 0 < x := by omega
        rw [e, hp] at hnx
        obtain ⟨y, hy⟩ : ∃ y, z.getD u false = y := ⟨_, rfl⟩
        rw [hy] at hcz hnx
        have HNX := Lib.hid hnx
        subst e
        clear hnx hp hq hy hxx v1 v2 hx HK hjc
        cases y
        all_goals
          go_wp2
          go_roundg (n - j)
          case measure => omega
        · exact ⟨j + 1, k, rfl, by omega, by omega, by go_num, rfl, by omega, Lib.hid (by rw [HNX.out]; simp)⟩
        · exact ⟨j + 1, k + 1, rfl, by omega, by omega, by go_num, by go_num, by omega, Lib.hid (by rw [HNX.out]; simp)⟩
      · have hxn : x < 0 := by omega
        rw [e, hq] at hnx
        obtain ⟨y, hy⟩ : ∃ y, z.getD u false = y := ⟨_, rfl⟩
        rw [hy] at hcz hnx
        have HNX := Lib.hid hnx
        subst e
        clear hnx hp hq hy hxx v1 v2 hx HK hjc
        cases y
        all_goals
          go_wp2
          go_roundg (n - j)
          case measure => omega
        · exact ⟨j + 1, k + 1, rfl, by omega, by omega, by go_num, by go_num, by omega, Lib.hid (by rw [HNX.out]; simp)⟩
        · exact ⟨j + 1, k, rfl, by omega, by omega, by go_num, rfl, by omega, Lib.hid (by rw [HNX.out]; simp)⟩
    · have hjl : n = j := by omega
      subst hjl
      have hk2 : k = (c.filter (hol z)).length := by rw [HK.out, ← HN.out.1, List.take_length]
      have HK2 := Lib.hid hk2
      clear hk2 HK hlt
      go_wp2
      go_ret
      exact ⟨congrArg (fun (q : Nat) => Ending.returned (Value.int .i64 (q : Int))) HK2.out, rfl⟩
end Go.Proofs.Ytbejjddkndcldaa
