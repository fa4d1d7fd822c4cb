/- A row of bools that a call makes for itself, known whole: read, written, cleared behind a place. No program is named here. The trial of all assignments, as the statements do it. -/
import Derived.Test.YthcpfaahcncfjaaGreatDoorOwnRows
import Derived.Laws.MakeOwn
import Derived.Test.YthcpfaahcncfjaaGreatDoorLaw02
import Derived.Test.YthcpfaahcncfjaaGreatDoorBits
import Derived.Deep.OwnRows
namespace Go.Proofs.YthcpfaahcncfjaaGreatDoor
open Go.RowKit

def boolCells (z : List Bool) : Array Value := (z.map Value.bool).toArray
/-- block g is just this row of bools -/
def BlkB (w : World) (g : Nat) (t : TypeId) (z : List Bool) : Prop := Blk w g t (boolCells z)
section
variable {w w' : World} {g : Nat} {t : TypeId} {z : List Bool}
theorem BlkB.cell (h : BlkB w g t z) {i : Nat} (hi : i < z.length) : w.cell? ⟨g, i, none⟩ = some (.bool (z.getD i false)) := by
  rw [Blk.cell h i]; simp [boolCells, List.getD, hi]
theorem BlkB.frozen (h : BlkB w g t z) (i : Nat) : w.frozen? ⟨g, i, none⟩ = false := Blk.frozen h i
theorem BlkB.lt (h : BlkB w g t z) : g < w.heap.size := Blk.lt h
theorem BlkB.set_ (h : BlkB w g t z) (i : Nat) (b : Bool) : BlkB (w.setCell ⟨g, i, none⟩ (.bool b)) g t (z.set i b) := by
  have := Blk.set_ h i (.bool b)
  unfold BlkB
  have e : boolCells (z.set i b) = (boolCells z).setIfInBounds i (.bool b) := by
    unfold boolCells
    apply Array.ext'
    simp [List.map_set]
  rw [e]; exact this
theorem BlkB.bools (h : BlkB w g t z) : Bools w w.heap.size (some ⟨g, 0, none⟩) z := fun _ => ⟨g, 0, rfl, h.lt, fun j hj => by rw [Nat.zero_add]; exact h.cell hj⟩

theorem grown_trans {row : Option Nat} {a b c : World} (h : a.grownBy b row) (k : b.grownBy c row) : a.grownBy c row :=
  ⟨k.os.trans h.os, k.tape.trans h.tape, k.output.trans h.output, Nat.le_trans h.size k.size, fun i hi hne => (k.block i (Nat.lt_of_lt_of_le hi h.size) hne).trans (h.block i hi hne)⟩
theorem below_of_grown {B g : Nat} (hg : w.grownBy w' (some g)) (hB : B ≤ w.heap.size) (hgB : B ≤ g) : Below B w w' :=
  ⟨hg.os, hg.tape, hg.output, hg.size, fun k hk => hg.block k (by omega) (fun e => by injection e with e; omega)⟩

/-- the first k as they are, all behind false -/
def zeroTail (z : List Bool) (k : Nat) : List Bool := z.take k ++ List.replicate (z.length - k) false
theorem zeroTail_length {z : List Bool} {k : Nat} (h : k ≤ z.length) : (zeroTail z k).length = z.length := by simp [zeroTail]; omega
theorem zeroTail_full (z : List Bool) : zeroTail z z.length = z := by simp [zeroTail]
theorem zeroTail_getD {z : List Bool} {k j : Nat} (h : j < k) (hk : k ≤ z.length) : (zeroTail z k).getD j false = z.getD j false := by
  unfold zeroTail
  simp [List.getD, List.getElem?_append_left (show j < (z.take k).length by simp; omega), h]
theorem zeroTail_set_false {z : List Bool} {k : Nat} (hk : k < z.length) : (zeroTail z (k + 1)).set k false = zeroTail z k := by
  unfold zeroTail
  rw [List.set_append_left _ _ (by simp; omega)]
  have e : (z.take (k + 1)).set k false = z.take k ++ [false] := by
    rw [List.take_succ_eq_append_getElem hk, List.set_append_right _ _ (by simp; omega)]
    simp [Nat.min_eq_left (Nat.le_of_lt hk)]
  rw [e, List.append_assoc, List.singleton_append, ← List.replicate_succ]
  congr 2
  omega
theorem zeroTail_set_true {z : List Bool} {k : Nat} (hk : k < z.length) : (zeroTail z (k + 1)).set k true = z.take k ++ true :: List.replicate (z.length - k - 1) false := by
  unfold zeroTail
  rw [List.set_append_left _ _ (by simp; omega)]
  have e : (z.take (k + 1)).set k true = z.take k ++ [true] := by
    rw [List.take_succ_eq_append_getElem hk, List.set_append_right _ _ (by simp; omega)]
    simp [Nat.min_eq_left (Nat.le_of_lt hk)]
  rw [e, List.append_assoc, List.singleton_append]
  congr 3

theorem blkB_setCells : ∀ (n o : Nat) (w : World) (z : List Bool), BlkB w g t z → o + n = z.length →
    BlkB (w.setCells g o (List.replicate n (.bool false))) g t (zeroTail z o) ∧ w.grownBy (w.setCells g o (List.replicate n (.bool false))) (some g)
  | 0, o, w, z, h, e => by
    obtain rfl : o = z.length := by omega
    rw [zeroTail_full]
    exact ⟨h, World.grownBy.refl w _⟩
  | n + 1, o, w, z, h, e => by
    have ih := blkB_setCells n (o + 1) (w.setCell ⟨g, o, none⟩ (.bool false)) (z.set o false) (h.set_ o false) (by simp; omega)
    rw [List.replicate_succ]
    show BlkB (((w.setCell ⟨g, o, none⟩ (.bool false)).setCells g (o + 1) (List.replicate n (.bool false)))) g t (zeroTail z o) ∧ _
    refine ⟨?_, grown_trans (grown_setCell w ⟨g, o, none⟩ (.bool false)) ih.2⟩
    have e2 : zeroTail (z.set o false) (o + 1) = zeroTail z o := by
      rw [show zeroTail z o = (zeroTail z (o + 1)).set o false from (zeroTail_set_false (by omega)).symm]
      unfold zeroTail
      rw [List.set_append_left _ _ (by simp; omega), List.take_set, List.length_set]
    rw [← e2]
    exact ih.1
theorem run_clear_none {P : Program} (w : World) (t e ty : TypeId) (ht : P.underlying t = some (.slice e)) (A : Option Addr) (c : Nat) : (Builtin.clear_ #[t] ty #[.slice A 0 c]).run P w = .ok (.tuple #[]) w := by
  cases A <;> simp [Builtin.clear_, run_underlying ht]
end
end Go.Proofs.YthcpfaahcncfjaaGreatDoor

namespace Go.Proofs.YthcpfaahcncfjaaGreatDoor
open Go.RowKit
set_option linter.unusedVariables false
set_option linter.unusedSimpArgs false

/-- the assignment that a number is, the first variable the lowest -/
def lowBits (F n : Nat) : List Bool := (List.range F).map fun i => n / 2 ^ i % 2 == 1
theorem lowBits_length (F n : Nat) : (lowBits F n).length = F := by simp [lowBits]
theorem lowBits_succ (F n : Nat) : lowBits (F + 1) n = (n % 2 == 1) :: lowBits F (n / 2) := by
  unfold lowBits
  rw [List.range_succ_eq_map, List.map_cons, List.map_map]
  congr 1
  · simp
  · apply List.map_congr_left
    intro i hi
    show (n / 2 ^ (i + 1) % 2 == 1) = (n / 2 / 2 ^ i % 2 == 1)
    rw [Nat.div_div_eq_div_mul, Nat.pow_succ, Nat.mul_comm]
theorem lowBits_all : ∀ z : List Bool, ∃ n, n < 2 ^ z.length ∧ lowBits z.length n = z
  | [] => ⟨0, by simp, rfl⟩
  | b :: r => by
    obtain ⟨n, hn, h⟩ := lowBits_all r
    refine ⟨2 * n + (if b then 1 else 0), ?_, ?_⟩
    · simp only [List.length_cons, Nat.pow_succ]; split <;> omega
    · rw [List.length_cons, lowBits_succ]
      have e : (2 * n + (if b then 1 else 0)) / 2 = n := by split <;> omega
      rw [e, h]
      congr 1
      rcases b <;> simp <;> omega
theorem madeBools8 (n : Nat) : madeCells #[Value.bool false] n = boolCells (List.replicate n false) := by
  apply Array.ext'
  rw [toList_madeCells_one]
  simp [boolCells]
theorem infoBool8 : (Tryz.prog.info? 4).map (fun i => (i.zero, i.size, i.bytes)) = some (some (.bool false), 1, 1) := by kernel_rfl
/-- is there an assignment that satisfies? -/
def SatP (F : Nat) (xss : List (List Int)) : Prop := ∃ z : List Bool, z.length = F ∧ formSat z xss = true

set_option maxRecDepth 100000 in
set_option maxHeartbeats 2000000 in
theorem truth_any (F : Nat) (xss : List (List Int)) (B c : Nat) (A : Option Addr) (w : World) (hF : F ≤ 20) (hx : xss.length ≤ 1099511627776) (hxl : ∀ j, (xss.getD j []).length ≤ 1099511627776)
    (hb : ∀ j k, -(F : Int) ≤ (xss.getD j []).getD k 0 ∧ (xss.getD j []).getD k 0 ≤ F) (h : Rows w B A xss) (hB : B ≤ w.heap.size) :
    Calls Tryz.prog 21 #[.agg #[.int .i64 F, .slice A xss.length c]] w fun e w' => ∃ b : Bool, e = .returned (.bool b) ∧ (b = true ↔ SatP F xss) ∧ Below w.heap.size w w' := by
  have H := Lib.hid h
  have HX2 := Lib.hid hxl
  have HX3 := Lib.hid hb
  obtain ⟨CN, hCN⟩ : ∃ CN, CN = xss.length := ⟨_, rfl⟩
  have HCN := Lib.hid hCN
  rw [← hCN] at hx ⊢
  obtain ⟨w6, hw6⟩ : ∃ w6, w6 = w.alloc (Obj.cells #[Value.int IntKind.i64 F, Value.slice A CN c] 31) := ⟨_, rfl⟩
  have HFB6 := Lib.hid (show Blk w6 w.heap.size 31 #[Value.int IntKind.i64 F, Value.slice A CN c] by rw [hw6]; exact Blk.new w _ _)
  have HRO6 := Lib.hid (show Rows w6 B A xss by rw [hw6]; exact H.out.alloc hB _)
  have HB6 := Lib.hid (show Below w.heap.size w w6 by rw [hw6]; exact (Below.refl _ _).alloc (Nat.le_refl _) _)
  have hs6 : w.heap.size < w6.heap.size := HFB6.out.lt
  have HW6 := Lib.hid hw6
  obtain ⟨P, hP⟩ : ∃ P, P = 2 ^ F := ⟨_, rfl⟩
  have hP1 : P ≤ 1048576 := by
    have : 2 ^ F ≤ 2 ^ 20 := Nat.pow_le_pow_right (by decide) hF
    omega
  have hPi : wrap64 ((2 : Int) ^ F) = (P : Int) := by
    have e : (2 : Int) ^ F = (P : Int) := by rw [hP]; simp
    rw [e]
    exact IntWalk.wrap64_in _ ⟨by omega, by omega⟩
  have HP := Lib.hid hP
  have HPI := Lib.hid hPi
  clear hP hPi h hxl hb hCN hw6
  go_enter Tryz.func21, Tryz.ntmps21
  have f0 := HFB6.out.cell 0
  have f1 := HFB6.out.cell 1
  simp at f0 f1
  rw [HW6.out] at f0 f1
  go_wp2
  rw [HPI.out, ← HW6.out]
  rw [← HW6.out] at f0 f1
  have hmk := run_make_row' (P := Tryz.prog) 90 4 (.bool false) 1 Tryz.underlying90 infoBool8 rfl .i64 .i64 F (by omega) (by omega)
  clear f0 f1
  go_loopg [9] (P + 1) (fun gk i wr => ∃ n : Nat, n ≤ P ∧ gk = P - n + 1 ∧ i = .int .i64 n ∧ Hid (∀ m, m < n → formSat (lowBits F m) xss = false) ∧ Hid (Below w6.heap.size w6 wr))
  case atStart => exact ⟨0, by omega, by omega, rfl, Lib.hid (fun m hm => by omega), Lib.hid (Below.refl _ _)⟩
  case round =>
    obtain ⟨n, hn, rfl, rfl, hall, HBo⟩ := hrel
    obtain ⟨wo, rfl⟩ : ∃ wo : World, wo = wr := ⟨_, rfl⟩
    have hso := HBo.out.size
    have HFBo := Lib.hid (HFB6.out.below HBo.out HFB6.out.lt)
    have f0 := HFBo.out.cell 0
    have f1 := HFBo.out.cell 1
    simp at f0 f1
    by_cases hnl : n < P
    · go_wp2
      obtain ⟨w7, hw7⟩ : ∃ w7, w7 = wo.alloc (Obj.cells (madeCells #[Value.bool false] F) 4) := ⟨_, rfl⟩
      have HBK7 := Lib.hid (show BlkB w7 wo.heap.size 4 (List.replicate F false) by rw [hw7, madeBools8]; exact Blk.new wo _ _)
      have HB7 := Lib.hid (show Below w6.heap.size w6 w7 by rw [hw7]; exact HBo.out.alloc hso _)
      have hs7 : w7.heap.size = wo.heap.size + 1 := by rw [hw7]; simp
      rw [← hw7]
      clear hw7 f0 f1
      go_loopg [17] (F + 1) (fun gk i wr => ∃ (j : Nat) (z : List Bool), j ≤ F ∧ gk = F - j + 1 ∧ i = .int .i64 j ∧ Hid (z.length = F) ∧ BlkB wr wo.heap.size 4 z ∧ w7.grownBy wr (some wo.heap.size) ∧ Hid (∀ i, i < j → z.getD i false = (n / 2 ^ i % 2 == 1)))
      case atStart => exact ⟨0, _, by omega, by omega, rfl, Lib.hid (by simp), HBK7.out, World.grownBy.refl _ _, Lib.hid (fun i hi => by omega)⟩
      case round =>
        obtain ⟨j, z, hj, rfl, rfl, hz, hbk, hgr, hbits⟩ := hrel
        have HBKr := Lib.hid hbk
        have HGr := Lib.hid hgr
        clear hbk hgr HBK7
        have HFBr := Lib.hid ((HFB6.out.below HB7.out HFB6.out.lt).grown HGr.out (fun e => by injection e; have := HFB6.out.lt; omega))
        have f0 := HFBr.out.cell 0
        have f1 := HFBr.out.cell 1
        simp at f0 f1
        by_cases hjl : j < F
        · have hc : wr.cell? ⟨wo.heap.size, j, none⟩ = some (.bool (z.getD j false)) := HBKr.out.cell (by rw [hz.out]; omega)
          have hf : wr.frozen? ⟨wo.heap.size, j, none⟩ = false := HBKr.out.frozen j
          obtain ⟨zj, hzj⟩ : ∃ zj, zj = z.getD j false := ⟨_, rfl⟩
          rw [← hzj] at hc
          clear hzj
          go_wp2
          go_roundg (F - j)
          case measure => omega
          case rel =>
            refine ⟨j + 1, _, by omega, by omega, by go_num, Lib.hid (by simp [hz.out]), HBKr.out.set_ j _, grown_trans HGr.out (grown_setCell _ ⟨wo.heap.size, j, none⟩ _), Lib.hid (fun i hi => ?_)⟩
            rcases Nat.lt_or_ge i j with hlt | hge
            · rw [← hbits.out i hlt]
              simp [List.getD, List.getElem?_set_ne (show j ≠ i by omega)]
            · obtain rfl : i = j := by omega
              rw [i64_and_1]
              have e : ((n : Int) / 2 ^ i) % 2 = ((n / 2 ^ i % 2 : Nat) : Int) := by simp
              rw [e]
              simp [List.getD, hz.out, hjl]
              rw [Bool.eq_iff_iff]
              simp
              omega
        · have hzb : z = lowBits F n := by
            apply List.ext_getElem
            · rw [hz.out, lowBits_length]
            · intro i h1 h2
              have := hbits.out i (by rw [hz.out] at h1; omega)
              rw [List.getD, List.getElem?_eq_getElem h1] at this
              rw [show z[i] = _ from this]
              simp [lowBits]
          have HBw := Lib.hid (HB7.out.trans (below_of_grown (B := w6.heap.size) HGr.out (by omega) (by omega)))
          have hzr := Cells.more HBKr.out.bools (Nat.le_refl _)
          have HZr := Lib.hid hzr
          have hdh := docholds_any F xss B wr.heap.size A (some ⟨wo.heap.size, 0, none⟩) z c F wr (by rw [← HCN.out]; omega) (fun j => HX2.out j) (fun j i => by rw [hz.out]; exact HX3.out j i) (by rw [hz.out]; omega)
            (HRO6.out.below (HBw.out.mono (by omega))) HZr.out (by have := HBw.out.size; omega) (Nat.le_refl _)
          rw [hz.out, ← HCN.out] at hdh
          have HDH := Lib.hid hdh
          have HZB := Lib.hid hzb
          clear hzb hzr hdh hbits HGr
          rcases hfv : formSat z xss with _ | _
          · rw [hfv] at HDH
            have HFV := Lib.hid hfv
            clear hfv
            go_wp2_with (go_at_call 41; refine HDH.out.mono ?_; rintro e w8 ⟨rfl, hb8⟩)
            go_roundg (P - n)
            case measure => omega
            case rel =>
              have hb8' : Below wr.heap.size wr w8 := by assumption
              refine ⟨n + 1, by omega, by omega, by go_num, Lib.hid (fun m hm => ?_), Lib.hid (HBw.out.trans (hb8'.mono HBw.out.size))⟩
              rcases Nat.lt_or_ge m n with h | h
              · exact hall.out m h
              · obtain rfl : m = n := by omega
                rw [← HZB.out]; exact HFV.out
          · rw [hfv] at HDH
            have HSAT : Hid (SatP F xss) := Lib.hid ⟨z, hz.out, hfv⟩
            clear hfv
            go_wp2_with fail
            refine HDH.out.mono ?_
            rintro e w8 ⟨rfl, hb8⟩
            have HB8 := Lib.hid (HB6.out.trans ((HBw.out.trans (hb8.mono HBw.out.size)).mono HB6.out.size))
            clear hb8 f0 f1
            go_wp2
            go_ret
            exact ⟨true, rfl, ⟨fun _ => HSAT.out, fun _ => rfl⟩, HB8.out⟩
    · have hnP : n = P := by omega
      have HNO : Hid (¬ SatP F xss) := Lib.hid fun ⟨z, hz, hs⟩ => by
        obtain ⟨m, hm, e⟩ := lowBits_all z
        rw [hz, ← HP.out, ← hnP] at hm
        have := hall.out m hm
        rw [hz] at e
        rw [e, hs] at this
        cases this
      clear hnP
      go_wp2
      go_ret
      exact ⟨false, rfl, ⟨fun h => (by cases h), fun h => absurd h HNO.out⟩, HB6.out.trans (HBo.out.mono HB6.out.size)⟩
end Go.Proofs.YthcpfaahcncfjaaGreatDoor
