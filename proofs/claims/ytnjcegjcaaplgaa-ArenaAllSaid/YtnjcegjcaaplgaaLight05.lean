/- Rows of deeds in memory; few deeds, of few literals. -/
import Derived.Test.YtnjcegjcaaplgaaDo05a
namespace Go.Proofs.Ytnjcegjcaaplgaa
open Go.RowKit
set_option linter.unusedVariables false
set_option linter.unusedSimpArgs false

/-- a deed, as its cells hold it -/
structure DeedV where
  kd : Nat
  n : Int
  m : Int
  a : Option Addr
  ll : Nat
  lc : Nat
  wh : Nat
instance : Inhabited DeedV := ⟨⟨0, 0, 0, none, 0, 0, 0⟩⟩
def DeedV.cells (d : DeedV) : List Value := [.int .u8 d.kd, .int .i64 d.n, .int .i64 d.m, .slice d.a d.ll d.lc, .int .u8 d.wh]
def DeedV.ok (d : DeedV) : Prop := d.kd ≤ 255 ∧ d.wh ≤ 255 ∧ (-9223372036854775808 ≤ d.n ∧ d.n ≤ 9223372036854775807) ∧ (-9223372036854775808 ≤ d.m ∧ d.m ≤ 9223372036854775807) ∧ d.ll ≤ 140737488355328
/-- a row of deeds that reads as a list -/
def Deeds (w : World) (B : Nat) (A : Option Addr) (ds : List DeedV) : Prop :=
  0 < ds.length → ∃ b off, A = some ⟨b, off, none⟩ ∧ b < B ∧ ∀ j, j < ds.length → ∀ i, i < 5 → w.cell? ⟨b, off + j * 5 + i, none⟩ = some ((ds.getD j default).cells.getD i undef)
theorem Deeds.below {w w' : World} {B : Nat} {A : Option Addr} {ds : List DeedV} (h : Deeds w B A ds) (hb : Below B w w') : Deeds w' B A ds := fun hn => by
  obtain ⟨b, off, e, hB, hc⟩ := h hn
  exact ⟨b, off, e, hB, fun j hj i hi => (hb.cell (p := ⟨b, off + j * 5 + i, none⟩) hB).trans (hc j hj i hi)⟩
theorem Deeds.at_ {w : World} {B : Nat} {A : Option Addr} {ds : List DeedV} (h : Deeds w B A ds) {j : Nat} (hj : j < ds.length) : ∃ b off, A = some ⟨b, off, none⟩ ∧ b < B ∧ ∃ d, d = ds.getD j default ∧
    w.cell? ⟨b, off + j * 5, none⟩ = some (.int .u8 d.kd) ∧ w.cell? ⟨b, off + j * 5 + 1, none⟩ = some (.int .i64 d.n) ∧ w.cell? ⟨b, off + j * 5 + 2, none⟩ = some (.int .i64 d.m) ∧ w.cell? ⟨b, off + j * 5 + 3, none⟩ = some (.slice d.a d.ll d.lc) ∧ w.cell? ⟨b, off + j * 5 + 4, none⟩ = some (.int .u8 d.wh) := by
  obtain ⟨b, off, e, hB, hc⟩ := h (by omega)
  exact ⟨b, off, e, hB, _, rfl, hc j hj 0 (by omega), hc j hj 1 (by omega), hc j hj 2 (by omega), hc j hj 3 (by omega), hc j hj 4 (by omega)⟩
/-- how much the deeds hold -/
def weight5 (ds : List DeedV) : Nat := (ds.map fun d => 1 + d.ll).sum
theorem weight5_snoc {ds : List DeedV} {k : Nat} (hk : k < ds.length) : weight5 (ds.take (k + 1)) = weight5 (ds.take k) + (1 + (ds.getD k default).ll) := by
  unfold weight5
  rw [List.take_succ_eq_append_getElem hk, List.map_append, List.sum_append]
  simp [List.getD, hk]
theorem weight5_le (ds : List DeedV) (k : Nat) : weight5 (ds.take k) ≤ weight5 ds := by
  conv => rhs; rw [← List.take_append_drop k ds]
  unfold weight5
  rw [List.map_append, List.sum_append]
  omega

set_option maxRecDepth 100000 in
set_option maxHeartbeats 2000000 in
theorem light05_any (ds : List DeedV) (A : Option Addr) (c : Nat) (w : World) (hok : ∀ d ∈ ds, d.ok) (hn : ds.length ≤ 4398046510080) (h : Deeds w w.heap.size A ds) :
    Calls Try.prog 6 #[.slice A ds.length c] w fun e w' => e = .returned (.bool (decide (weight5 ds ≤ 500))) ∧ Below w.heap.size w w' := by
  have H := Lib.hid h
  have OK := Lib.hid hok
  clear h hok
  go_enter Try.func6, Try.ntmps6
  go_wp2
  go_loopg [3, 8] (ds.length + 1) (fun gk s i wr => ∃ k : Nat, k ≤ ds.length ∧ gk = ds.length - k + 1 ∧ i = .int .i64 k ∧ s = .int .i64 (weight5 (ds.take k) : Nat) ∧ weight5 (ds.take k) ≤ 500 ∧ Below w.heap.size w wr)
  case atStart => exact ⟨0, by omega, by omega, rfl, rfl, by simp [weight5], Below.refl _ _⟩
  case round =>
    obtain ⟨k, hk, rfl, rfl, rfl, h5, hb⟩ := hrel
    have HB := Lib.hid hb
    clear hb
    by_cases hlt : k < ds.length
    · obtain ⟨b, off, rfl, _, d, hd, e0, e1, e2, e3, e4⟩ := (H.out.below HB.out).at_ hlt
      have hs := weight5_snoc hlt
      rw [← hd] at hs
      have hdo : d.ok := by rw [hd, List.getD, List.getElem?_eq_getElem hlt]; exact OK.out _ (List.getElem_mem hlt)
      obtain ⟨_, _, _, _, hll⟩ := hdo
      have HLE := Lib.hid (weight5_le ds (k + 1))
      have HS := Lib.hid hs
      obtain ⟨t, ht⟩ : ∃ t, t = weight5 (ds.take k) := ⟨_, rfl⟩
      rw [← ht] at h5 HS ⊢
      clear hd hs ht
      by_cases hg : 500 < t + (1 + d.ll)
      · have hno : decide (weight5 ds ≤ 500) = false := by have := HLE.out; rw [HS.out] at this; rw [decide_eq_false_iff_not]; omega
        have HNO := Lib.hid hno
        have hc : (500 : Int) < (t : Int) + (1 + (d.ll : Int)) := by omega
        clear hno hg
        go_wp2
        go_ret
        exact ⟨by rw [HNO.out]; rfl, HB.out.alloc HB.out.size _⟩
      · have hc : ¬ ((500 : Int) < (t : Int) + (1 + (d.ll : Int))) := by omega
        have hll2 : d.ll ≤ 500 := by omega
        go_wp2_with fail
        go_roundg (ds.length - k)
        case measure => omega
        case rel => exact ⟨k + 1, by omega, by omega, by go_num, by rw [HS.out]; refine congrArg (Value.int .i64) ?_; omega, by rw [HS.out]; omega, HB.out.alloc HB.out.size _⟩
    · obtain rfl : k = ds.length := by omega
      rw [List.take_length] at h5 ⊢
      have HY := Lib.hid (show decide (weight5 ds ≤ 500) = true by simp [h5])
      go_wp2
      go_ret
      exact ⟨by rw [HY.out]; rfl, HB.out⟩
end Go.Proofs.Ytnjcegjcaaplgaa
