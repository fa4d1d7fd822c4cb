/- What package table answers: kinds and bases that may be; weights. -/
import Derived.Test.YtjjpgiahifkinaaTabMath
import Derived.Test.YtjjpgiahifkinaaOwnRows
import Derived.Test.YtjjpgiahifkinaaProg
import Derived.WalkSpells
import Derived.Handy
import Derived.Laws.Tables
import Derived.Deep.LoopGhost
namespace Go.Proofs.Ytjjpgiahifkinaa
open Go.RowKit
set_option linter.unusedVariables false
set_option linter.unusedSimpArgs false

def rightB (k b : Int) : Bool := decide (k = 0 ∧ 1 ≤ b ∧ b ≤ 64 ∨ k = 1 ∧ 17 ≤ b ∧ b ≤ 256)
theorem right_any (k b : Int) (w : World) : Calls Try.prog 13 #[.int .i64 k, .int .i64 b] w fun e w' => e = .returned (.bool (rightB k b)) ∧ w = w' := by
  have H0 : k = 0 → rightB k b = (decide (1 ≤ b) && decide (b ≤ 64)) := fun h => by rw [Bool.eq_iff_iff]; simp [rightB, h]
  have H1 : k = 1 → rightB k b = (decide (17 ≤ b) && decide (b ≤ 256)) := fun h => by rw [Bool.eq_iff_iff]; simp [rightB, h]
  have H2 : k ≠ 0 → k ≠ 1 → rightB k b = false := fun h h' => by simp [rightB, h, h']
  obtain ⟨r, hr⟩ : ∃ r, rightB k b = r := ⟨_, rfl⟩
  rw [hr] at H0 H1 H2 ⊢
  clear hr
  by_cases h0 : k = 0
  · have HH := Lib.hid (H0 h0)
    clear H0 H1 H2
    subst h0
    go_enter Try.func13, Try.ntmps13
    go_wp2
    all_goals go_ret
    all_goals exact ⟨by rw [HH.out]; simp; try omega, rfl⟩
  · by_cases h1 : k = 1
    · have HH := Lib.hid (H1 h1)
      clear H0 H1 H2 h0
      subst h1
      go_enter Try.func13, Try.ntmps13
      go_wp2
      all_goals go_ret
      all_goals exact ⟨by rw [HH.out]; simp; try omega, rfl⟩
    · have HH := Lib.hid (H2 h0 h1)
      clear H0 H1 H2
      go_enter Try.func13, Try.ntmps13
      go_wp2
      all_goals go_ret
      all_goals exact ⟨by rw [HH.out]; rfl, rfl⟩

theorem size64 : (Try.prog.info? 39).map (·.size) = some 64 := by kernel_rfl
/-- sixty-four cells, of which the first k are told -/
def rowC (f : Nat → Nat) (k : Nat) : Array Value := ((List.range 64).map fun j => Value.int .i64 ((if j < k then f j else 0 : Nat) : Int)).toArray
theorem rowC_size (f : Nat → Nat) (k : Nat) : (rowC f k).size = 64 := by simp [rowC]
theorem rowC_get (f : Nat → Nat) {k j : Nat} (h : j < 64) : (rowC f k)[j]? = some (.int .i64 ((if j < k then f j else 0 : Nat) : Int)) := by simp [rowC, h]
theorem rowC_set (f : Nat → Nat) {k : Nat} (h : k < 64) : (rowC f k).setIfInBounds k (.int .i64 (f k : Int)) = rowC f (k + 1) := by
  apply Array.ext
  · simp [rowC]
  · intro j h1 h2
    rw [Array.getElem_setIfInBounds (by simpa using h1)]
    simp only [rowC, List.getElem_toArray, List.getElem_map, List.getElem_range]
    by_cases hj : k = j
    · subst hj; simp
    · rw [if_neg hj]
      have : (j < k + 1) ↔ (j < k) := by omega
      simp only [this]
theorem rowC_zero (f : Nat → Nat) : rowC f 0 = Array.replicate 64 (.int .i64 0) := by
  apply Array.ext
  · simp [rowC]
  · intro j h1 h2
    simp [rowC]
theorem rowC_one (f : Nat → Nat) (k : Nat) : (rowC f k).all (·.oneCell') = true := by
  rw [Array.all_eq_true_iff_forall_mem]
  intro v hv
  simp [rowC] at hv
  obtain ⟨j, _, rfl⟩ := hv
  rfl
theorem rowC_congr {f g : Nat → Nat} {k : Nat} (h : ∀ j, j < k → f j = g j) : rowC f k = rowC g k := by
  unfold rowC
  congr 1
  apply List.map_congr_left
  intro j _
  by_cases hj : j < k
  · simp [hj, h j hj]
  · simp [hj]

set_option maxRecDepth 20000 in
set_option maxHeartbeats 2000000 in
theorem poly_any (b : Nat) (h1 : 1 ≤ b) (h2 : b ≤ 64) (w : World) : Calls Try.prog 17 #[.int .i64 b] w fun e w' => e = .returned (.agg (rowC (wtP b) 64)) ∧ Below w.heap.size w w' := by
  go_enter Try.func17, Try.ntmps17
  go_wp2
  go_loopg [6] 65 (fun g p wr => ∃ k : Nat, k ≤ 64 ∧ g = 65 - k ∧ p = .int .i64 (k : Int) ∧ Hid (Blk wr w.heap.size 39 (rowC (fun _ => 0) 0)) ∧ Hid (Blk wr (w.heap.size + 1) 39 (rowC (wtP b) k)) ∧ Hid (Below w.heap.size w wr))
  case atStart =>
    refine ⟨0, by omega, rfl, rfl, Lib.hid ?_, Lib.hid ?_, Lib.hid (((Below.refl _ _).alloc (Nat.le_refl _) _).alloc (by simp) _)⟩
    · rw [rowC_zero]; exact (Blk.new w _ _).alloc _
    · rw [rowC_zero]
      have := Blk.new (w.alloc (.cells (Array.replicate 64 (.int .i64 0)) 39)) 39 (Array.replicate 64 (.int .i64 0))
      rw [World.size_alloc] at this
      exact this
  case round =>
    obtain ⟨k, hk, rfl, rfl, HR, HC, HB⟩ := hrel
    by_cases hlt : k < 64
    · obtain ⟨n, hn⟩ : ∃ n, b + k = n := ⟨_, rfl⟩
      obtain ⟨q, hq⟩ : ∃ q, n * n = q := ⟨_, rfl⟩
      obtain ⟨c, hc⟩ : ∃ c, q * n = c := ⟨_, rfl⟩
      have hn1 : 1 ≤ n := by omega
      have hn2 : n ≤ 127 := by omega
      have hq2 : q ≤ 16129 := by rw [← hq]; exact Nat.mul_le_mul hn2 hn2
      have hq1 : 1 ≤ q := by rw [← hq]; exact Nat.mul_le_mul hn1 hn1
      have hc2 : c ≤ 2048383 := by rw [← hc]; exact Nat.mul_le_mul hq2 hn2
      have hc1 : 1 ≤ c := by rw [← hc]; exact Nat.mul_le_mul hq1 hn1
      obtain ⟨d, hd⟩ : ∃ d, 1099511627776 / c = d := ⟨_, rfl⟩
      have e1 : (b : Int) + (k : Int) = (n : Int) := by omega
      have e2 : (n : Int) * (n : Int) = (q : Int) := by rw [← hq]; simp
      have e3 : (q : Int) * (n : Int) = (c : Int) := by rw [← hc]; simp
      have e4 : Int.tdiv 1099511627776 (c : Int) = (d : Int) := by rw [← hd]; rfl
      have e5 : (1099511627776 : Int) / (c : Int) = (d : Int) := by rw [← hd]; simp
      have hd2 : d ≤ 1099511627776 := by rw [← hd]; exact Nat.div_le_self _ _
      have HW := Lib.hid (show max d 1 = wtP b k by unfold wtP; rw [hn, hq, hc, hd])
      have HE := Lib.hid hn
      have c0 := HC.out.cell k
      have f0 := HC.out.frozen k
      rw [rowC_get _ hlt] at c0
      clear hn hq hc hd
      go_wp2
      all_goals go_roundg (64 - k)
      case measure => omega
      case measure => omega
      case rel =>
        rename_i hm
        refine ⟨k + 1, by omega, by omega, by go_num, Lib.hid (HR.out.far (by simp) _), Lib.hid ?_, Lib.hid (HB.out.setCell (by simp) _)⟩
        rw [← rowC_set _ hlt, ← HW.out, show max d 1 = 1 by omega]
        exact HC.out.set_ k _
      case rel =>
        rename_i hm
        refine ⟨k + 1, by omega, by omega, by go_num, Lib.hid (HR.out.far (by simp) _), Lib.hid ?_, Lib.hid (HB.out.setCell (by simp) _)⟩
        rw [← rowC_set _ hlt, ← HW.out, show max d 1 = d by omega]
        exact HC.out.set_ k _
    · obtain rfl : k = 64 := by omega
      go_wp2_with (first | (refine wpList_load_row rfl 39 (.tmp 3) rfl (w.heap.size + 1) rfl _ _ _ _ HC.out Try.underlying39 rfl (by rw [rowC_size]; exact size64) ?_) | (refine wpList_store_row rfl 39 (.tmp 2) (.tmp 22) rfl w.heap.size (rowC (wtP b) 64) rfl rfl _ _ HR.out (by rw [rowC_size]; exact size64) (by rw [rowC_size, rowC_size]) (rowC_one _ _) ?_))
      refine bodyPost_ret (v := .agg (rowC (wtP b) 64)) (results_cell_row rfl _ _ _ _ _ (0, 0) _ rfl (setRow_heap _ _ _ _ _ _ HR.out) Try.underlying39 rfl (by rw [rowC_size]; exact size64)) rfl ⟨rfl, ?_⟩
      exact ⟨HB.out.os, HB.out.tape, HB.out.output, by rw [setRow_size]; exact HB.out.size, fun j hj => (setRow_other _ _ _ _ (by omega)).trans (HB.out.block j hj)⟩

theorem wpList_build_as {P : Program} {ops : Array Oper} {rest : List Oper} {o : Oper} {a : Act} {w : World} {Q : Exit → Act → World → Prop} (hg : o.guard = none) (t : TypeId) (parts : Array (Nat × Operand)) (ho : o.op = .build t parts) (cs : Array Value)
    (hf : P.built t (parts.map fun (i, x) => (i, a.eval x)).toList = some cs) (h : wpList P ops Q rest (a.put o.dst (.agg cs)) w) : wpList P ops Q (o :: rest) a w :=
  wpList_build hg t parts ho (by rw [hf]; rfl) (by rw [hf]; exact h)
theorem built64_one : Try.prog.built 39 [(0, .int .i64 1099511627776)] = some (rowC (fun _ => 1099511627776) 1) := by kernel_rfl
theorem built64 (b : Nat) : Try.prog.built 39 [(0, .int .i64 1099511627776)] = some (rowC (wtE b) 1) := by
  have e : rowC (wtE b) 1 = rowC (fun _ => 1099511627776) 1 := rowC_congr (fun j hj => by
    have h0 : j = 0 := Nat.lt_one_iff.1 hj
    subst h0
    rfl)
  rw [e]
  exact built64_one
theorem Blk.setRow {w : World} {g : Nat} {t : TypeId} {cs : Array Value} (h : Blk w g t cs) (cs' : Array Value) : Blk (w.setRow g cs') g t cs' := setRow_heap _ _ _ _ _ _ h
theorem Blk.setRow_far {w : World} {g g' : Nat} {t : TypeId} {cs : Array Value} (h : Blk w g t cs) (hn : g ≠ g') (cs' : Array Value) : Blk (w.setRow g' cs') g t cs := (setRow_other _ _ _ _ hn).trans h
theorem below_setRow11 {B g : Nat} {w0 w : World} (hb : Below B w0 w) (hBg : B ≤ g) (cs : Array Value) : Below B w0 (w.setRow g cs) :=
  hb.trans ⟨rfl, rfl, rfl, by simp [World.setRow], fun k hk => setRow_other w g k cs (by omega)⟩
theorem blk_zero1 (w : World) : Blk ((w.alloc (.cells (Array.replicate 64 (.int .i64 0)) 39)).alloc (.cells (Array.replicate 64 (.int .i64 0)) 39)) (w.heap.size + 1) 39 (rowC (fun _ => 0) 0) := by
  rw [rowC_zero]
  have := Blk.new (w.alloc (.cells (Array.replicate 64 (.int .i64 0)) 39)) 39 (Array.replicate 64 (.int .i64 0))
  rw [World.size_alloc] at this
  exact this
theorem blk_zero0 (w : World) (o : Obj) : Blk ((w.alloc (.cells (Array.replicate 64 (.int .i64 0)) 39)).alloc o) w.heap.size 39 (rowC (fun _ => 0) 0) := by
  rw [rowC_zero]
  exact (Blk.new w _ _).alloc _

set_option maxRecDepth 20000 in
set_option maxHeartbeats 2000000 in
theorem exp_any (b : Nat) (h1 : 17 ≤ b) (h2 : b ≤ 256) (w : World) : Calls Try.prog 18 #[.int .i64 b] w fun e w' => e = .returned (.agg (rowC (wtE b) 64)) ∧ Below w.heap.size w w' := by
  have HB1 := Lib.hid (built64 b)
  have Z0 := Lib.hid (blk_zero0 w)
  have Z1 := Lib.hid (blk_zero1 w)
  go_enter Try.func18, Try.ntmps18
  go_wp2_with (first | (refine wpList_build_as rfl 39 _ rfl (rowC (wtE b) 1) HB1.out ?_) | (refine wpList_store_row rfl 39 (.tmp 3) (.tmp 5) rfl (w.heap.size + 1) (rowC (wtE b) 1) rfl rfl _ (rowC (fun _ => 0) 0) Z1.out (by rw [rowC_size]; exact size64) (by rw [rowC_size, rowC_size]) (rowC_one _ _) ?_))
  go_loopg [4] 64 (fun g p wr => ∃ k : Nat, 1 ≤ k ∧ k ≤ 64 ∧ g = 65 - k ∧ p = .int .i64 (k : Int) ∧ Hid (Blk wr w.heap.size 39 (rowC (fun _ => 0) 0)) ∧ Hid (Blk wr (w.heap.size + 1) 39 (rowC (wtE b) k)) ∧ Hid (Below w.heap.size w wr))
  case atStart =>
    refine ⟨1, by omega, by omega, by omega, rfl, Lib.hid ?_, Lib.hid ?_, Lib.hid ?_⟩
    · exact (Z0.out _).setRow_far (Nat.ne_of_lt (Nat.lt_succ_self _)) _
    · exact Z1.out.setRow _
    · exact below_setRow11 (((Below.refl _ _).alloc (Nat.le_refl _) _).alloc (by simp) _) (by omega) _
  case round =>
    obtain ⟨k, hk1, hk, rfl, rfl, HR, HC, HB⟩ := hrel
    by_cases hlt : k < 64
    · obtain ⟨j, rfl⟩ : ∃ j, k = j + 1 := ⟨k - 1, by omega⟩
      have c1 := HC.out.cell j
      have f1 := HC.out.frozen j
      rw [rowC_get _ (by omega), if_pos (by omega)] at c1
      have hx0 := wtE_pos b j
      have hx1 := wtE_le h1 j
      have hx := show wtE b (j + 1) = max (wtE b j * 16 / b) 1 from rfl
      obtain ⟨x, hxx⟩ : ∃ x, wtE b j = x := ⟨_, rfl⟩
      rw [hxx] at c1 hx0 hx1 hx
      obtain ⟨d, hd⟩ : ∃ d, x * 16 / b = d := ⟨_, rfl⟩
      have e4 : Int.tdiv ((x : Int) * 16) (b : Int) = (d : Int) := by rw [← hd]; rfl
      have e5 : ((x : Int) * 16) / (b : Int) = (d : Int) := by rw [← hd]; simp
      have hd2 : d ≤ 1099511627776 * 16 := by
        rw [← hd]
        exact Nat.le_trans (Nat.div_le_self _ _) (by omega)
      rw [hd] at hx
      have HW := Lib.hid hx
      have ej : ((j + 1 : Nat) : Int) - 1 = (j : Int) := by omega
      have c0 := HC.out.cell (j + 1)
      have f0 := HC.out.frozen (j + 1)
      rw [rowC_get _ hlt] at c0
      clear hd hx hxx
      go_wp2
      all_goals go_roundg (63 - j)
      case measure => omega
      case measure => omega
      case rel =>
        refine ⟨j + 1 + 1, by omega, by omega, by omega, by go_num, Lib.hid (HR.out.far (by simp) _), Lib.hid ?_, Lib.hid (HB.out.setCell (by simp) _)⟩
        rw [← rowC_set _ hlt, HW.out, show max d 1 = 1 by omega]
        exact HC.out.set_ _ _
      case rel =>
        refine ⟨j + 1 + 1, by omega, by omega, by omega, by go_num, Lib.hid (HR.out.far (by simp) _), Lib.hid ?_, Lib.hid (HB.out.setCell (by simp) _)⟩
        rw [← rowC_set _ hlt, HW.out, show max d 1 = d by omega]
        exact HC.out.set_ _ _
    · obtain rfl : k = 64 := by omega
      go_wp2_with (first | (refine wpList_load_row rfl 39 (.tmp 3) rfl (w.heap.size + 1) rfl _ _ _ _ HC.out Try.underlying39 rfl (by rw [rowC_size]; exact size64) ?_) | (refine wpList_store_row rfl 39 (.tmp 2) (.tmp 20) rfl w.heap.size (rowC (wtE b) 64) rfl rfl _ _ HR.out (by rw [rowC_size]; exact size64) (by rw [rowC_size, rowC_size]) (rowC_one _ _) ?_))
      refine bodyPost_ret (v := .agg (rowC (wtE b) 64)) (results_cell_row rfl _ _ _ _ _ (0, 0) _ rfl (setRow_heap _ _ _ _ _ _ HR.out) Try.underlying39 rfl (by rw [rowC_size]; exact size64)) rfl ⟨rfl, ?_⟩
      exact ⟨HB.out.os, HB.out.tape, HB.out.output, by rw [setRow_size]; exact HB.out.size, fun j hj => (setRow_other _ _ _ _ (by omega)).trans (HB.out.block j hj)⟩
end Go.Proofs.Ytjjpgiahifkinaa
