/- Package table: weights, a table in memory, places. -/
import Derived.WalkKit
import Derived.Test.YtllgepabjglnaaaOwnRows
import Derived.Test.YtllgepabjglnaaaProg
import Derived.WalkSpells
import Derived.Handy
import Derived.Laws.Tables
import Derived.Deep.LoopGhost
import Derived.Laws.CopyRow
namespace Go.Proofs.Ytllgepabjglnaaa
open Go.RowKit

/-- the weights of the kind Poly -/
def wtP (b k : Nat) : Nat := max (1099511627776 / ((b + k) * (b + k) * (b + k))) 1
/-- the weights of the kind Exp -/
def wtE (b : Nat) : Nat → Nat
  | 0 => 1099511627776
  | k + 1 => max (wtE b k * 16 / b) 1
/-- a kind that may be, with a base that may be -/
def OkB (e : Bool) (b : Nat) : Prop := if e = true then 17 ≤ b ∧ b ≤ 256 else 1 ≤ b ∧ b ≤ 64
def wtT (e : Bool) (b k : Nat) : Nat := if e = true then wtE b k else wtP b k
/-- a number of breaks that has a weight of its own -/
def clampK (k : Int) : Nat := (min (max k 0) 63).toNat
theorem clampK_le (k : Int) : clampK k ≤ 63 := by unfold clampK; omega
theorem clampK_int (k : Int) : min (max k 0) 63 = (clampK k : Int) := by unfold clampK; omega
theorem clampK_nat (k : Nat) (h : k ≤ 63) : clampK (k : Int) = k := by unfold clampK; omega
def wt (e : Bool) (b : Nat) (k : Int) : Nat := wtT e b (clampK k)

theorem wtP_pos (b k : Nat) : 1 ≤ wtP b k := by unfold wtP; omega
theorem wtE_pos (b k : Nat) : 1 ≤ wtE b k := by cases k <;> unfold wtE <;> omega
theorem wtP_le (b k : Nat) : wtP b k ≤ 1099511627776 := by
  unfold wtP
  have := Nat.div_le_self 1099511627776 ((b + k) * (b + k) * (b + k))
  omega
theorem cube_mono {x y : Nat} (h : x ≤ y) : x * x * x ≤ y * y * y := Nat.mul_le_mul (Nat.mul_le_mul h h) h
theorem wtP_down {b k : Nat} (hb : 1 ≤ b) : wtP b (k + 1) ≤ wtP b k := by
  unfold wtP
  have := cube_mono (show b + k ≤ b + (k + 1) by omega)
  have h0 : 0 < (b + k) * (b + k) * (b + k) := Nat.mul_pos (Nat.mul_pos (by omega) (by omega)) (by omega)
  have := Nat.div_le_div_left this h0 (a := 1099511627776)
  omega
theorem wtE_down {b k : Nat} (hb : 17 ≤ b) : wtE b (k + 1) ≤ wtE b k := by
  show max (wtE b k * 16 / b) 1 ≤ wtE b k
  have h1 := wtE_pos b k
  have h2 : wtE b k * 16 / b ≤ wtE b k := by
    apply Nat.div_le_of_le_mul
    rw [Nat.mul_comm]
    exact Nat.mul_le_mul_right _ (by omega)
  omega
theorem wtE_le {b : Nat} (hb : 17 ≤ b) : ∀ k, wtE b k ≤ 1099511627776
  | 0 => Nat.le_refl _
  | k + 1 => Nat.le_trans (wtE_down hb) (wtE_le hb k)
theorem wtT_pos (e : Bool) (b k : Nat) : 1 ≤ wtT e b k := by
  unfold wtT; split
  · exact wtE_pos b k
  · exact wtP_pos b k
theorem wtT_le {e : Bool} {b : Nat} (h : OkB e b) (k : Nat) : wtT e b k ≤ 1099511627776 := by
  unfold OkB at h
  unfold wtT; split
  · rw [if_pos (by assumption)] at h; exact wtE_le h.1 k
  · exact wtP_le b k
theorem wtT_down {e : Bool} {b : Nat} (h : OkB e b) (k : Nat) : wtT e b (k + 1) ≤ wtT e b k := by
  unfold OkB at h
  unfold wtT; split
  · rw [if_pos (by assumption)] at h; exact wtE_down h.1
  · rw [if_neg (by assumption)] at h; exact wtP_down h.1
theorem wt_pos (e : Bool) (b : Nat) (k : Int) : 1 ≤ wt e b k := wtT_pos _ _ _
theorem wt_le {e : Bool} {b : Nat} (h : OkB e b) (k : Int) : wt e b k ≤ 1099511627776 := wtT_le h _
theorem wt_down {e : Bool} {b : Nat} (h : OkB e b) (k : Nat) : wt e b ((k : Int) + 1) ≤ wt e b (k : Int) := by
  unfold wt
  rcases Nat.lt_or_ge k 63 with h1 | h1
  · rw [show (k : Int) + 1 = ((k + 1 : Nat) : Int) by omega, clampK_nat _ (by omega), clampK_nat _ (by omega)]
    exact wtT_down h k
  · have e1 : clampK (k : Int) = 63 := by unfold clampK; omega
    have e2 : clampK ((k : Int) + 1) = 63 := by unfold clampK; omega
    rw [e1, e2]
    exact Nat.le_refl _

/-- the sum of the weights -/
def sumW (e : Bool) (b : Nat) (xs : List Int) : Nat := (xs.map (wt e b)).sum
theorem sumW_nil (e : Bool) (b : Nat) : sumW e b [] = 0 := rfl
theorem sumW_cons (e : Bool) (b : Nat) (x : Int) (xs : List Int) : sumW e b (x :: xs) = wt e b x + sumW e b xs := by simp [sumW]
theorem sumW_append (e : Bool) (b : Nat) (xs ys : List Int) : sumW e b (xs ++ ys) = sumW e b xs + sumW e b ys := by simp [sumW]
theorem sumW_le {e : Bool} {b : Nat} (h : OkB e b) : ∀ xs : List Int, sumW e b xs ≤ 1099511627776 * xs.length
  | [] => by simp [sumW]
  | x :: xs => by
    rw [sumW_cons]
    have := wt_le h x
    have := sumW_le h xs
    simp only [List.length_cons]
    omega
theorem len_le_sumW (e : Bool) (b : Nat) : ∀ xs : List Int, xs.length ≤ sumW e b xs
  | [] => Nat.zero_le _
  | x :: xs => by
    rw [sumW_cons]
    have := wt_pos e b x
    have := len_le_sumW e b xs
    simp only [List.length_cons]
    omega
theorem sumW_take (e : Bool) (b : Nat) {xs : List Int} {k : Nat} (h : k < xs.length) : sumW e b (xs.take (k + 1)) = sumW e b (xs.take k) + wt e b (xs.getD k 0) := by
  rw [List.take_succ_eq_append_getElem h, sumW_append, sumW_cons, sumW_nil]
  simp [List.getD, h]
theorem sumW_take_le (e : Bool) (b : Nat) (xs : List Int) (k : Nat) : sumW e b (xs.take k) ≤ sumW e b xs := by
  have := sumW_append e b (xs.take k) (xs.drop k)
  rw [List.take_append_drop] at this
  omega
theorem sumW_reverse (e : Bool) (b : Nat) (xs : List Int) : sumW e b xs.reverse = sumW e b xs := by simp [sumW, List.sum_reverse]
theorem sumW_zero {e : Bool} {b : Nat} {xs : List Int} (h : sumW e b xs = 0) : xs = [] := by
  have := len_le_sumW e b xs
  cases xs
  · rfl
  · simp at this; omega

/-- i is the place on which r falls -/
def Falls (e : Bool) (b : Nat) (xs : List Int) (r i : Nat) : Prop := i < xs.length ∧ sumW e b (xs.take i) ≤ r ∧ r < sumW e b (xs.take (i + 1))
theorem Falls.one {e : Bool} {b : Nat} {xs : List Int} {r i j : Nat} (h : Falls e b xs r i) (g : Falls e b xs r j) : i = j := by
  have mono : ∀ m n, m ≤ n → sumW e b (xs.take m) ≤ sumW e b (xs.take n) := by
    intro m n hmn
    have := sumW_take_le e b (xs.take n) m
    rwa [List.take_take, Nat.min_eq_left hmn] at this
  rcases Nat.lt_trichotomy i j with h1 | h1 | h1
  · have := mono (i + 1) j h1
    have := h.2.2; have := g.2.1; omega
  · exact h1
  · have := mono (j + 1) i h1
    have := g.2.2; have := h.2.1; omega
theorem Falls.any {e : Bool} {b : Nat} {xs : List Int} {r : Nat} (h : r < sumW e b xs) : ∃ i, Falls e b xs r i := by
  have aux : ∀ n, n ≤ xs.length → r < sumW e b (xs.take n) → ∃ i, Falls e b xs r i := by
    intro n
    induction n with
    | zero => intro _ h; simp [sumW] at h
    | succ n ih =>
      intro hn hr
      rcases Nat.lt_or_ge r (sumW e b (xs.take n)) with h1 | h1
      · exact ih (by omega) h1
      · exact ⟨n, by omega, h1, hr⟩
  exact aux xs.length (Nat.le_refl _) (by rw [List.take_of_length_le (Nat.le_refl _)]; exact h)
theorem Falls.first {e : Bool} {b : Nat} {xs : List Int} (h : 0 < xs.length) : Falls e b xs 0 0 := by
  refine ⟨h, by simp [sumW], ?_⟩
  rw [sumW_take e b h]
  have := wt_pos e b (xs.getD 0 0)
  omega
theorem Falls.last {e : Bool} {b : Nat} {xs : List Int} (h : 0 < xs.length) : Falls e b xs (sumW e b xs - 1) (xs.length - 1) := by
  have h1 := sumW_take e b (xs := xs) (k := xs.length - 1) (by omega)
  rw [show xs.length - 1 + 1 = xs.length by omega, List.take_of_length_le (Nat.le_refl _)] at h1
  have := wt_pos e b (xs.getD (xs.length - 1) 0)
  refine ⟨by omega, by omega, ?_⟩
  rw [show xs.length - 1 + 1 = xs.length by omega, List.take_of_length_le (Nat.le_refl _)]
  omega
theorem Falls.snoc {e : Bool} {b : Nat} {xs : List Int} {r i : Nat} (h : Falls e b xs r i) (x : Int) : Falls e b (xs ++ [x]) r i := by
  obtain ⟨h1, h2, h3⟩ := h
  refine ⟨by simp; omega, ?_, ?_⟩
  · rw [List.take_append_of_le_length (by omega)]; exact h2
  · rw [List.take_append_of_le_length (by omega)]; exact h3
theorem Falls.back {e : Bool} {b : Nat} {xs : List Int} {r i : Nat} (h : Falls e b xs r i) : Falls e b xs.reverse (sumW e b xs - 1 - r) (xs.length - 1 - i) := by
  obtain ⟨h1, h2, h3⟩ := h
  have cut : ∀ m, m ≤ xs.length → sumW e b (xs.reverse.take (xs.length - m)) + sumW e b (xs.take m) = sumW e b xs := by
    intro m hm
    have e1 : xs.reverse.take (xs.length - m) = (xs.drop m).reverse := by
      rw [List.take_reverse]
      congr 2
      omega
    rw [e1, sumW_reverse]
    have := sumW_append e b (xs.take m) (xs.drop m)
    rw [List.take_append_drop] at this
    omega
  have c1 := cut (i + 1) (by omega)
  have c0 := cut i (by omega)
  refine ⟨by simp; omega, ?_, ?_⟩
  · rw [show xs.length - 1 - i = xs.length - (i + 1) by omega]; omega
  · rw [show xs.length - 1 - i + 1 = xs.length - i by omega]; omega

end Go.Proofs.Ytllgepabjglnaaa

namespace Go.Proofs.Ytllgepabjglnaaa
open Go.RowKit
set_option linter.unusedVariables false
set_option linter.unusedSimpArgs false

def rightB (k b : Int) : Bool := decide (k = 0 ∧ 1 ≤ b ∧ b ≤ 64 ∨ k = 1 ∧ 17 ≤ b ∧ b ≤ 256)
theorem tab_right (k b : Int) (w : World) : Calls Try.prog 45 #[.int .i64 k, .int .i64 b] w fun e w' => e = .returned (.bool (rightB k b)) ∧ w = w' := by
  have H0 : k = 0 → rightB k b = (decide (1 ≤ b) && decide (b ≤ 64)) := fun h => by rw [Bool.eq_iff_iff]; simp [rightB, h]
  have H1 : k = 1 → rightB k b = (decide (17 ≤ b) && decide (b ≤ 256)) := fun h => by rw [Bool.eq_iff_iff]; simp [rightB, h]
  have H2 : k ≠ 0 → k ≠ 1 → rightB k b = false := fun h h' => by simp [rightB, h, h']
  obtain ⟨r, hr⟩ : ∃ r, rightB k b = r := ⟨_, rfl⟩
  rw [hr] at H0 H1 H2 ⊢
  clear hr
  by_cases h0 : k = 0
  · have HH := Lib.hid (H0 h0)
    clear H0 H1 H2
    subst h0
    go_enter Try.func45, Try.ntmps45
    go_wp2
    all_goals go_ret
    all_goals exact ⟨by rw [HH.out]; simp; try omega, rfl⟩
  · by_cases h1 : k = 1
    · have HH := Lib.hid (H1 h1)
      clear H0 H1 H2 h0
      subst h1
      go_enter Try.func45, Try.ntmps45
      go_wp2
      all_goals go_ret
      all_goals exact ⟨by rw [HH.out]; simp; try omega, rfl⟩
    · have HH := Lib.hid (H2 h0 h1)
      clear H0 H1 H2
      go_enter Try.func45, Try.ntmps45
      go_wp2
      all_goals go_ret
      all_goals exact ⟨by rw [HH.out]; rfl, rfl⟩

theorem size64 : (Try.prog.info? 98).map (·.size) = some 64 := by kernel_rfl
/-- sixty-four cells, of which the first k are told -/
def rowC (f : Nat → Nat) (k : Nat) : Array Value := ((List.range 64).map fun j => Value.int .i64 ((if j < k then f j else 0 : Nat) : Int)).toArray
theorem rowC_size (f : Nat → Nat) (k : Nat) : (rowC f k).size = 64 := by simp [rowC]
theorem rowC_get (f : Nat → Nat) {k j : Nat} (h : j < 64) : (rowC f k)[j]? = some (.int .i64 ((if j < k then f j else 0 : Nat) : Int)) := by simp [rowC, h]
theorem rowC_set (f : Nat → Nat) {k : Nat} (h : k < 64) : (rowC f k).setIfInBounds k (.int .i64 (f k : Int)) = rowC f (k + 1) := by
  apply Array.ext
  · simp [rowC]
  · intro j h1 h2
    rw [Array.getElem_setIfInBounds (by simpa using h1)]
    simp only [rowC, List.getElem_toArray, List.getElem_map, List.getElem_range]
    by_cases hj : k = j
    · subst hj; simp
    · rw [if_neg hj]
      have : (j < k + 1) ↔ (j < k) := by omega
      simp only [this]
theorem rowC_zero (f : Nat → Nat) : rowC f 0 = Array.replicate 64 (.int .i64 0) := by
  apply Array.ext
  · simp [rowC]
  · intro j h1 h2
    simp [rowC]
theorem rowC_one (f : Nat → Nat) (k : Nat) : (rowC f k).all (·.oneCell') = true := by
  rw [Array.all_eq_true_iff_forall_mem]
  intro v hv
  simp [rowC] at hv
  obtain ⟨j, _, rfl⟩ := hv
  rfl
theorem rowC_congr {f g : Nat → Nat} {k : Nat} (h : ∀ j, j < k → f j = g j) : rowC f k = rowC g k := by
  unfold rowC
  congr 1
  apply List.map_congr_left
  intro j _
  by_cases hj : j < k
  · simp [hj, h j hj]
  · simp [hj]

set_option maxRecDepth 20000 in
set_option maxHeartbeats 2000000 in
theorem tab_poly (b : Nat) (h1 : 1 ≤ b) (h2 : b ≤ 64) (w : World) : Calls Try.prog 56 #[.int .i64 b] w fun e w' => e = .returned (.agg (rowC (wtP b) 64)) ∧ Below w.heap.size w w' := by
  go_enter Try.func56, Try.ntmps56
  go_wp2
  go_loopg [6] 65 (fun g p wr => ∃ k : Nat, k ≤ 64 ∧ g = 65 - k ∧ p = .int .i64 (k : Int) ∧ Hid (Blk wr w.heap.size 98 (rowC (fun _ => 0) 0)) ∧ Hid (Blk wr (w.heap.size + 1) 98 (rowC (wtP b) k)) ∧ Hid (Below w.heap.size w wr))
  case atStart =>
    refine ⟨0, by omega, rfl, rfl, Lib.hid ?_, Lib.hid ?_, Lib.hid (((Below.refl _ _).alloc (Nat.le_refl _) _).alloc (by simp) _)⟩
    · rw [rowC_zero]; exact (Blk.new w _ _).alloc _
    · rw [rowC_zero]
      have := Blk.new (w.alloc (.cells (Array.replicate 64 (.int .i64 0)) 98)) 98 (Array.replicate 64 (.int .i64 0))
      rw [World.size_alloc] at this
      exact this
  case round =>
    obtain ⟨k, hk, rfl, rfl, HR, HC, HB⟩ := hrel
    by_cases hlt : k < 64
    · obtain ⟨n, hn⟩ : ∃ n, b + k = n := ⟨_, rfl⟩
      obtain ⟨q, hq⟩ : ∃ q, n * n = q := ⟨_, rfl⟩
      obtain ⟨c, hc⟩ : ∃ c, q * n = c := ⟨_, rfl⟩
      have hn1 : 1 ≤ n := by omega
      have hn2 : n ≤ 127 := by omega
      have hq2 : q ≤ 16129 := by rw [← hq]; exact Nat.mul_le_mul hn2 hn2
      have hq1 : 1 ≤ q := by rw [← hq]; exact Nat.mul_le_mul hn1 hn1
      have hc2 : c ≤ 2048383 := by rw [← hc]; exact Nat.mul_le_mul hq2 hn2
      have hc1 : 1 ≤ c := by rw [← hc]; exact Nat.mul_le_mul hq1 hn1
      obtain ⟨d, hd⟩ : ∃ d, 1099511627776 / c = d := ⟨_, rfl⟩
      have e1 : (b : Int) + (k : Int) = (n : Int) := by omega
      have e2 : (n : Int) * (n : Int) = (q : Int) := by rw [← hq]; simp
      have e3 : (q : Int) * (n : Int) = (c : Int) := by rw [← hc]; simp
      have e4 : Int.tdiv 1099511627776 (c : Int) = (d : Int) := by rw [← hd]; rfl
      have e5 : (1099511627776 : Int) / (c : Int) = (d : Int) := by rw [← hd]; simp
      have hd2 : d ≤ 1099511627776 := by rw [← hd]; exact Nat.div_le_self _ _
      have HW := Lib.hid (show max d 1 = wtP b k by unfold wtP; rw [hn, hq, hc, hd])
      have HE := Lib.hid hn
      have c0 := HC.out.cell k
      have f0 := HC.out.frozen k
      rw [rowC_get _ hlt] at c0
      clear hn hq hc hd
      go_wp2
      all_goals go_roundg (64 - k)
      case measure => omega
      case measure => omega
      case rel =>
        rename_i hm
        refine ⟨k + 1, by omega, by omega, by go_num, Lib.hid (HR.out.far (by simp) _), Lib.hid ?_, Lib.hid (HB.out.setCell (by simp) _)⟩
        rw [← rowC_set _ hlt, ← HW.out, show max d 1 = 1 by omega]
        exact HC.out.set_ k _
      case rel =>
        rename_i hm
        refine ⟨k + 1, by omega, by omega, by go_num, Lib.hid (HR.out.far (by simp) _), Lib.hid ?_, Lib.hid (HB.out.setCell (by simp) _)⟩
        rw [← rowC_set _ hlt, ← HW.out, show max d 1 = d by omega]
        exact HC.out.set_ k _
    · obtain rfl : k = 64 := by omega
      go_wp2_with (first | (refine wpList_load_row rfl 98 (.tmp 3) rfl (w.heap.size + 1) rfl _ _ _ _ HC.out Try.underlying98 rfl (by rw [rowC_size]; exact size64) ?_) | (refine wpList_store_row rfl 98 (.tmp 2) (.tmp 22) rfl w.heap.size (rowC (wtP b) 64) rfl rfl _ _ HR.out (by rw [rowC_size]; exact size64) (by rw [rowC_size, rowC_size]) (rowC_one _ _) ?_))
      refine bodyPost_ret (v := .agg (rowC (wtP b) 64)) (results_cell_row rfl _ _ _ _ _ (0, 0) _ rfl (setRow_heap _ _ _ _ _ _ HR.out) Try.underlying98 rfl (by rw [rowC_size]; exact size64)) rfl ⟨rfl, ?_⟩
      exact ⟨HB.out.os, HB.out.tape, HB.out.output, by rw [setRow_size]; exact HB.out.size, fun j hj => (setRow_other _ _ _ _ (by omega)).trans (HB.out.block j hj)⟩

theorem wpList_build_as {P : Program} {ops : Array Oper} {rest : List Oper} {o : Oper} {a : Act} {w : World} {Q : Exit → Act → World → Prop} (hg : o.guard = none) (t : TypeId) (parts : Array (Nat × Operand)) (ho : o.op = .build t parts) (cs : Array Value)
    (hf : P.built t (parts.map fun (i, x) => (i, a.eval x)).toList = some cs) (h : wpList P ops Q rest (a.put o.dst (.agg cs)) w) : wpList P ops Q (o :: rest) a w :=
  wpList_build hg t parts ho (by rw [hf]; rfl) (by rw [hf]; exact h)
theorem built64_one : Try.prog.built 98 [(0, .int .i64 1099511627776)] = some (rowC (fun _ => 1099511627776) 1) := by kernel_rfl
theorem built64 (b : Nat) : Try.prog.built 98 [(0, .int .i64 1099511627776)] = some (rowC (wtE b) 1) := by
  have e : rowC (wtE b) 1 = rowC (fun _ => 1099511627776) 1 := rowC_congr (fun j hj => by
    have h0 : j = 0 := Nat.lt_one_iff.1 hj
    subst h0
    rfl)
  rw [e]
  exact built64_one
theorem Blk.setRow {w : World} {g : Nat} {t : TypeId} {cs : Array Value} (h : Blk w g t cs) (cs' : Array Value) : Blk (w.setRow g cs') g t cs' := setRow_heap _ _ _ _ _ _ h
theorem Blk.setRow_far {w : World} {g g' : Nat} {t : TypeId} {cs : Array Value} (h : Blk w g t cs) (hn : g ≠ g') (cs' : Array Value) : Blk (w.setRow g' cs') g t cs := (setRow_other _ _ _ _ hn).trans h
theorem below_setRow11 {B g : Nat} {w0 w : World} (hb : Below B w0 w) (hBg : B ≤ g) (cs : Array Value) : Below B w0 (w.setRow g cs) :=
  hb.trans ⟨rfl, rfl, rfl, by simp [World.setRow], fun k hk => setRow_other w g k cs (by omega)⟩
theorem blk_zero1 (w : World) : Blk ((w.alloc (.cells (Array.replicate 64 (.int .i64 0)) 98)).alloc (.cells (Array.replicate 64 (.int .i64 0)) 98)) (w.heap.size + 1) 98 (rowC (fun _ => 0) 0) := by
  rw [rowC_zero]
  have := Blk.new (w.alloc (.cells (Array.replicate 64 (.int .i64 0)) 98)) 98 (Array.replicate 64 (.int .i64 0))
  rw [World.size_alloc] at this
  exact this
theorem blk_zero0 (w : World) (o : Obj) : Blk ((w.alloc (.cells (Array.replicate 64 (.int .i64 0)) 98)).alloc o) w.heap.size 98 (rowC (fun _ => 0) 0) := by
  rw [rowC_zero]
  exact (Blk.new w _ _).alloc _

set_option maxRecDepth 20000 in
set_option maxHeartbeats 2000000 in
theorem tab_exp (b : Nat) (h1 : 17 ≤ b) (h2 : b ≤ 256) (w : World) : Calls Try.prog 57 #[.int .i64 b] w fun e w' => e = .returned (.agg (rowC (wtE b) 64)) ∧ Below w.heap.size w w' := by
  have HB1 := Lib.hid (built64 b)
  have Z0 := Lib.hid (blk_zero0 w)
  have Z1 := Lib.hid (blk_zero1 w)
  go_enter Try.func57, Try.ntmps57
  go_wp2_with (first | (refine wpList_build_as rfl 98 _ rfl (rowC (wtE b) 1) HB1.out ?_) | (refine wpList_store_row rfl 98 (.tmp 3) (.tmp 5) rfl (w.heap.size + 1) (rowC (wtE b) 1) rfl rfl _ (rowC (fun _ => 0) 0) Z1.out (by rw [rowC_size]; exact size64) (by rw [rowC_size, rowC_size]) (rowC_one _ _) ?_))
  go_loopg [4] 64 (fun g p wr => ∃ k : Nat, 1 ≤ k ∧ k ≤ 64 ∧ g = 65 - k ∧ p = .int .i64 (k : Int) ∧ Hid (Blk wr w.heap.size 98 (rowC (fun _ => 0) 0)) ∧ Hid (Blk wr (w.heap.size + 1) 98 (rowC (wtE b) k)) ∧ Hid (Below w.heap.size w wr))
  case atStart =>
    refine ⟨1, by omega, by omega, by omega, rfl, Lib.hid ?_, Lib.hid ?_, Lib.hid ?_⟩
    · exact (Z0.out _).setRow_far (Nat.ne_of_lt (Nat.lt_succ_self _)) _
    · exact Z1.out.setRow _
    · exact below_setRow11 (((Below.refl _ _).alloc (Nat.le_refl _) _).alloc (by simp) _) (by omega) _
  case round =>
    obtain ⟨k, hk1, hk, rfl, rfl, HR, HC, HB⟩ := hrel
    by_cases hlt : k < 64
    · obtain ⟨j, rfl⟩ : ∃ j, k = j + 1 := ⟨k - 1, by omega⟩
      have c1 := HC.out.cell j
      have f1 := HC.out.frozen j
      rw [rowC_get _ (by omega), if_pos (by omega)] at c1
      have hx0 := wtE_pos b j
      have hx1 := wtE_le h1 j
      have hx := show wtE b (j + 1) = max (wtE b j * 16 / b) 1 from rfl
      obtain ⟨x, hxx⟩ : ∃ x, wtE b j = x := ⟨_, rfl⟩
      rw [hxx] at c1 hx0 hx1 hx
      obtain ⟨d, hd⟩ : ∃ d, x * 16 / b = d := ⟨_, rfl⟩
      have e4 : Int.tdiv ((x : Int) * 16) (b : Int) = (d : Int) := by rw [← hd]; rfl
      have e5 : ((x : Int) * 16) / (b : Int) = (d : Int) := by rw [← hd]; simp
      have hd2 : d ≤ 1099511627776 * 16 := by
        rw [← hd]
        exact Nat.le_trans (Nat.div_le_self _ _) (by omega)
      rw [hd] at hx
      have HW := Lib.hid hx
      have ej : ((j + 1 : Nat) : Int) - 1 = (j : Int) := by omega
      have c0 := HC.out.cell (j + 1)
      have f0 := HC.out.frozen (j + 1)
      rw [rowC_get _ hlt] at c0
      clear hd hx hxx
      go_wp2
      all_goals go_roundg (63 - j)
      case measure => omega
      case measure => omega
      case rel =>
        refine ⟨j + 1 + 1, by omega, by omega, by omega, by go_num, Lib.hid (HR.out.far (by simp) _), Lib.hid ?_, Lib.hid (HB.out.setCell (by simp) _)⟩
        rw [← rowC_set _ hlt, HW.out, show max d 1 = 1 by omega]
        exact HC.out.set_ _ _
      case rel =>
        refine ⟨j + 1 + 1, by omega, by omega, by omega, by go_num, Lib.hid (HR.out.far (by simp) _), Lib.hid ?_, Lib.hid (HB.out.setCell (by simp) _)⟩
        rw [← rowC_set _ hlt, HW.out, show max d 1 = d by omega]
        exact HC.out.set_ _ _
    · obtain rfl : k = 64 := by omega
      go_wp2_with (first | (refine wpList_load_row rfl 98 (.tmp 3) rfl (w.heap.size + 1) rfl _ _ _ _ HC.out Try.underlying98 rfl (by rw [rowC_size]; exact size64) ?_) | (refine wpList_store_row rfl 98 (.tmp 2) (.tmp 20) rfl w.heap.size (rowC (wtE b) 64) rfl rfl _ _ HR.out (by rw [rowC_size]; exact size64) (by rw [rowC_size, rowC_size]) (rowC_one _ _) ?_))
      refine bodyPost_ret (v := .agg (rowC (wtE b) 64)) (results_cell_row rfl _ _ _ _ _ (0, 0) _ rfl (setRow_heap _ _ _ _ _ _ HR.out) Try.underlying98 rfl (by rw [rowC_size]; exact size64)) rfl ⟨rfl, ?_⟩
      exact ⟨HB.out.os, HB.out.tape, HB.out.output, by rw [setRow_size]; exact HB.out.size, fun j hj => (setRow_other _ _ _ _ (by omega)).trans (HB.out.block j hj)⟩

end Go.Proofs.Ytllgepabjglnaaa

namespace Go.Proofs.Ytllgepabjglnaaa
open Go.RowKit
set_option linter.unusedVariables false
set_option linter.unusedSimpArgs false

theorem fold_cells : ∀ (vs : List Value) (i : Nat) (cur : Array Value), i + vs.length ≤ cur.size →
    (vs.zipIdx i).foldl (fun cs (p : Value × Nat) => cs.setIfInBounds (0 + p.2) p.1) cur = (cur.toList.take i ++ vs ++ cur.toList.drop (i + vs.length)).toArray
  | [], i, cur, _ => by simp
  | v :: rest, i, cur, h => by
    have ih := fold_cells rest (i + 1) (cur.setIfInBounds i v) (by simp at h ⊢; omega)
    have e := list_seg_step cur.toList i v rest (by simp at h ⊢; omega)
    simp only [List.zipIdx_cons, List.foldl_cons, Nat.zero_add] at ih ⊢
    rw [ih]
    simpa [Array.toList_setIfInBounds, Nat.add_assoc] using e
theorem fold_all (cs cur : Array Value) (h : cur.size = cs.size) : cs.zipIdx.foldl (fun a (p : Value × Nat) => a.setIfInBounds (0 + p.2) p.1) cur = cs := by
  have := fold_cells cs.toList 0 cur (by simp; omega)
  rw [← Array.foldl_toList, Array.toList_zipIdx, this]
  rw [List.drop_eq_nil_of_le (by simp; omega)]
  simp
theorem info42 : ((Try.prog.info? 101).bind (·.zero)).map (·.cells.size) = some 64 := by kernel_rfl
theorem built_table (cs : Array Value) (h : cs.size = 64) : Try.prog.built 101 [(0, .agg cs)] = some cs := by
  have h42 := info42
  have h39 := size64
  unfold Program.built
  rw [Try.underlying101]
  rcases hi : Try.prog.info? 101 with _ | it
  · rw [hi] at h42; simp at h42
  · rw [hi] at h42
    rcases hz : it.zero with _ | z
    · simp [hz] at h42
    · simp [hz] at h42
      rcases hj : Try.prog.info? 98 with _ | ie
      · rw [hj] at h39; simp at h39
      · rw [hj] at h39
        simp at h39
        simp only [List.mapM_cons, List.mapM_nil, hj, Option.map_some, hz]
        obtain ⟨zc, hzc⟩ : ∃ zc, z.cells = zc := ⟨_, rfl⟩
        rw [hzc] at h42
        show Instr.fill (fun x => [(0, ie.size)].toArray[x]?) z.cells [(0, Value.agg cs)] = some cs
        rw [hzc]
        simp [Instr.fill, h39, Value.cells, h, h42]
        have := fold_all cs zc (by omega)
        simpa [h] using this

/-- a table in memory -/
def Tab (w : World) (g : Nat) (e : Bool) (b : Nat) : Prop := Blk w g 101 (rowC (wtT e b) 64)
theorem Tab.cell {w : World} {g : Nat} {e : Bool} {b : Nat} (h : Tab w g e b) {k : Nat} (hk : k < 64) : w.cell? ⟨g, k, none⟩ = some (.int .i64 (wtT e b k : Int)) := by
  rw [Blk.cell h, rowC_get _ hk, if_pos hk]
theorem Tab.alloc {w : World} {g : Nat} {e : Bool} {b : Nat} (h : Tab w g e b) (o : Obj) : Tab (w.alloc o) g e b := Blk.alloc h o
theorem Tab.below {w w' : World} {g B : Nat} {e : Bool} {b : Nat} (h : Tab w g e b) (hb : Below B w w') (hg : g < B) : Tab w' g e b := Blk.below h hb hg
theorem Tab.lt {w : World} {g : Nat} {e : Bool} {b : Nat} (h : Tab w g e b) : g < w.heap.size := Blk.lt h

theorem tab_weight {w : World} {g : Nat} {e : Bool} {b : Nat} (h : Tab w g e b) (k : Int) : Calls Try.prog 59 #[.pointer (some ⟨g, 0, none⟩), .int .i64 k] w fun x w' => x = .returned (.int .i64 (wt e b k : Int)) ∧ w = w' := by
  rcases Int.lt_or_le k 0 with hk | hk
  · have hc := h.cell (k := 0) (by decide)
    have e0 : wt e b k = wtT e b 0 := by unfold wt clampK; congr 1; omega
    rw [e0]
    obtain ⟨x, hx⟩ : ∃ x, wtT e b 0 = x := ⟨_, rfl⟩
    rw [hx] at hc ⊢
    clear hx h e0
    go_enter Try.func59, Try.ntmps59
    go_wp2
    go_ret
    exact ⟨rfl, rfl⟩
  · rcases Int.lt_or_le 63 k with hk2 | hk2
    · have hc := h.cell (k := 63) (by decide)
      have e0 : wt e b k = wtT e b 63 := by unfold wt clampK; congr 1; omega
      rw [e0]
      obtain ⟨x, hx⟩ : ∃ x, wtT e b 63 = x := ⟨_, rfl⟩
      rw [hx] at hc ⊢
      clear hx h e0
      go_enter Try.func59, Try.ntmps59
      go_wp2
      go_ret
      exact ⟨rfl, rfl⟩
    · obtain ⟨j, rfl⟩ : ∃ j : Nat, k = j := ⟨k.toNat, by omega⟩
      have hc := h.cell (k := j) (by omega)
      have e0 : wt e b (j : Int) = wtT e b j := by unfold wt clampK; congr 1; omega
      rw [e0]
      obtain ⟨x, hx⟩ : ∃ x, wtT e b j = x := ⟨_, rfl⟩
      rw [hx] at hc ⊢
      clear hx h e0
      go_enter Try.func59, Try.ntmps59
      go_wp2
      go_ret
      exact ⟨rfl, rfl⟩

def kindI (e : Bool) : Int := if e then 1 else 0
theorem wpList_build_one {P : Program} {ops : Array Oper} {rest : List Oper} {o : Oper} {a : Act} {w : World} {Q : Exit → Act → World → Prop} (hg : o.guard = none) (t : TypeId) (x : Operand) (ho : o.op = .build t #[(0, x)]) (v : Value) (hx : a.eval x = v) (cs : Array Value)
    (hf : P.built t [(0, v)] = some cs) (h : wpList P ops Q rest (a.put o.dst (.agg cs)) w) : wpList P ops Q (o :: rest) a w :=
  wpList_build_as hg t #[(0, x)] ho cs (by simpa [hx] using hf) h

set_option maxRecDepth 20000 in
set_option maxHeartbeats 1000000 in
theorem tab_new {e : Bool} {b : Nat} (h : OkB e b) (w : World) : Calls Try.prog 40 #[.int .i64 (kindI e), .int .i64 b] w fun x w' => ∃ g, x = .returned (.pointer (some ⟨g, 0, none⟩)) ∧ w.heap.size ≤ g ∧ Tab w' g e b ∧ Below w.heap.size w w' := by
  unfold OkB at h
  cases e
  · simp at h
    have HP := Lib.hid (fun w => tab_poly b h.1 h.2 w)
    have HR := Lib.hid (fun w => (by have hr : rightB 0 b = true := by simp [rightB]; omega
                                     exact hr ▸ tab_right 0 b w : Calls Try.prog 45 #[.int .i64 0, .int .i64 b] w fun e w' => e = .returned (.bool true) ∧ w = w'))
    have HT := Lib.hid (built_table (rowC (wtP b) 64) (rowC_size _ _))
    have HE : rowC (wtT false b) 64 = rowC (wtP b) 64 := rfl
    have HT2 := Lib.hid (fun (w : World) (g : Nat) (h : Blk w g 101 (rowC (wtP b) 64)) => (show Tab w g false b from h))
    obtain ⟨cs, hcs⟩ : ∃ cs, rowC (wtP b) 64 = cs := ⟨_, rfl⟩
    rw [hcs] at HP HT HT2
    clear h HE hcs
    show Calls Try.prog 40 #[.int .i64 0, .int .i64 b] w _
    go_enter Try.func40, Try.ntmps40
    go_wp2_with fail
    refine (HR.out _).mono ?_
    rintro x w1 ⟨rfl, rfl⟩
    go_wp2_with fail
    refine (HP.out _).mono ?_
    rintro x w1 ⟨rfl, hb⟩
    have HB := Lib.hid hb
    clear hb
    go_wp2_with (refine wpList_build_one rfl 101 (.tmp 17) rfl (.agg cs) rfl cs HT.out ?_)
    go_ret
    exact ⟨_, rfl, HB.out.size, HT2.out _ _ (Blk.new _ _ _), HB.out.alloc HB.out.size _⟩
  · simp at h
    have HP := Lib.hid (fun w => tab_exp b h.1 h.2 w)
    have HR := Lib.hid (fun w => (by have hr : rightB 1 b = true := by simp [rightB]; omega
                                     exact hr ▸ tab_right 1 b w : Calls Try.prog 45 #[.int .i64 1, .int .i64 b] w fun e w' => e = .returned (.bool true) ∧ w = w'))
    have HT := Lib.hid (built_table (rowC (wtE b) 64) (rowC_size _ _))
    have HT2 := Lib.hid (fun (w : World) (g : Nat) (h : Blk w g 101 (rowC (wtE b) 64)) => (show Tab w g true b from h))
    obtain ⟨cs, hcs⟩ : ∃ cs, rowC (wtE b) 64 = cs := ⟨_, rfl⟩
    rw [hcs] at HP HT HT2
    clear h hcs
    show Calls Try.prog 40 #[.int .i64 1, .int .i64 b] w _
    go_enter Try.func40, Try.ntmps40
    go_wp2_with fail
    refine (HR.out _).mono ?_
    rintro x w1 ⟨rfl, rfl⟩
    go_wp2_with fail
    refine (HP.out _).mono ?_
    rintro x w1 ⟨rfl, hb⟩
    have HB := Lib.hid hb
    clear hb
    go_wp2_with (refine wpList_build_one rfl 101 (.tmp 21) rfl (.agg cs) rfl cs HT.out ?_)
    go_ret
    exact ⟨_, rfl, HB.out.size, HT2.out _ _ (Blk.new _ _ _), HB.out.alloc HB.out.size _⟩

end Go.Proofs.Ytllgepabjglnaaa

namespace Go.Proofs.Ytllgepabjglnaaa
open Go.RowKit
set_option linter.unusedVariables false
set_option linter.unusedSimpArgs false

theorem clip_sum {e : Bool} {b : Nat} (ho : OkB e b) {xs : List Int} (hl : xs.length ≤ 4096) (k : Nat) : sumW e b (xs.take k) ≤ 4503599627370496 := by
  have h1 := sumW_take_le e b xs k
  have h2 := sumW_le ho xs
  omega
set_option maxHeartbeats 1000000 in
theorem tab_total {w : World} {g : Nat} {e : Bool} {b : Nat} (h : Tab w g e b) (ho : OkB e b) {A : Option Addr} {xs : List Int} {c : Nat} (hx : Ints w w.heap.size A xs) (hl : xs.length ≤ 4096) :
    Calls Try.prog 58 #[.pointer (some ⟨g, 0, none⟩), .slice A xs.length c] w fun x w' => x = .returned (.int .i64 (sumW e b xs : Int)) ∧ w = w' := by
  have HW := Lib.hid (fun k => tab_weight h k)
  have HX := Lib.hid hx
  have HS := Lib.hid (fun k => clip_sum ho hl k)
  obtain ⟨n, hn⟩ : ∃ n, xs.length = n := ⟨_, rfl⟩
  have HN := Lib.hid hn
  have HL := Lib.hid (fun k => wt_le ho k)
  rw [hn] at hl ⊢
  clear hn h hx
  go_enter Try.func58, Try.ntmps58
  go_wp2
  go_loopg [5, 10] (n + 1) (fun G s i wr => ∃ k : Nat, k ≤ n ∧ G = n + 1 - k ∧ s = .int .i64 (sumW e b (xs.take k) : Int) ∧ i = .int .i64 (k : Int) ∧ wr = w)
  case atStart => exact ⟨0, by omega, rfl, by simp [sumW], rfl, rfl⟩
  case round =>
    obtain ⟨k, hk, rfl, rfl, rfl, rfl⟩ := hrel
    by_cases hlt : k < n
    · obtain ⟨ab, off, rfl, hab, hcell⟩ := HX.out.at_ (k := k) (by have := HN.out; omega)
      have hstep := sumW_take e b (xs := xs) (k := k) (by have := HN.out; omega)
      have hs1 := HS.out (k + 1)
      have hs0 := HS.out k
      obtain ⟨y, hy⟩ : ∃ y, xs.getD k 0 = y := ⟨_, rfl⟩
      rw [hy] at hstep hcell
      have HWY := Lib.hid (HW.out y)
      obtain ⟨v, hv⟩ : ∃ v, wt e b y = v := ⟨_, rfl⟩
      rw [hv] at hstep HWY
      obtain ⟨s, hs⟩ : ∃ s, sumW e b (xs.take k) = s := ⟨_, rfl⟩
      obtain ⟨s', hs'⟩ : ∃ s', sumW e b (xs.take (k + 1)) = s' := ⟨_, rfl⟩
      rw [hs, hs'] at hstep
      rw [hs'] at hs1
      rw [hs] at hs0
      rw [hs]
      have HS2 := Lib.hid hs'
      obtain rfl : s' = s + v := hstep
      clear hy hv hs hs'
      go_wp2_with fail
      refine HWY.out.mono ?_
      rintro x w1 ⟨rfl, rfl⟩
      go_wp2
      go_roundg (n - k)
      case measure => omega
      case rel => exact ⟨k + 1, by omega, by omega, by rw [HS2.out]; go_num, by go_num, rfl⟩
    · obtain rfl : k = n := by omega
      have HF : sumW e b (xs.take k) = sumW e b xs := by rw [List.take_of_length_le (by have := HN.out; omega)]
      have HF2 := Lib.hid HF
      clear HF
      go_wp2
      go_ret
      exact ⟨by rw [← HF2.out]; rfl, rfl⟩
set_option maxHeartbeats 1000000 in
theorem tab_pick_none {w : World} {g : Nat} {e : Bool} {b : Nat} (h : Tab w g e b) (ho : OkB e b) (A : Option Addr) (c : Nat) (x : Int) :
    Calls Try.prog 41 #[.pointer (some ⟨g, 0, none⟩), .slice A 0 c, .int .u64 x] w fun v w' => v = .returned (.int .i64 (-1)) ∧ w = w' := by
  have HT := Lib.hid (tab_total h ho (A := A) (xs := []) (c := c) Cells.nil_ (by simp))
  clear h ho
  go_enter Try.func41, Try.ntmps41
  go_wp2_with fail
  refine HT.out.mono ?_
  rintro v w1 ⟨rfl, rfl⟩
  rw [sumW_nil]
  go_wp2
  go_ret
  exact ⟨rfl, rfl⟩
set_option maxHeartbeats 1000000 in
theorem tab_pick {w : World} {g : Nat} {e : Bool} {b : Nat} (h : Tab w g e b) (ho : OkB e b) {A : Option Addr} {xs : List Int} {c : Nat} (hx : Ints w w.heap.size A xs) (hl : xs.length ≤ 4096) (h0 : 0 < xs.length) (x : Nat) (hx64 : x < 2 ^ 64) {j : Nat} (hj : Falls e b xs (x % sumW e b xs) j) :
    Calls Try.prog 41 #[.pointer (some ⟨g, 0, none⟩), .slice A xs.length c, .int .u64 x] w fun v w' => v = .returned (.int .i64 (j : Int)) ∧ w = w' := by
  have HT := Lib.hid (tab_total h ho (c := c) hx hl)
  have HW := Lib.hid (fun k => tab_weight h k)
  have HX := Lib.hid hx
  have HS := Lib.hid (fun k => clip_sum ho hl k)
  have HL := Lib.hid (fun k => wt_le ho k)
  obtain ⟨r, hr⟩ : ∃ r, x % sumW e b xs = r := ⟨_, rfl⟩
  rw [hr] at hj
  have hs1 := len_le_sumW e b xs
  have hs2 : sumW e b xs ≤ 4503599627370496 := by have := clip_sum ho hl xs.length; rwa [List.take_of_length_le (Nat.le_refl _)] at this
  obtain ⟨T, hT⟩ : ∃ T, sumW e b xs = T := ⟨_, rfl⟩
  rw [hT] at HT hr hs1 hs2
  have hrl : r < T := by rw [← hr]; exact Nat.mod_lt _ (by omega)
  obtain ⟨n, hn⟩ : ∃ n, xs.length = n := ⟨_, rfl⟩
  have HN := Lib.hid hn
  have HJ := Lib.hid hj
  have hjn : j < n := by rw [← hn]; exact hj.1
  rw [hn] at hl h0 hs1 HT ⊢
  have ec : IntKind.u64.wrap (T : Int) = (T : Int) := by simp [IntKind.wrap, IntKind.signed, IntKind.bits]; omega
  have er : Int.tmod (x : Int) (T : Int) = (r : Int) := by rw [← hr]; rfl
  have er2 : (x : Int) % (T : Int) = (r : Int) := by rw [← hr]; simp
  have hT0 : ((T : Int) == 0) = false := by simp; omega
  clear hn hT h hx hj hr
  go_enter Try.func41, Try.ntmps41
  go_wp2_with fail
  refine HT.out.mono ?_
  rintro v w1 ⟨rfl, rfl⟩
  go_wp2
  have hS0 : sumW e b (xs.take 0) = 0 := by simp [sumW]
  have HS0 := Lib.hid hS0
  clear hS0
  go_loopg [8, 24] (n + 1) (fun G d i wr => ∃ k D : Nat, k ≤ j ∧ G = n + 1 - k ∧ d = .int .i64 (D : Int) ∧ i = .int .i64 (k : Int) ∧ wr = w ∧ D ≤ r ∧ Hid (r = sumW e b (xs.take k) + D))
  case atStart => exact ⟨0, r, by omega, rfl, rfl, rfl, rfl, Nat.le_refl _, Lib.hid (by rw [HS0.out]; omega)⟩
  case round =>
    obtain ⟨k, D, hk, rfl, rfl, rfl, rfl, hD, HD⟩ := hrel
    have hkn : k < n := by omega
    obtain ⟨ab, off, rfl, hab, hcell⟩ := HX.out.at_ (k := k) (by have := HN.out; omega)
    have hstep := sumW_take e b (xs := xs) (k := k) (by have := HN.out; omega)
    obtain ⟨y, hy⟩ : ∃ y, xs.getD k 0 = y := ⟨_, rfl⟩
    rw [hy] at hstep hcell
    have HWY := Lib.hid (HW.out y)
    have hvl := HL.out y
    obtain ⟨v, hv⟩ : ∃ v, wt e b y = v := ⟨_, rfl⟩
    rw [hv] at hstep HWY hvl
    have HST := Lib.hid hstep
    have hcmp : D < v ↔ k = j := by
      have hd := HD.out
      constructor
      · intro h
        exact Falls.one ⟨by have := HN.out; omega, by omega, by omega⟩ HJ.out
      · rintro rfl
        have := HJ.out.2.2
        omega
    clear hy hv hstep
    by_cases hkj : k = j
    · have hlt : D < v := hcmp.2 hkj
      subst hkj
      clear hcmp
      go_wp2_with fail
      refine HWY.out.mono ?_
      rintro x w1 ⟨rfl, rfl⟩
      go_wp2
      go_ret
      exact ⟨rfl, rfl⟩
    · have hge : v ≤ D := by
        rcases Nat.lt_or_ge D v with h | h
        · exact absurd (hcmp.1 h) hkj
        · exact h
      have hk1 : k + 1 ≤ j := by omega
      clear hcmp hkj
      go_wp2_with fail
      refine HWY.out.mono ?_
      rintro x w1 ⟨rfl, rfl⟩
      go_wp2
      go_roundg (n - k)
      case measure => omega
      case rel => exact ⟨k + 1, D - v, by omega, by omega, by go_num, by go_num, rfl, by omega, Lib.hid (by rw [HST.out]; have := HD.out; omega)⟩

end Go.Proofs.Ytllgepabjglnaaa
