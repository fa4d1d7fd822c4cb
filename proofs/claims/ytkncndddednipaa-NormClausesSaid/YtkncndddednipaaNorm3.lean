/- What Clause, Tautology, Same and Without answer. -/
import Derived.Test.YtkncndddednipaaNorm2
namespace Go.Proofs.Ytkncndddednipaa
open Go.RowKit

theorem sort_none : SortNone Try.prog 22 := fun p cap fv w => Try.slices_SortFunc_none (α := Int) p cap fv w
theorem norm_clause_any (xs : List Int) (B : Nat) (A : Option Addr) (c : Nat) (w : World) (hx : Lits xs) (h : Ints w B A xs) (hB : B ≤ w.heap.size) :
    Calls Try.prog 10 #[.slice A xs.length c] w (OwnInts (normOf xs) w) := norm_clause_of sort_none xs B A c w hx h hB

/-- literals within bounds -/
abbrev L6 := { x : Int // -1000000 ≤ x ∧ x ≤ 1000000 }
instance : Inhabited L6 := ⟨⟨0, by omega, by omega⟩⟩
def enc6 (x : L6) : Value := .int .i64 x.1
theorem list6 (xs : List Int) (h : ∀ x ∈ xs, -1000000 ≤ x ∧ x ≤ 1000000) : ∃ ds : List L6, xs = ds.map (·.1) := by
  induction xs with
  | nil => exact ⟨[], rfl⟩
  | cons x r ih =>
    obtain ⟨ds, hd⟩ := ih fun y hy => h y (List.mem_cons_of_mem _ hy)
    exact ⟨⟨x, h x (by simp)⟩ :: ds, congrArg (x :: ·) hd⟩

set_option maxRecDepth 100000 in
theorem opposed_lit_any (ys : List Int) (x : Int) (B g : Nat) (A : Option Addr) (c : Nat) (w : World) (hy : Lits ys) (hx1 : -1000000 ≤ x) (hx2 : x ≤ 1000000) (hr : Rising ys) (h : Ints w B A ys) (hc : w.cell? ⟨g, 0, none⟩ = some (.slice A ys.length c)) :
    Calls Try.prog 36 #[.int .i64 x, .pointer (some ⟨g, 0, none⟩)] w fun e w' => e = .returned (.bool (ys.contains (-x))) ∧ ∃ q, w' = w.drewN q := by
  have hcon := bsearch_any ys (-x) B A c w hy (by omega) (by omega) hr h
  obtain ⟨r, hrr⟩ : ∃ r, r = ys.contains (-x) := ⟨_, rfl⟩
  rw [← hrr] at hcon ⊢
  have HC := Lib.hid hcon
  clear hy hr h hrr hcon
  go_enter Try.func36, Try.ntmps36
  go_wp2_with fail
  refine HC.out.mono ?_
  rintro e w' ⟨⟨i, rfl⟩, rfl⟩
  go_wp2
  go_ret
  exact ⟨rfl, 0, rfl⟩

set_option maxRecDepth 100000 in
theorem opposed_any (ys : List Int) (B : Nat) (A : Option Addr) (c : Nat) (w : World) (hy : Lits ys) (hr : Rising ys) (h : Ints w B A ys) (hB : B ≤ w.heap.size) :
    Calls Try.prog 26 #[.slice A ys.length c] w fun e w' => e = .returned (.bool (tautOf ys)) ∧ Below w.heap.size w w' := by
  obtain ⟨w1, hw1⟩ : ∃ w1, w1 = w.alloc (.cells #[.slice A ys.length c] 24) := ⟨_, rfl⟩
  have hI : Ints w1 B A ys := by rw [hw1]; exact h.alloc hB _
  have hc1 : w1.cell? ⟨w.heap.size, 0, none⟩ = some (.slice A ys.length c) := by rw [hw1]; go_cell
  have hsz : w1.heap.size = w.heap.size + 1 := by rw [hw1]; simp
  have hBel : Below w.heap.size w w1 := by rw [hw1]; exact (Below.refl _ _).alloc (Nat.le_refl _) _
  have eg : ∀ args w, (callFunc 36 args).run Try.prog w = .ok (.enter 36 args) w := enters_of Try.func36 (by kernel_rfl) rfl
  have hp : PredAt Try.prog 36 #[.pointer (some ⟨w.heap.size, 0, none⟩)] enc6 (fun x : L6 => ys.contains (-x.1)) w1 := fun W x hb =>
    opposed_lit_any ys x.1 B w.heap.size A c W hy x.2.1 x.2.2 hr (hI.below (hb.mono (by omega))) ((hb.cell (p := ⟨w.heap.size, 0, none⟩) (by show w.heap.size < _; omega)).trans hc1)
  have hcon : Calls Try.prog 35 #[.slice A ys.length c, .func (.func 36) #[] #[.pointer (some ⟨w.heap.size, 0, none⟩)]] w1 fun e w' => e = .returned (.bool (tautOf ys)) ∧ ∃ q, w' = w1.drewN q := by
    rcases Nat.eq_zero_or_pos ys.length with h0 | h0
    · obtain rfl : ys = [] := List.length_eq_zero_iff.1 h0
      exact (Try.slices_ContainsFunc_empty (α := L6) A c _ w1).mono fun _ _ ⟨he, hw⟩ => ⟨he, 0, hw⟩
    · obtain ⟨ds, hds⟩ := list6 ys hy.2
      obtain ⟨b, off, rfl, _, hcell⟩ := hI h0
      have hl : ys.length = ds.length := by rw [hds]; simp
      have h1 := Try.slices_ContainsFunc enc6 (fun x : L6 => ys.contains (-x.1)) 36 #[.pointer (some ⟨w.heap.size, 0, none⟩)] eg b off ys.length c ds w1 hp (by omega) (by have := hy.1; omega) (fun j hj => by
        rw [hcell j (by omega), getElem!_pos ds j hj]
        unfold enc6
        rw [hds]
        simp [List.getD, hj])
      have e : (ds.take ys.length).any (fun x : L6 => ys.contains (-x.1)) = tautOf ys := by
        rw [List.take_of_length_le (by omega)]
        unfold tautOf
        conv => rhs; arg 1; rw [hds]
        rw [List.any_map]
        rfl
      rw [e] at h1
      exact h1
  have HC := Lib.hid hcon
  have HBel := Lib.hid hBel
  clear hcon hBel hp eg hsz hc1 hI h hy hr
  go_enter Try.func26, Try.ntmps26
  go_wp2_with fail
  rw [← hw1]
  clear hw1
  refine HC.out.mono ?_
  rintro e w' ⟨rfl, q, rfl⟩
  go_wp2
  go_ret
  exact ⟨rfl, below_drewN HBel.out _⟩

set_option maxRecDepth 100000 in
theorem tautology_any (xs : List Int) (B : Nat) (A : Option Addr) (c : Nat) (w : World) (hx : Lits xs) (h : Ints w B A xs) (hB : B ≤ w.heap.size) :
    Calls Try.prog 13 #[.slice A xs.length c] w fun e w' => e = .returned (.bool (tautOf xs)) ∧ Below w.heap.size w w' := by
  have HX := Lib.hid hx
  have H := Lib.hid h
  clear hx h
  go_enter Try.func13, Try.ntmps13
  go_wp2_with fail
  refine (norm_clause_any xs B A c w HX.out H.out hB).mono ?_
  rintro e w1 ⟨A1, c1, rfl, hown, hb⟩
  have HC := Lib.hid (opposed_any (normOf xs) w1.heap.size A1 c1 w1 HX.out.norm (rising_normOf xs) (ints_of_own hown) (Nat.le_refl _))
  have HBel := Lib.hid hb
  clear hown hb
  go_wp2_with fail
  refine HC.out.mono ?_
  rintro e w2 ⟨rfl, hb2⟩
  rw [tautOf_norm]
  have HB2 := Lib.hid (HBel.out.trans (hb2.mono HBel.out.size))
  clear hb2
  go_wp2
  go_ret
  exact ⟨rfl, HB2.out⟩

set_option maxRecDepth 100000 in
theorem equal_any (xs ys : List Int) (B B' : Nat) (A A' : Option Addr) (c c' : Nat) (w : World) (hx : xs.length ≤ 1000000000) (hy : ys.length ≤ 1000000000) (h : Ints w B A xs) (h' : Ints w B' A' ys) :
    Calls Try.prog 27 #[.slice A xs.length c, .slice A' ys.length c'] w fun e w' => e = .returned (.bool (xs == ys)) ∧ ∃ q, w' = w.drewN q := by
  by_cases hl : xs.length = ys.length
  · rcases Nat.eq_zero_or_pos xs.length with h0 | h0
    · obtain rfl : xs = [] := List.length_eq_zero_iff.1 h0
      obtain rfl : ys = [] := List.length_eq_zero_iff.1 (by simpa using hl.symm)
      exact (Try.slices_Equal_int_empty A A' c 0 c' w (by omega)).mono fun _ _ ⟨he, hw⟩ => ⟨he, 0, hw⟩
    · obtain ⟨b, off, rfl, _, hcell⟩ := h h0
      obtain ⟨b', off', rfl, _, hcell'⟩ := h' (by omega)
      have h1 := Try.slices_Equal_int b off xs.length c b' off' ys.length c' xs ys w (Nat.le_refl _) (Nat.le_refl _) (by omega) (by omega) hcell hcell'
      rw [List.take_of_length_le (Nat.le_refl _), List.take_of_length_le (Nat.le_refl _)] at h1
      exact h1
  · have e : (xs == ys) = false := by
      rw [Bool.eq_false_iff]
      intro hq
      have : xs = ys := by simpa using hq
      exact hl (by rw [this])
    rw [e]
    have hl' : ((xs.length : Int) == (ys.length : Int)) = false := by simp; omega
    have hl2 : ((xs.length : Int) != (ys.length : Int)) = true := by simp; omega
    clear h h' hl e
    go_enter Try.func27, Try.ntmps27
    go_wp2
    all_goals go_ret
    all_goals exact ⟨rfl, 0, rfl⟩

set_option maxRecDepth 100000 in
theorem same_norm_any (xs ys : List Int) (B B' : Nat) (A A' : Option Addr) (c c' : Nat) (w : World) (hx : Lits xs) (hy : Lits ys) (h : Ints w B A xs) (h' : Ints w B' A' ys) (hB : B ≤ w.heap.size) (hB' : B' ≤ w.heap.size) :
    Calls Try.prog 14 #[.slice A xs.length c, .slice A' ys.length c'] w fun e w' => e = .returned (.bool (normOf xs == normOf ys)) ∧ Below w.heap.size w w' := by
  have HX := Lib.hid hx
  have HY := Lib.hid hy
  have H := Lib.hid h
  have H' := Lib.hid h'
  clear hx hy h h'
  go_enter Try.func14, Try.ntmps14
  go_wp2_with fail
  refine (norm_clause_any xs B A c w HX.out H.out hB).mono ?_
  rintro e w1 ⟨A1, c1, rfl, hown, hb⟩
  have HO := Lib.hid hown
  have HBel := Lib.hid hb
  have hs1 := hb.size
  clear hown hb
  go_wp2_with fail
  refine (norm_clause_any ys B' A' c' w1 HY.out (Cells.below H'.out (HBel.out.mono hB')) (by omega)).mono ?_
  rintro e w2 ⟨A2, c2, rfl, hown, hb⟩
  have hi1 : Ints w2 w1.heap.size A1 (normOf xs) := Cells.below (ints_of_own HO.out) hb
  have HC := Lib.hid (equal_any (normOf xs) (normOf ys) _ _ A1 A2 c1 c2 w2 HX.out.norm.1 HY.out.norm.1 hi1 (ints_of_own hown))
  have HB2 := Lib.hid (HBel.out.trans (hb.mono HBel.out.size))
  clear hown hb hi1
  go_wp2_with fail
  refine HC.out.mono ?_
  rintro e w3 ⟨rfl, q, rfl⟩
  go_wp2
  go_ret
  exact ⟨rfl, below_drewN HB2.out _⟩

theorem delete_none_any (p : Option Addr) (c : Nat) (fv : Value) (w : World) :
    Calls Try.prog 29 #[.slice p 0 c, fv] w fun e w' => e = .returned (.slice p 0 c) ∧ w' = w := by
  go_enter Try.func29, Try.ntmps29
  go_wp2_with (go_at_call 39; refine (Try.slices_IndexFunc_empty (α := Int) _ _ _ _).mono ?_; rintro e w' ⟨rfl, rfl⟩)
  go_ret
  exact ⟨rfl, rfl⟩

theorem without_lit_any (l x : Int) (g : Nat) (W : World) (hc : W.cell? ⟨g, 0, none⟩ = some (.int .i64 l)) :
    FnGives Try.prog 30 #[.pointer (some ⟨g, 0, none⟩)] #[.int .i64 x] (.bool (x == l)) W := by
  show Calls Try.prog 30 #[.int .i64 x, .pointer (some ⟨g, 0, none⟩)] W _
  go_enter Try.func30, Try.ntmps30
  go_wp2
  go_ret
  exact ⟨rfl, 0, rfl⟩

set_option maxRecDepth 100000 in
theorem without_any (xs : List Int) (l : Int) (B : Nat) (A : Option Addr) (c : Nat) (w : World) (hx : Lits xs) (h : Ints w B A xs) (hB : B ≤ w.heap.size) :
    Calls Try.prog 20 #[.slice A xs.length c, .int .i64 l] w (OwnInts (withoutOf xs l) w) := by
  obtain ⟨w1, hw1⟩ : ∃ w1, w1 = w.alloc (.cells #[.int .i64 l] 3) := ⟨_, rfl⟩
  have hI : Ints w1 B A xs := by rw [hw1]; exact h.alloc hB _
  have hc1 : w1.cell? ⟨w.heap.size, 0, none⟩ = some (.int .i64 l) := by rw [hw1]; go_cell
  have hsz : w1.heap.size = w.heap.size + 1 := by rw [hw1]; simp
  have hBel : Below w.heap.size w w1 := by rw [hw1]; exact (Below.refl _ _).alloc (Nat.le_refl _) _
  have HI := Lib.hid hI
  have HC1 := Lib.hid hc1
  have HBel := Lib.hid hBel
  have HX := Lib.hid hx
  clear hI hc1 hBel h hx
  go_enter Try.func20, Try.ntmps20
  go_wp2_with fail
  rw [← hw1]
  clear hw1
  refine (norm_clause_any xs B A c w1 HX.out HI.out (by omega)).mono ?_
  rintro e w2 ⟨A1, c1, rfl, hown, hb⟩
  have HO := Lib.hid hown
  have HB := Lib.hid hb
  have HB0 := Lib.hid (HBel.out.trans (hb.mono HBel.out.size))
  clear hown hb
  rcases Nat.eq_zero_or_pos (normOf xs).length with h0 | h0
  · have hn0 : normOf xs = [] := List.length_eq_zero_iff.1 h0
    have hw0 : withoutOf xs l = [] := by unfold withoutOf; rw [hn0]; rfl
    have HW0 := Lib.hid hw0
    rw [hn0] at HO ⊢
    clear hn0 hw0 h0
    go_wp2_with fail
    refine (delete_none_any _ _ _ _).mono ?_
    rintro e w3 ⟨rfl, rfl⟩
    go_wp2
    go_ret
    have ho := own_more (base' := w.heap.size) HO.out (by omega)
    unfold OwnInts
    rw [HW0.out]
    exact ⟨_, _, rfl, ho, HB0.out⟩
  · obtain ⟨g, rfl, hg1, hg2⟩ := own_addr HO.out h0
    have eg : ∀ args w, (callFunc 30 args).run Try.prog w = .ok (.enter 30 args) w := enters_of Try.func30 (by kernel_rfl) rfl
    have hc2 : w2.cell? ⟨w.heap.size, 0, none⟩ = some (.int .i64 l) := (HB.out.cell (p := ⟨w.heap.size, 0, none⟩) (by show w.heap.size < _; omega)).trans HC1.out
    have hp : PredAt Try.prog 30 #[.pointer (some ⟨w.heap.size, 0, none⟩)] (Value.int .i64) (fun x => x == l) w2 := fun W x hb =>
      without_lit_any l x _ W ((hb.cell (p := ⟨w.heap.size, 0, none⟩) (by show w.heap.size < _; omega)).trans hc2)
    have hpo : PredOver Try.prog 30 #[.pointer (some ⟨w.heap.size, 0, none⟩)] (Value.int .i64) (fun x => x == l) g 0 (normOf xs).toArray.size w2 := fun n os dk x _ =>
      without_lit_any l x _ _ (by
        unfold sortWorld
        rw [Go.Sort.cell?_grow _ _ _ (by show w.heap.size < (Go.Sort.putRow _ _ _ _ _).heap.size; rw [size_putRow]; show _ < w2.heap.size; omega), Go.Sort.cell?_putRow_other _ _ g 0 _ _ (Or.inl (by show w.heap.size ≠ g; omega))]
        exact hc2)
    have hnc : (normOf xs).length ≤ c1 := by
      rcases HO.out.2 with ⟨hv, _⟩ | ⟨g', cap', cur, hv, hb, hg, hnc, _⟩
      · cases hv
      · injection hv with _ _ hC; subst hC; exact hnc
    have hcon := Try.slices_DeleteFunc (Value.int .i64) (fun _ => rfl) (fun x => x == l) 30 #[.pointer (some ⟨w.heap.size, 0, none⟩)] eg 0 Try.zeroValue3 g 0 c1 (normOf xs).toArray w2 hp hpo (holds_of_own HO.out) (by have := HX.out.norm.1; simp; omega) (by simpa using hnc)
    have ef : ((normOf xs).toArray.toList.filter fun x => !(x == l)) = withoutOf xs l := rfl
    rw [ef, List.size_toArray] at hcon
    have hle : (withoutOf xs l).length ≤ (normOf xs).length := List.length_filter_le _ _
    have HC := Lib.hid hcon
    clear hcon ef hp hpo eg hc2
    go_wp2_with fail
    refine HC.out.mono ?_
    rintro e w3 ⟨rfl, q, rfl⟩
    rw [putRow_sort]
    have ho := own_sort (enc := Value.int .i64) (m := q) (os := #[]) (d := (withoutOf xs l ++ List.replicate ((normOf xs).length - (withoutOf xs l).length) 0).toArray) (k := (withoutOf xs l).length) HO.out (by simp; omega) (by simp)
    have et : (withoutOf xs l ++ List.replicate ((normOf xs).length - (withoutOf xs l).length) (0 : Int)).toArray.toList.take (withoutOf xs l).length = withoutOf xs l := by simp
    rw [et] at ho
    have hb3 := below_sort (enc := Value.int .i64) (m := q) (os := #[]) (d := (withoutOf xs l ++ List.replicate ((normOf xs).length - (withoutOf xs l).length) 0).toArray) HB0.out (show w.heap.size ≤ g by omega) (Nat.le_refl _)
    have HO3 := Lib.hid ho
    have HB3 := Lib.hid hb3
    clear ho hb3 et
    obtain ⟨w4, hw4⟩ : ∃ w4, w4 = sortWorld (Value.int .i64) w2 g 0 q (withoutOf xs l ++ List.replicate ((normOf xs).length - (withoutOf xs l).length) 0).toArray #[] := ⟨_, rfl⟩
    rw [← hw4] at HO3 HB3 ⊢
    clear hw4
    go_wp2
    go_ret
    exact ⟨_, _, rfl, own_more (base' := w.heap.size) HO3.out (by omega), HB3.out⟩
end Go.Proofs.Ytkncndddednipaa
