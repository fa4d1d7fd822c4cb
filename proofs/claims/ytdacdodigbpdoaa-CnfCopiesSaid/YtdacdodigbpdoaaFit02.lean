/- The anchor of the second layer: one formula, through all calls. -/
import Derived.Test.YtdacdodigbpdoaaLaw02
import Derived.Test.YtdacdodigbpdoaaCnf2
import Derived.Test.YtdacdodigbpdoaaCnf4
namespace Go.Proofs.Ytdacdodigbpdoaa
open Go.RowKit

theorem ints_blk {w : World} {B g : Nat} {t : TypeId} {xs : List Int} (h : Blk w g t (xs.map (Value.int .i64)).toArray) (hB : g < B) : Ints w B (some ⟨g, 0, none⟩) xs :=
  fun _ => ⟨g, 0, rfl, hB, fun j hj => by rw [Nat.zero_add, h.cell j]; simp [List.getD, hj]⟩
theorem rows_blk {w : World} {B g : Nat} {t : TypeId} {vs : List Value} {xss : List (List Int)} (h : Blk w g t vs.toArray) (hB : g < B)
    (hr : ∀ j, j < xss.length → ∃ Aj cj, vs[j]? = some (.slice Aj (xss.getD j []).length cj) ∧ Ints w B Aj (xss.getD j [])) : Rows w B (some ⟨g, 0, none⟩) xss :=
  fun _ => ⟨g, 0, rfl, hB, fun j hj => by
    obtain ⟨Aj, cj, h1, h2⟩ := hr j hj
    exact ⟨Aj, cj, by rw [Nat.zero_add, h.cell j]; simpa using h1, h2⟩⟩
theorem bools_blk {w : World} {B g : Nat} {t : TypeId} {z : List Bool} (h : Blk w g t (z.map Value.bool).toArray) (hB : g < B) : Bools w B (some ⟨g, 0, none⟩) z :=
  fun _ => ⟨g, 0, rfl, hB, fun j hj => by rw [Nat.zero_add, h.cell j]; simp [List.getD, hj]⟩
theorem wide_of {xs : List Int} (h1 : xs.length ≤ 1000000) (h2 : ∀ x ∈ xs, -1000000 ≤ x ∧ x ≤ 1000000) : Wide xs := by
  refine ⟨by omega, fun k => ?_⟩
  by_cases hk : k < xs.length
  · have := h2 _ (List.getElem_mem hk)
    simp [List.getD, hk]; omega
  · simp [List.getD, hk]
theorem wides_of {xss : List (List Int)} (h1 : xss.length ≤ 1000000) (h2 : ∀ xs ∈ xss, xs.length ≤ 1000000 ∧ ∀ x ∈ xs, -1000000 ≤ x ∧ x ≤ 1000000) : Wides xss := by
  refine ⟨by omega, fun k => ?_⟩
  by_cases hk : k < xss.length
  · have := h2 _ (List.getElem_mem hk)
    simp only [List.getD, List.getElem?_eq_getElem hk, Option.getD_some]
    exact wide_of this.1 this.2
  · simp only [List.getD, List.getElem?_eq_none (Nat.le_of_not_lt hk), Option.getD_none]
    exact wide_of (by simp) (by simp)

/-- one clause of two literals, one of one -/
def fitForm : List (List Int) := [[1, -2], [2]]

/-- it lies in four blocks, from n on -/
def FitAt (n : Nat) (w : World) : Prop :=
  Blk w n 3 #[Value.int IntKind.i64 1, Value.int IntKind.i64 (-2)] ∧ Blk w (n + 1) 3 #[Value.int IntKind.i64 2] ∧
  Blk w (n + 1 + 1) 33 #[Value.slice (some ⟨n, 0, none⟩) 2 2, Value.slice (some ⟨n + 1, 0, none⟩) 1 1] ∧ Blk w (n + 1 + 1 + 1) 30 #[Value.int IntKind.i64 2, Value.slice (some ⟨n + 1 + 1, 0, none⟩) 2 2]
theorem FitAt.lt {n : Nat} {w : World} (h : FitAt n w) : n + 4 ≤ w.heap.size := by have := h.2.2.2.lt; omega
theorem FitAt.below {n : Nat} {w w' : World} {B : Nat} (h : FitAt n w) (hb : Below B w w') (hB : n + 4 ≤ B) : FitAt n w' :=
  ⟨h.1.below hb (by omega), h.2.1.below hb (by omega), h.2.2.1.below hb (by omega), h.2.2.2.below hb (by omega)⟩
theorem FitAt.alloc {n : Nat} {w : World} (h : FitAt n w) (o : Obj) : FitAt n (w.alloc o) := ⟨h.1.alloc o, h.2.1.alloc o, h.2.2.1.alloc o, h.2.2.2.alloc o⟩
theorem FitAt.cell0 {n : Nat} {w : World} (h : FitAt n w) : w.cell? ⟨n + 1 + 1 + 1, 0, none⟩ = some (Value.int IntKind.i64 2) := by rw [h.2.2.2.cell]; rfl
theorem FitAt.cell1 {n : Nat} {w : World} (h : FitAt n w) : w.cell? ⟨n + 1 + 1 + 1, 1, none⟩ = some (Value.slice (some ⟨n + 1 + 1, 0, none⟩) 2 2) := by rw [h.2.2.2.cell]; rfl
theorem FitAt.rows {n : Nat} {w : World} (h : FitAt n w) : Rows w (n + 4) (some ⟨n + 1 + 1, 0, none⟩) fitForm :=
  rows_blk (vs := [Value.slice (some ⟨n, 0, none⟩) 2 2, Value.slice (some ⟨n + 1, 0, none⟩) 1 1]) h.2.2.1 (by omega) fun j hj => by
    match j, hj with
    | 0, _ => exact ⟨_, _, rfl, ints_blk (xs := [1, -2]) h.1 (by omega)⟩
    | 1, _ => exact ⟨_, _, rfl, ints_blk (xs := [2]) h.2.1 (by omega)⟩
theorem fit_wides : Wides fitForm := wides_of (by decide) (by decide)
theorem fit_sat {z : List Bool} (h : z.length = 2) : formSat z fitForm = true ↔ z = [true, true] := by
  match z, h with
  | [a, b], _ => cases a <;> cases b <;> decide

theorem fit02_any (w : World) :
    Calls Try.prog 8 #[] w fun e w' => e = .returned (.bool true) ∧ Below w.heap.size w w' := by
  go_enter Try.func8, Try.ntmps8
  go_wp2_with fail
  obtain ⟨w1, hw1⟩ : ∃ w1, w1 = (((w.alloc (Obj.cells #[Value.int IntKind.i64 1, Value.int IntKind.i64 (-2)] 3)).alloc (Obj.cells #[Value.int IntKind.i64 2] 3)).alloc
    (Obj.cells #[Value.slice (some ⟨w.heap.size, 0, none⟩) 2 2, Value.slice (some ⟨w.heap.size + 1, 0, none⟩) 1 1] 33)).alloc (Obj.cells #[Value.int IntKind.i64 2, Value.slice (some ⟨w.heap.size + 1 + 1, 0, none⟩) 2 2] 30) := ⟨_, rfl⟩
  rw [← hw1]
  have hfit : FitAt w.heap.size w1 := by
    rw [hw1]
    refine ⟨(((Blk.new w _ _).alloc _).alloc _).alloc _, ((?_ : Blk _ _ _ _).alloc _).alloc _, (?_ : Blk _ _ _ _).alloc _, ?_⟩
    · have := Blk.new (w.alloc (Obj.cells #[Value.int IntKind.i64 1, Value.int IntKind.i64 (-2)] 3)) 3 #[Value.int IntKind.i64 2]; simp only [World.size_alloc] at this; exact this
    · have := Blk.new ((w.alloc (Obj.cells #[Value.int IntKind.i64 1, Value.int IntKind.i64 (-2)] 3)).alloc (Obj.cells #[Value.int IntKind.i64 2] 3)) 33 #[Value.slice (some ⟨w.heap.size, 0, none⟩) 2 2, Value.slice (some ⟨w.heap.size + 1, 0, none⟩) 1 1]; simp only [World.size_alloc] at this; exact this
    · have := Blk.new (((w.alloc (Obj.cells #[Value.int IntKind.i64 1, Value.int IntKind.i64 (-2)] 3)).alloc (Obj.cells #[Value.int IntKind.i64 2] 3)).alloc (Obj.cells #[Value.slice (some ⟨w.heap.size, 0, none⟩) 2 2, Value.slice (some ⟨w.heap.size + 1, 0, none⟩) 1 1] 33)) 30 #[Value.int IntKind.i64 2, Value.slice (some ⟨w.heap.size + 1 + 1, 0, none⟩) 2 2]
      simp only [World.size_alloc] at this; exact this
  have hBel : Below w.heap.size w w1 := by rw [hw1]; exact ((((Below.refl _ _).alloc (Nat.le_refl _) _).alloc (by simp) _).alloc (by simp; omega) _).alloc (by simp; omega) _
  clear hw1
  have HF := Lib.hid hfit
  have HBel := Lib.hid hBel
  clear hfit hBel
  have hbr : Calls Try.prog 15 #[.agg #[.int .i64 2, .slice (some ⟨w.heap.size + 1 + 1, 0, none⟩) 2 2]] w1 (Bruted 2 fitForm w1) := brute_any 2 fitForm _ _ 2 w1 (by omega) fit_wides HF.out.rows HF.out.lt
  refine hbr.mono ?_
  clear hbr
  rintro e w2 (⟨g, z, rfl, hz, hblk, hsat, _, hb2, hg⟩ | ⟨_, hno, _⟩)
  · have hz2 := (fit_sat hz).1 hsat
    subst hz2
    have c0 : w2.cell? ⟨g, 0, none⟩ = some (.bool true) := hblk.cell (i := 0) (by simp)
    have c1 : w2.cell? ⟨g, 1, none⟩ = some (.bool true) := hblk.cell (i := 1) (by simp)
    have HF2 := Lib.hid (HF.out.below hb2 HF.out.lt)
    have HB2 := Lib.hid (HBel.out.trans (hb2.mono HBel.out.size))
    have f0 := HF2.out.cell0
    have f1 := HF2.out.cell1
    clear hz hblk hsat hb2 hg
    go_wp2_with fail
    clear c0 c1 f0 f1
    have hr : Calls Try.prog 18 #[.agg #[.int .i64 2, .slice (some ⟨w.heap.size + 1 + 1, 0, none⟩) 2 2]] w2 fun e w' => e = .returned (.bool true) ∧ Below w2.heap.size w2 w' :=
      formright_any 2 fitForm _ _ 2 w2 (by omega) (by omega) (by decide) (fun j => by match j with | 0 => decide | 1 => decide | j + 2 => simp [fitForm]) (fun j k => by
        have := fit_wides.2 j |>.2 k; omega) HF2.out.rows HF2.out.lt
    refine hr.mono ?_
    clear hr
    rintro e w3 ⟨rfl, hb3⟩
    have HF3 := Lib.hid (HF2.out.below hb3 HF2.out.lt)
    have HB3 := Lib.hid (HB2.out.trans (hb3.mono HB2.out.size))
    clear hb3
    go_wp2_with fail
    obtain ⟨w4, hw4⟩ : ∃ w4, w4 = (w3.alloc (Obj.cells #[Value.int IntKind.i64 1] 3)).alloc (Obj.cells #[Value.slice (some ⟨w3.heap.size, 0, none⟩) 1 1] 33) := ⟨_, rfl⟩
    rw [← hw4]
    have hR4 : Rows w4 w4.heap.size (some ⟨w3.heap.size + 1, 0, none⟩) [[1]] := by
      rw [hw4]
      refine rows_blk (t := 33) (vs := [Value.slice (some ⟨w3.heap.size, 0, none⟩) 1 1]) ?_ (by simp) fun j hj => ?_
      · have := Blk.new (w3.alloc (Obj.cells #[Value.int IntKind.i64 1] 3)) 33 #[Value.slice (some ⟨w3.heap.size, 0, none⟩) 1 1]; simp only [World.size_alloc] at this; exact this
      · match j, hj with
        | 0, _ => exact ⟨_, _, rfl, ints_blk (t := 3) (xs := [1]) ((Blk.new w3 _ _).alloc _) (by simp; omega)⟩
    have HF4 := Lib.hid (show FitAt w.heap.size w4 by rw [hw4]; exact (HF3.out.alloc _).alloc _)
    have HB4 := Lib.hid (show Below w.heap.size w w4 by rw [hw4]; exact (HB3.out.alloc HB3.out.size _).alloc (by have := HB3.out.size; simp; omega) _)
    clear hw4
    have hr : Calls Try.prog 18 #[.agg #[.int .i64 0, .slice (some ⟨w3.heap.size + 1, 0, none⟩) 1 1]] w4 fun e w' => e = .returned (.bool false) ∧ Below w4.heap.size w4 w' :=
      formright_any 0 [[1]] _ _ 1 w4 (by omega) (by omega) (by decide) (fun j => by match j with | 0 => decide | j + 1 => simp) (fun j k => by
        match j, k with
        | 0, 0 => decide
        | 0, k + 1 => simp
        | j + 1, k => simp) hR4 (Nat.le_refl _)
    refine hr.mono ?_
    clear hr hR4
    rintro e w5 ⟨rfl, hb5⟩
    have HF5 := Lib.hid (HF4.out.below hb5 HF4.out.lt)
    have HB5 := Lib.hid (HB4.out.trans (hb5.mono HB4.out.size))
    clear hb5
    have f0 := HF5.out.cell0
    have f1 := HF5.out.cell1
    go_wp2_with fail
    clear f0 f1
    have hr : Calls Try.prog 19 #[.agg #[.int .i64 2, .slice (some ⟨w.heap.size + 1 + 1, 0, none⟩) 2 2]] w5 fun e w' => e = .returned (.int .i64 3) ∧ Below w5.heap.size w5 w' :=
      lits_any 2 fitForm _ _ 2 w5 (by decide) (by decide) HF5.out.rows HF5.out.lt
    refine hr.mono ?_
    clear hr
    rintro e w6 ⟨rfl, hb6⟩
    have HF6 := Lib.hid (HF5.out.below hb6 HF5.out.lt)
    have HB6 := Lib.hid (HB5.out.trans (hb6.mono HB5.out.size))
    clear hb6
    have f0 := HF6.out.cell0
    have f1 := HF6.out.cell1
    go_wp2_with fail
    clear f0 f1
    obtain ⟨w7, hw7⟩ : ∃ w7, w7 = w6.alloc (Obj.cells #[Value.bool false, Value.bool true] 4) := ⟨_, rfl⟩
    rw [← hw7]
    have hz : Bools w7 w7.heap.size (some ⟨w6.heap.size, 0, none⟩) [false, true] := by
      rw [hw7]; exact bools_blk (z := [false, true]) (Blk.new w6 4 _) (by simp)
    have HF7 := Lib.hid (show FitAt w.heap.size w7 by rw [hw7]; exact HF6.out.alloc _)
    have HB7 := Lib.hid (show Below w.heap.size w w7 by rw [hw7]; exact HB6.out.alloc HB6.out.size _)
    clear hw7
    have hr : Calls Try.prog 11 #[.agg #[.int .i64 2, .slice (some ⟨w.heap.size + 1 + 1, 0, none⟩) 2 2], .slice (some ⟨w6.heap.size, 0, none⟩) 2 2] w7 fun e w' =>
        ∃ v, e = .returned v ∧ w'.ownsRow w7.heap.size 3 1 v 1 [.int .i64 0] ∧ Below w7.heap.size w7 w' :=
      unsatisfied_any 2 fitForm _ _ _ _ [false, true] 2 2 w7 fit_wides (by decide) (by decide) HF7.out.rows hz HF7.out.lt (Nat.le_refl _)
    refine hr.mono ?_
    clear hr hz
    rintro e w8 ⟨v, rfl, hown, hb8⟩
    obtain ⟨Av, cv, hv, _⟩ := own_slice hown
    have HB8 := Lib.hid (HB7.out.trans (hb8.mono HB7.out.size))
    subst hv
    clear hown hb8
    go_wp2
    go_ret
    exact ⟨rfl, HB8.out⟩
  · have := hno [true, true] rfl
    have h2 := (fit_sat (z := [true, true]) rfl).2 rfl
    rw [this] at h2
    cases h2
end Go.Proofs.Ytdacdodigbpdoaa
