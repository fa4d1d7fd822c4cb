/- The header of a text. -/
import Derived.Test.YtnjcegjcaaplgaaGreatDoorHeader
namespace Go.Proofs.YtnjcegjcaaplgaaGreatDoor
open Go.RowKit
set_option linter.unusedSimpArgs false
set_option linter.unusedVariables false
set_option linter.unnecessarySimpa false

/-- a word's characters, and the rest of the line, of a list of bytes -/
def CutR (p : List UInt8 × List UInt8) (w : World) (e : Ending) (w' : World) : Prop :=
  ∃ (A : Option Addr) (c : Nat) (rs : List Int), e = .returned (.tuple #[.slice A rs.length c, .string ⟨p.2.toArray⟩]) ∧ Word p.1 rs ∧
    Cells w' w'.heap.size A rs.length (fun j => .int .i32 (rs.getD j 0)) ∧ Below w.heap.size w w' ∧ rs.length ≤ c
theorem cutL_any (l : List UInt8) (w : World) (hs : l.length ≤ 1099511627776) : Calls Tryz.prog 42 #[.string ⟨l.toArray⟩] w (CutR (cutFrom [] l) w) :=
  cutWord_any ⟨l.toArray⟩ w hs

theorem bytes_toList (s : ByteArray) : s.toList = s.data.toList := by
  exact Go.ByteArray.toList_eq s

def tripleOf : Option (Int × Int) → Value
  | some (v, k) => .tuple #[.int .i64 v, .int .i64 k, .bool true]
  | none => .tuple #[.int .i64 0, .int .i64 0, .bool false]
/-- what the five first words of a line make of it -/
theorem header_words (l : List UInt8) (p1 p2 p3 p4 p5 : List UInt8 × List UInt8) (h1 : cutFrom [] l = p1) (h2 : cutFrom [] p1.2 = p2) (h3 : cutFrom [] p2.2 = p3) (h4 : cutFrom [] p3.2 = p4) (h5 : cutFrom [] p4.2 = p5) :
    headerOf (wordsOf l) = if p1.1 = [112] ∧ p2.1 = [99, 110, 102] ∧ p5.1 = [] then (match numOf p3.1, numOf p4.1 with | some v, some k => some (v, k) | _, _ => none) else none := by
  have e0 : numOf [] = none := rfl
  unfold wordsOf
  rw [words_cut, h1, words_cut, h2, words_cut, h3, words_cut, h4, words_cut p4.2, h5]
  rcases p1 with ⟨a1, b1⟩
  rcases p2 with ⟨a2, b2⟩
  rcases p3 with ⟨a3, b3⟩
  rcases p4 with ⟨a4, b4⟩
  rcases p5 with ⟨a5, b5⟩
  simp only
  rcases a1 with _ | ⟨x1, a1⟩
  · simp [headerOf]
  rcases a2 with _ | ⟨x2, a2⟩
  · simp [headerOf]
  rcases a3 with _ | ⟨x3, a3⟩
  · simp [headerOf, e0]
  rcases a4 with _ | ⟨x4, a4⟩
  · simp [headerOf, e0]
  rcases a5 with _ | ⟨x5, a5⟩
  · rcases h3 : numOf (x3 :: a3) with _ | v <;> rcases h4 : numOf (x4 :: a4) with _ | k <;> simp [headerOf, h3, h4]
  · simp [headerOf]

set_option maxRecDepth 100000 in
set_option maxHeartbeats 4000000 in
theorem header_any (l : List UInt8) (w : World) (hs : l.length ≤ 1099511627776) : Calls Tryz.prog 45 #[.string ⟨l.toArray⟩] w fun e w' => e = .returned (tripleOf (headerOf (wordsOf l))) ∧ Below w.heap.size w w' := by
  have hh := header_words l _ _ _ _ _ rfl rfl rfl rfl rfl
  have l1 := cutFrom_len l []
  have C1 := cutL_any l w hs
  generalize cutFrom [] l = p1 at hh l1 C1
  simp only [List.length_nil, Nat.zero_add] at l1
  have l2 := cutFrom_len p1.2 []
  have C2 := fun w => cutL_any p1.2 w (by omega)
  generalize cutFrom [] p1.2 = p2 at hh l2 C2
  simp only [List.length_nil, Nat.zero_add] at l2
  have l3 := cutFrom_len p2.2 []
  have C3 := fun w => cutL_any p2.2 w (by omega)
  generalize cutFrom [] p2.2 = p3 at hh l3 C3
  simp only [List.length_nil, Nat.zero_add] at l3
  have l4 := cutFrom_len p3.2 []
  have C4 := fun w => cutL_any p3.2 w (by omega)
  generalize cutFrom [] p3.2 = p4 at hh l4 C4
  simp only [List.length_nil, Nat.zero_add] at l4
  have l5 := cutFrom_len p4.2 []
  have C5 := fun w => cutL_any p4.2 w (by omega)
  generalize cutFrom [] p4.2 = p5 at hh l5 C5
  simp only [List.length_nil, Nat.zero_add] at l5
  have HH := Lib.hid hh
  clear hh
  go_enter Tryz.func45, Tryz.ntmps45
  go_wp2_with (go_at_call 42; refine C1.mono ?_; rintro e w1 ⟨A1, c1, rs1, rfl, hw1, hc1, hb1, hcap1⟩; clear C1)
  have HW1 := Lib.hid hw1
  have HC1 := Lib.hid hc1
  have HB1 := Lib.hid hb1
  have hl1 := hw1.len.1
  clear hw1 hc1 hb1
  go_wp2_with (go_at_call 42; refine (C2 _).mono ?_; rintro e w2 ⟨A2, c2, rs2, rfl, hw2, hc2, hb2, hcap2⟩; clear C2)
  have HW2 := Lib.hid hw2
  have HC2 := Lib.hid hc2
  have HB2 := Lib.hid hb2
  have hl2 := hw2.len.1
  clear hw2 hc2 hb2
  go_wp2_with (go_at_call 42; refine (C3 _).mono ?_; rintro e w3 ⟨A3, c3, rs3, rfl, hw3, hc3, hb3, hcap3⟩; clear C3)
  have HW3 := Lib.hid hw3
  have HC3 := Lib.hid hc3
  have HB3 := Lib.hid hb3
  have hl3 := hw3.len.1
  clear hw3 hc3 hb3
  go_wp2_with (go_at_call 42; refine (C4 _).mono ?_; rintro e w4 ⟨A4, c4, rs4, rfl, hw4, hc4, hb4, hcap4⟩; clear C4)
  have HW4 := Lib.hid hw4
  have HC4 := Lib.hid hc4
  have HB4 := Lib.hid hb4
  have hl4 := hw4.len.1
  clear hw4 hc4 hb4
  go_wp2_with (go_at_call 42; refine (C5 _).mono ?_; rintro e w5 ⟨A5, c5, rs5, rfl, hw5, hc5, hb5, hcap5⟩; clear C5)
  have HW5 := Lib.hid hw5
  have HC5 := Lib.hid hc5
  have HB5 := Lib.hid hb5
  have hl5 := hw5.len.1
  clear hw5 hc5 hb5
  have HB := Lib.hid ((HB1.out.trans (HB2.out.mono HB1.out.size)).trans ((HB3.out.trans (HB4.out.mono HB3.out.size)).mono (Nat.le_trans HB1.out.size HB2.out.size)) |>.trans (HB5.out.mono (Nat.le_trans HB1.out.size (Nat.le_trans HB2.out.size (Nat.le_trans HB3.out.size HB4.out.size)))))
  have N3 := Lib.hid (number_any rs3 w3.heap.size A3 c3 w5 (by omega) ((HC3.out.below HB4.out).below (HB5.out.mono HB4.out.size)))
  have N4 := Lib.hid (number_any rs4 w4.heap.size A4 c4 w5 (by omega) (HC4.out.below HB5.out))
  have V1 := run_convert_cells (P := Tryz.prog) w5 107 9 21 w1.heap.size A1 c1 rs1 Tryz.underlying107 Tryz.underlying21 Tryz.underlying9 ((((HC1.out.below HB2.out).below (HB3.out.mono HB2.out.size)).below (HB4.out.mono (Nat.le_trans HB2.out.size HB3.out.size))).below (HB5.out.mono (Nat.le_trans HB2.out.size (Nat.le_trans HB3.out.size HB4.out.size))))
  have V2 := run_convert_cells (P := Tryz.prog) w5 107 9 21 w2.heap.size A2 c2 rs2 Tryz.underlying107 Tryz.underlying21 Tryz.underlying9 (((HC2.out.below HB3.out).below (HB4.out.mono HB3.out.size)).below (HB5.out.mono (Nat.le_trans HB3.out.size HB4.out.size)))
  have S1 := HW1.out.str [112] (by decide) (by decide)
  have S2 := HW2.out.str [99, 110, 102] (by decide) (by decide)
  have S5 : rs5.length = 0 ↔ p5.1 = [] := ⟨fun h => List.eq_nil_of_length_eq_zero (HW5.out.len.2.2 h), fun h => by have := HW5.out.len.2.1; rw [h] at this; simpa using this⟩
  have e3 := HW3.out.num
  have e4 := HW4.out.num
  rw [e3] at N3
  rw [e4] at N4
  clear e3 e4 HW1 HW2 HW3 HW4 HW5 HC1 HC2 HC3 HC4 HC5 HB1 HB2 HB3 HB4 HB5
  generalize runesBytes rs1 = s1 at V1 S1
  generalize runesBytes rs2 = s2 at V2 S2
  generalize numOf p3.1 = o3 at HH N3
  generalize numOf p4.1 = o4 at HH N4
  have NN3 : ∀ n b, o3.getD 0 = n → o3.isSome = b → Calls Tryz.prog 60 #[.slice A3 rs3.length c3] w5 fun e w' => e = .returned (.tuple #[.int .i64 n, .bool b]) ∧ w5 = w' := by
    rintro n b rfl rfl; exact N3.out
  have NN4 : ∀ n b, o4.getD 0 = n → o4.isSome = b → Calls Tryz.prog 60 #[.slice A4 rs4.length c4] w5 fun e w' => e = .returned (.tuple #[.int .i64 n, .bool b]) ∧ w5 = w' := by
    rintro n b rfl rfl; exact N4.out
  clear N3 N4
  obtain ⟨n3, hn3⟩ : ∃ n, o3.getD 0 = n := ⟨_, rfl⟩
  obtain ⟨b3, hb3⟩ : ∃ n, o3.isSome = n := ⟨_, rfl⟩
  obtain ⟨n4, hn4⟩ : ∃ n, o4.getD 0 = n := ⟨_, rfl⟩
  obtain ⟨b4, hb4⟩ : ∃ n, o4.isSome = n := ⟨_, rfl⟩
  have M3 := Lib.hid (NN3 n3 b3 hn3 hb3)
  have M4 := Lib.hid (NN4 n4 b4 hn4 hb4)
  have t1 : s1.toList = s1.data.toList := bytes_toList s1
  have t2 : s2.toList = s2.data.toList := bytes_toList s2
  have F1 : ¬ s1.toList = [112] → headerOf (wordsOf l) = none := fun h => by rw [t1] at h; rw [HH.out, if_neg (fun q => h (S1.2 q.1))]
  have F2 : ¬ s2.toList = [99, 110, 102] → headerOf (wordsOf l) = none := fun h => by rw [t2] at h; rw [HH.out, if_neg (fun q => h (S2.2 q.2.1))]
  have F3 : ¬ b3 = true → headerOf (wordsOf l) = none := fun h => by
    rcases o3 with _ | x
    · rw [HH.out]; split <;> simp
    · exact absurd hb3.symm h
  have F4 : ¬ b4 = true → headerOf (wordsOf l) = none := fun h => by
    rcases o4 with _ | x
    · rw [HH.out]; split
      · rcases o3 with _ | y <;> rfl
      · rfl
    · exact absurd hb4.symm h
  have F5 : 0 < rs5.length → headerOf (wordsOf l) = none := fun h => by rw [HH.out, if_neg (fun q => by have := S5.2 q.2.2; omega)]
  have F6 : s1.toList = [112] → s2.toList = [99, 110, 102] → b3 = true → b4 = true → ¬ 0 < rs5.length → headerOf (wordsOf l) = some (n3, n4) := fun a b c d e => by
    rw [t1] at a
    rw [t2] at b
    rw [HH.out, if_pos ⟨S1.1 a, S2.1 b, S5.1 (by omega)⟩]
    rcases o3 with _ | y
    · rw [← hb3] at c; cases c
    rcases o4 with _ | z
    · rw [← hb4] at d; cases d
    rw [← hn3, ← hn4]; rfl
  have G1 := Lib.hid F1
  have G2 := Lib.hid F2
  have G3 := Lib.hid F3
  have G4 := Lib.hid F4
  have G5 := Lib.hid F5
  have G6 := Lib.hid F6
  clear S1 S2 S5 HH hn3 hb3 hn4 hb4 NN3 NN4 t1 t2 F1 F2 F3 F4 F5 F6
  go_wp2_with (go_at_call 60; refine M3.out.mono ?_; rintro e w' ⟨rfl, rfl⟩; clear M3)
  go_wp2_with (go_at_call 60; refine M4.out.mono ?_; rintro e w' ⟨rfl, rfl⟩; clear M4)
  all_goals
    go_ret3
    refine ⟨?_, HB.out⟩
    first
    | (rw [G6.out (by assumption) (by assumption) (by assumption) (by assumption) (by assumption)]; rfl)
    | (rw [G5.out (by assumption)]; rfl)
    | (rw [G4.out (by assumption)]; rfl)
    | (rw [G3.out (by assumption)]; rfl)
    | (rw [G2.out (by assumption)]; rfl)
    | (rw [G1.out (by assumption)]; rfl)
end Go.Proofs.YtnjcegjcaaplgaaGreatDoor
