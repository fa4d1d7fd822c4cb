/- The anchor of the third layer's statements. -/
import Derived.Test.YtnjcegjcaaplgaaGreatDoorErrsAs2
import Derived.Test.YtnjcegjcaaplgaaGreatDoorPrint
import Derived.Lib.ItoaMem
namespace Go.Proofs.YtnjcegjcaaplgaaGreatDoor
open Go.RowKit
set_option linter.unusedSimpArgs false
set_option linter.unusedVariables false
set_option linter.unnecessarySimpa false

theorem itoa_small {u : Nat} (h : u < 10) : Lib.itoa (u : Int) = [UInt8.ofNat (48 + u)] := by rw [Lib.itoa_nonneg, Lib.decDigits_one h]
theorem itoa_minus {u : Nat} (h0 : 1 ≤ u) (h : u < 10) : Lib.itoa (-(u : Int)) = [45, UInt8.ofNat (48 + u)] := by rw [Lib.itoa_neg u h0, Lib.decDigits_one h]

theorem fit_parse1 : parseOf [99, 32, 120, 10, 112, 32, 99, 110, 102, 32, 49, 32, 50, 10, 49, 32, 48, 32, 45, 49, 10, 48] = .ok 1 [[1], [-1]] := by kernel_rfl
theorem fit_parse2 : parseOf [112, 32, 99, 110, 102, 32, 49, 32, 49, 10, 50, 32, 48] = .bad 2 4 := by kernel_rfl
theorem fit_text : formText 1 [[1], [-1]] = [112, 32, 99, 110, 102, 32, 49, 32, 50, 10, 49, 32, 48, 10, 45, 49, 32, 48, 10] := by
  have h1 : Lib.itoa 1 = [49] := itoa_small (u := 1) (by decide)
  have h2 : Lib.itoa 2 = [50] := itoa_small (u := 2) (by decide)
  have h3 : Lib.itoa (-1) = [45, 49] := itoa_minus (u := 1) (by decide) (by decide)
  have e : formText 1 [[1], [-1]] = (([112, 32, 99, 110, 102, 32] ++ Lib.itoa 1 ++ [32] ++ Lib.itoa 2 ++ [10]) : List UInt8) ++ ((Lib.itoa 1 ++ [32]) ++ [] ++ [48, 10] ++ (((Lib.itoa (-1) ++ [32]) ++ [] ++ [48, 10]) ++ [])) := rfl
  rw [e, h1, h2, h3]; rfl

/-- what a statement's world must hold: the library's variables that are read -/
structure Env (m : Int) (w : World) : Prop where
  max : w.cell? ⟨1, 0, none⟩ = some (.int .i64 m)
  tab : Tab w
  tabLt : 2 < w.heap.size
theorem Env.maxLt {m : Int} {w : World} (h : Env m w) : 1 < w.heap.size := by
  have := World.block_lt_of_cell? w _ h.max
  simpa using this
theorem Env.below {m : Int} {w w' : World} {B : Nat} (h : Env m w) (hb : Below B w w') (h1 : 1 < B) (h2 : 2 < B) : Env m w' :=
  ⟨(hb.cell (p := ⟨1, 0, none⟩) h1).trans h.max, h.tab.below hb h2, Nat.lt_of_lt_of_le h.tabLt hb.size⟩
theorem Env.same {m : Int} {w w' : World} (h : Env m w) (hb : Below w.heap.size w w') : Env m w' := h.below hb h.maxLt h.tabLt

set_option maxRecDepth 100000 in
set_option maxHeartbeats 4000000 in
theorem fit03_any (m : Int) (w : World) (hE : Env m w) :
    Calls Tryz.prog 4 #[] w fun e w' => e = .returned (.bool true) ∧ Below w.heap.size w w' := by
  have E0 := Lib.hid hE
  have P1 := Lib.hid (parse_any [99, 32, 120, 10, 112, 32, 99, 110, 102, 32, 49, 32, 50, 10, 49, 32, 48, 32, 45, 49, 10, 48] m w (by decide) hE.max)
  rw [fit_parse1] at P1
  clear hE
  go_enter Tryz.func4, Tryz.ntmps4
  go_wp2_with (go_at_call 5; refine P1.out.mono ?_)
  rintro e w1 ⟨A, c, rfl, hr1, hb1⟩
  have HR1 := Lib.hid hr1
  have HB1 := Lib.hid hb1
  have E1 := Lib.hid (E0.out.same hb1)
  clear hr1 hb1 P1
  have hba : Below w1.heap.size w1 (w1.alloc (.cells #[.int .i64 1, .slice A 2 c] 28)) := (Below.refl _ _).alloc (Nat.le_refl _) _
  have P2 := Lib.hid (parse_any [112, 32, 99, 110, 102, 32, 49, 32, 49, 10, 50, 32, 48] m (w1.alloc (.cells #[.int .i64 1, .slice A 2 c] 28)) (by decide) (E1.out.same hba).max)
  rw [fit_parse2] at P2
  clear hba
  go_wp2_with (go_at_call 5; refine P2.out.mono ?_)
  rintro e w2 ⟨g, rfl, hg, hf, hb2⟩
  have HF := Lib.hid hf
  have HB2 := Lib.hid hb2
  clear hf hb2 P2
  obtain ⟨w3, hw3⟩ : ∃ w3, w3 = w2.alloc (.cells #[.int .i64 0, .slice none 0 0] 28) := ⟨_, rfl⟩
  have hb13 : Below w1.heap.size w1 w3 := by
    rw [hw3]
    have h1 : Below w1.heap.size w1 (w1.alloc (.cells #[.int .i64 1, .slice A 2 c] 28)) := (Below.refl _ _).alloc (Nat.le_refl _) _
    have h2 := h1.trans (HB2.out.mono (by simp))
    exact h2.alloc h2.size _
  have hbox : Blk w3 w1.heap.size 28 #[.int .i64 1, .slice A 2 c] := by
    rw [hw3]; exact ((Blk.new w1 28 #[.int .i64 1, .slice A 2 c]).below HB2.out (by simp)).alloc _
  have hflt : Blk w3 g 43 #[.int .i64 2, .int .i64 4] := by rw [hw3]; exact HF.out.alloc _
  have hrows := HR1.out.below hb13
  have hE3 := E1.out.same hb13
  obtain ⟨b, off, A1, c1, hA, hbB, hck, hik⟩ := hrows.at_ (k := 1) (by decide)
  obtain ⟨b1, o1, hA1, hb1B, hcl⟩ := hik.at_ (k := 0) (by decide)
  have x0 := hbox.cell 0
  have x1 := hbox.cell 1
  simp at x0 x1
  have y1 : w3.cell? ⟨b, off + 1, none⟩ = some (.slice A1 1 c1) := hck
  have y0 : w3.cell? ⟨b1, o1, none⟩ = some (.int .i64 (-1)) := hcl
  have PR := Lib.hid (fun (A' : Option Addr) (e : A' = A) => print_any 1 [[1], [-1]] w1.heap.size A' c w3 (by rw [e]; exact hrows) (Nat.le_trans hb13.size (Nat.le_refl _)) hE3.tab hE3.tabLt (by decide) (by decide) (by decide)
    (by rw [fit_text]; decide) (fun j => by rcases j with _ | _ | j <;> simp [List.getD]) (fun j k => by rcases j with _ | _ | j <;> rcases k with _ | k <;> simp [List.getD]))
  rw [show ([[1], [-1]] : List (List Int)).length = 2 from rfl, fit_text] at PR
  have IS := Lib.hid (is_fault g 2 4 4 w3 hflt)
  have HB := Lib.hid (HB1.out.trans (hb13.mono HB1.out.size))
  subst hA hA1
  rw [show ((4 : Int) == 4) = true from rfl] at IS
  clear hbox hflt hrows hE3 hck hik hcl hb13 HR1 HF
  rw [hw3] at x0 x1 y1 y0 PR IS HB
  clear hw3
  go_wp2_with (first
    | (go_at_call 7; refine IS.out.mono ?_; rintro e w' ⟨rfl, rfl⟩; clear IS)
    | (go_at_call 11; refine (PR.out _ rfl).mono ?_; rintro e w4 ⟨rfl, hb4⟩; have HB4 := Lib.hid hb4; clear hb4 PR x0 x1 y0 y1))
  go_ret
  exact ⟨rfl, HB.out.trans (HB4.out.mono HB.out.size)⟩
end Go.Proofs.YtnjcegjcaaplgaaGreatDoor
