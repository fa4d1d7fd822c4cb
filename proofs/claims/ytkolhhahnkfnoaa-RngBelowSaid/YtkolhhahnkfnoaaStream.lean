/- What package rng answers: a stream. -/
import Derived.Test.YtkolhhahnkfnoaaRng
namespace Go.Proofs.Ytkolhhahnkfnoaa
open Go.RowKit
set_option linter.unusedVariables false
set_option linter.unusedSimpArgs false

/-- a stream: its struct in block b, its words somewhere below -/
structure Strm (w : World) (B b : Nat) (ws : List Nat) (last drawn : Nat) : Prop where
  ex : ∃ A c, Blk w b 39 #[.slice A ws.length c, .int .u64 last, .int .i64 drawn] ∧ KInts .u64 w b A (ws.map (fun (x : Nat) => (x : Int))) ∧ ws.length ≤ c ∧ (∀ g o, 0 < ws.length → A = some ⟨g, o, none⟩ → B ≤ g)
  last : last < 2 ^ 64
  low : B ≤ b
  wide : ∀ x ∈ ws, x < 2 ^ 64
  small : ws.length ≤ 1000000
/-- nothing turns but block b -/
def Only (b : Nat) (w w' : World) : Prop := ∃ p v q u, p.block = b ∧ q.block = b ∧ w' = (w.setCell p v).setCell q u
section
variable {w w' : World} {b : Nat}
theorem Only.below (h : Only b w w') {B : Nat} (hB : B ≤ b) : Below B w w' := by
  obtain ⟨p, v, q, u, h1, h2, rfl⟩ := h
  exact ((Below.refl _ _).setCell (by omega) _).setCell (by omega) _
theorem Only.blk (h : Only b w w') {g : Nat} {t : TypeId} {cs : Array Value} (hb : Blk w g t cs) (hg : g ≠ b) : Blk w' g t cs := by
  obtain ⟨p, v, q, u, h1, h2, rfl⟩ := h
  exact (hb.far (by omega) _).far (by omega) _
theorem Only.size (h : Only b w w') : w'.heap.size = w.heap.size := by
  obtain ⟨p, v, q, u, h1, h2, rfl⟩ := h
  simp
theorem Only.cell (h : Only b w w') {r : Addr} (hr : r.block ≠ b) : w'.cell? r = w.cell? r := by
  obtain ⟨p, v, q, u, h1, h2, rfl⟩ := h
  rw [World.cell?_setCell_other _ _ _ _ (fun e => by subst e; omega), World.cell?_setCell_other _ _ _ _ (fun e => by subst e; omega)]
theorem Only.cells (h : Only b w w') {B n : Nat} {A : Option Addr} {f : Nat → Value} (hc : Cells w B A n f) (hn : ∀ g o, 0 < n → A = some ⟨g, o, none⟩ → g ≠ b) : Cells w' B A n f := fun h0 => by
  obtain ⟨g, off, e, hb, hcc⟩ := hc h0
  exact ⟨g, off, e, hb, fun j hj => (h.cell (by exact hn g off h0 e)).trans (hcc j hj)⟩
theorem Strm.lt {B : Nat} {ws : List Nat} {last drawn : Nat} (h : Strm w B b ws last drawn) : b < w.heap.size := by
  obtain ⟨A, c, h1, _⟩ := h.ex; exact h1.lt
/-- another stream stays as it was -/
theorem Strm.only {B : Nat} {ws : List Nat} {last drawn b' : Nat} (h : Strm w B b' ws last drawn) (ho : Only b w w') (hb : b < B) : Strm w' B b' ws last drawn := by
  obtain ⟨A, c, h1, h2, h3, h4⟩ := h.ex
  have hl := h.low
  exact ⟨⟨A, c, ho.blk h1 (by omega), ho.cells h2 (fun g o hn e => by have := h4 g o (by simpa using hn) e; omega), h3, h4⟩, h.last, h.low, h.wide, h.small⟩
theorem Strm.below {B B' : Nat} {ws : List Nat} {last drawn : Nat} (h : Strm w B b ws last drawn) (hb : Below B' w w') (hB : b < B') : Strm w' B b ws last drawn := by
  obtain ⟨A, c, h1, h2, h3, h4⟩ := h.ex
  exact ⟨⟨A, c, h1.below hb hB, Cells.keep h2 (fun p hp => hb.cell (by omega)), h3, h4⟩, h.last, h.low, h.wide, h.small⟩
end
/-- what comes next, and what is left -/
def nextOf (ws : List Nat) (last : Nat) : Nat := if ws = [] then stepN last else ws.headD 0
def lastOf (ws : List Nat) (last : Nat) : Nat := if ws = [] then stepN last else last

theorem getD_map9 (ws : List Nat) (k : Nat) : (ws.map (fun (x : Nat) => (x : Int))).getD k 0 = ((ws.getD k 0 : Nat) : Int) := by
  simp only [List.getD, List.getElem?_map]
  cases ws[k]? <;> rfl

set_option maxHeartbeats 1000000 in
theorem next_any {w : World} {B b : Nat} {ws : List Nat} {last drawn : Nat} (h : Strm w B b ws last drawn) (hd : drawn ≤ 1000000) :
    Calls Try.prog 11 #[.pointer (some ⟨b, 0, none⟩)] w fun e w' => e = .returned (.int .u64 (nextOf ws last)) ∧ Strm w' B b ws.tail (lastOf ws last) (drawn + 1) ∧ Only b w w' := by
  obtain ⟨A, c, hblk, hc, hcl, hlow⟩ := h.ex
  obtain ⟨ex, hl, hB, hwd, hsm⟩ := h
  have c0 := hblk.cell 0
  have c1 := hblk.cell 1
  have c2 := hblk.cell 2
  have f0 := hblk.frozen 0
  have f1 := hblk.frozen 1
  have f2 := hblk.frozen 2
  simp at c0 c1 c2 f0 f1 f2
  have HBLK := Lib.hid hblk
  have HLOW := Lib.hid hlow
  have HW := Lib.hid hwd
  clear hblk hlow hwd
  rcases ws with _ | ⟨x, ws⟩
  · have HL := Lib.hid hl
    have HC := Lib.hid hc
    clear hc
    simp only [List.length_nil] at c0 hcl
    go_enter Try.func11, Try.ntmps11
    go_wp2_with (go_at_call 15; refine (step_any _ HL.out _).mono ?_; rintro e w' ⟨rfl, rfl⟩)
    go_ret
    exact ⟨rfl, ⟨⟨A, c, by simpa [lastOf] using (HBLK.out.set_ 2 (.int .i64 ((drawn : Int) + 1))).set_ 1 (.int .u64 (stepN last)), fun h0 => (by simp at h0), by simp, fun g o h0 => (by simp at h0)⟩, step_lt HL.out, hB, fun x hx => (by simp at hx), by simp⟩, _, _, _, _, rfl, rfl, rfl⟩
  · obtain ⟨g, o, rfl, hg, hcc⟩ := hc (by simp)
    have hx : w.cell? ⟨g, o, none⟩ = some (.int .u64 x) := by
      have := hcc 0 (by simp)
      simpa using this
    have HC := Lib.hid hcc
    clear hcc hc
    simp only [List.length_cons] at c0 hcl
    obtain ⟨N, hN⟩ : ∃ N, N = ws.length + 1 := ⟨_, rfl⟩
    rw [← hN] at c0 hcl
    have HN := Lib.hid hN
    have hN0 : 0 < N := by omega
    have hN6 : N ≤ 1000000 := by simp at hsm; omega
    clear hN ex hsm
    go_enter Try.func11, Try.ntmps11
    go_wp2
    all_goals go_ret
    all_goals have hn1 := HN.out
    · have h0 : ws = [] := List.eq_nil_of_length_eq_zero (by omega)
      subst h0
      obtain rfl : N = 1 := hn1
      exact ⟨rfl, ⟨⟨some ⟨g, o, none⟩, 0, by simpa [lastOf] using (HBLK.out.set_ 2 (.int .i64 ((drawn : Int) + 1))).set_ 0 (.slice (some ⟨g, o, none⟩) 0 0), fun h0 => (by simp at h0), by simp, fun g o h0 => (by simp at h0)⟩, hl, hB, fun x hx => (by simp at hx), by simp⟩, _, _, _, _, rfl, rfl, rfl⟩
    · have hn2 : N - 1 = ws.length := by omega
      rw [hn2]
      refine ⟨rfl, ⟨⟨some ⟨g, o + 1, none⟩, c - 1, by simpa [lastOf] using (HBLK.out.set_ 2 (.int .i64 ((drawn : Int) + 1))).set_ 0 (.slice (some ⟨g, o + 1, none⟩) ws.length (c - 1)), fun h0 => ⟨g, o + 1, rfl, hg, fun j hj => ?_⟩, by omega, fun g' o' h0 e => ?_⟩, hl, hB, fun x hx => HW.out x (by simp [hx]), by omega⟩, _, _, _, _, rfl, rfl, rfl⟩
      · rw [World.cell?_setCell_other _ _ _ _ (fun e => by injection e with e1; omega), World.cell?_setCell_other _ _ _ _ (fun e => by injection e with e1; omega)]
        have := HC.out (j + 1) (by simpa using hj)
        rw [show o + 1 + j = o + (j + 1) by omega, this]
        simp
      · injection e with e; injection e with e1; subst e1
        exact HLOW.out g o (by simp) rfl
end Go.Proofs.Ytkolhhahnkfnoaa
