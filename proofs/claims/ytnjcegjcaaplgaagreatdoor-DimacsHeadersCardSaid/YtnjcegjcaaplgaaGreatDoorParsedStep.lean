/- One word more, as mathematics: what a word of a line does. -/
import Derived.Test.YtnjcegjcaaplgaaGreatDoorParsedMem
import Derived.WalkKit
import Derived.Handy
namespace Go.Proofs.YtnjcegjcaaplgaaGreatDoor
theorem body_wrong {r : Rd} {x : List UInt8} {rest : List (List UInt8)} (h : itemOf x = none) : takeBody r (x :: rest) = (r, 3) := by
  unfold takeBody; rw [h]
theorem body_err {r r' : Rd} {x : List UInt8} {rest : List (List UInt8)} {n E : Int} (h : itemOf x = some n) (he : takeItem r n = (r', E)) (hE : E ≠ 0) : takeBody r (x :: rest) = (r', E) := by
  unfold takeBody; rw [h]; simp only [he]; rw [if_neg hE]
theorem body_ok {r r' : Rd} {x : List UInt8} {rest : List (List UInt8)} {n : Int} (h : itemOf x = some n) (he : takeItem r n = (r', 0)) : takeBody r (x :: rest) = takeBody r' rest := by
  conv => lhs; unfold takeBody
  rw [h]; simp only [he]; rw [if_pos trivial]
theorem item_many {r : Rd} {n : Int} (h : (r.cls.length : Int) = r.stated) : takeItem r n = (r, 5) := by unfold takeItem; rw [if_pos h]
theorem item_zero {r : Rd} (h : ¬ (r.cls.length : Int) = r.stated) : takeItem r 0 = ({ r with cls := r.cls ++ [r.opn], opn := [] }, 0) := by unfold takeItem; rw [if_neg h, if_pos rfl]
theorem item_range {r : Rd} {n : Int} (h : ¬ (r.cls.length : Int) = r.stated) (h0 : n ≠ 0) (hv : r.vars < (n.natAbs : Int)) : takeItem r n = (r, 4) := by unfold takeItem; rw [if_neg h, if_neg h0, if_pos hv]
theorem item_full {r : Rd} {n : Int} (h : ¬ (r.cls.length : Int) = r.stated) (h0 : n ≠ 0) (hv : ¬ r.vars < (n.natAbs : Int)) (hl : r.lits = 1000000) : takeItem r n = (r, 8) := by unfold takeItem; rw [if_neg h, if_neg h0, if_neg hv, if_pos hl]
theorem item_add {r : Rd} {n : Int} (h : ¬ (r.cls.length : Int) = r.stated) (h0 : n ≠ 0) (hv : ¬ r.vars < (n.natAbs : Int)) (hl : ¬ r.lits = 1000000) : takeItem r n = ({ r with opn := r.opn ++ [n] }, 0) := by unfold takeItem; rw [if_neg h, if_neg h0, if_neg hv, if_neg hl]
theorem lits_close (r : Rd) : Rd.lits { r with cls := r.cls ++ [r.opn], opn := [] } = r.lits := by simp [Rd.lits, litCount]
theorem lits_add (r : Rd) (n : Int) : Rd.lits { r with opn := r.opn ++ [n] } = r.lits + 1 := by simp [Rd.lits]; omega
theorem size_close (r : Rd) : Rd.size { r with cls := r.cls ++ [r.opn], opn := [] } = r.size + 1 := by
  show (r.cls ++ [r.opn]).length + Rd.lits { r with cls := r.cls ++ [r.opn], opn := [] } = r.cls.length + r.lits + 1
  rw [lits_close]; simp; omega
theorem size_add (r : Rd) (n : Int) : Rd.size { r with opn := r.opn ++ [n] } = r.size + 1 := by
  show r.cls.length + Rd.lits { r with opn := r.opn ++ [n] } = r.cls.length + r.lits + 1
  rw [lits_add]; omega
theorem numG_le (s : List UInt8) : numG s ≤ 999999999 := by
  unfold numG
  rcases h : numOf s with _ | n
  · decide
  · exact (num_some h).2.1
theorem size_parts (r : Rd) : r.cls.length ≤ r.size ∧ r.opn.length ≤ r.size := by unfold Rd.size Rd.lits; omega

theorem results_cell2 {P : Program} {fn : Func} {c a b : Tmp} {T : TypeId} (h : fn.results = #[.cell c T, .tmp a, .tmp b]) {tmps : Array Value} {w : World} {v0 va vb : Value} {ad : Addr} (hc : tmps.getD c undef = .pointer (some ad)) (ha : tmps.getD a undef = va) (hb : tmps.getD b undef = vb)
    (hl : (loadVar T ad).run P w = .ok v0 w) : (results fn tmps).run P w = .ok (.tuple #[v0, va, vb]) w := by
  rw [Array.getD_eq_getD_getElem?] at hc ha hb
  simp [results, h, hc, ha, hb, hl, asAddr]

theorem load_form {b : Nat} {x y : Value} {w : World} (h0 : w.cell? ⟨b, 0, none⟩ = some x) (h1 : w.cell? ⟨b, 1, none⟩ = some y) : (loadVar 28 ⟨b, 0, none⟩).run Tryz.prog w = .ok (.agg #[x, y]) w := by
  simp [go_sem, h0, h1]
end Go.Proofs.YtnjcegjcaaplgaaGreatDoor
