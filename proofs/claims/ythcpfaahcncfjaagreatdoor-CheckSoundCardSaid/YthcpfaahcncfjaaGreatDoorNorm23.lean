/- What the search by halves answers in a clause in normal form; a literal and its negation. What Clause, Tautology, Same and Without answer. -/
import Derived.Test.YthcpfaahcncfjaaGreatDoorNorm
namespace Go.Proofs.YthcpfaahcncfjaaGreatDoor
open Go.RowKit

theorem bs_spec {ys : List Int} {t : Int} {i : Nat} (hr : Rising ys) (hi : i ≤ ys.length) (h1 : ∀ k, k < i → litIndex (ys.getD k 0) < litIndex t) (h2 : ∀ k, i ≤ k → k < ys.length → litIndex t ≤ litIndex (ys.getD k 0)) :
    ys.contains t = decide (i < ys.length ∧ ys.getD i 0 = t) := by
  rw [Bool.eq_iff_iff, decide_eq_true_iff, List.contains_iff_mem]
  have get : ∀ k (hk : k < ys.length), ys.getD k 0 = ys[k] := fun k hk => by simp [List.getD, hk]
  constructor
  · intro hm
    obtain ⟨p, hp, e⟩ := List.getElem_of_mem hm
    have hpi : i ≤ p := by
      rcases Nat.lt_or_ge p i with h | h
      · have := h1 p h; rw [get p hp, e] at this; omega
      · exact h
    have : p = i := by
      rcases Nat.lt_or_ge i p with h | h
      · have a := List.pairwise_iff_getElem.1 hr i p (by omega) hp h
        have b := h2 i (Nat.le_refl _) (by omega)
        rw [get i (by omega)] at b
        rw [e] at a
        omega
      · omega
    subst this
    exact ⟨hp, by rw [get p hp, e]⟩
  · rintro ⟨hlt, e⟩
    rw [get i hlt] at e
    rw [← e]
    exact List.getElem_mem hlt

namespace Go.Proofs.YthcpfaahcncfjaaGreatDoor
open Go.RowKit

theorem sort_none : SortNone Tryz.prog 81 := fun p cap fv w => Tryz.slices_SortFunc_none (α := Int) p cap fv w
theorem norm_clause_any (xs : List Int) (B : Nat) (A : Option Addr) (c : Nat) (w : World) (hx : Lits xs) (h : Ints w B A xs) (hB : B ≤ w.heap.size) :
    Calls Tryz.prog 59 #[.slice A xs.length c] w (OwnInts (normOf xs) w) := norm_clause_of sort_none xs B A c w hx h hB

/-- literals within bounds -/
abbrev L6 := { x : Int // -1000000 ≤ x ∧ x ≤ 1000000 }
instance : Inhabited L6 := ⟨⟨0, by omega, by omega⟩⟩
def enc6 (x : L6) : Value := .int .i64 x.1
theorem list6 (xs : List Int) (h : ∀ x ∈ xs, -1000000 ≤ x ∧ x ≤ 1000000) : ∃ ds : List L6, xs = ds.map (·.1) := by
  induction xs with
  | nil => exact ⟨[], rfl⟩
  | cons x r ih =>
    obtain ⟨ds, hd⟩ := ih fun y hy => h y (List.mem_cons_of_mem _ hy)
    exact ⟨⟨x, h x (by simp)⟩ :: ds, congrArg (x :: ·) hd⟩

theorem delete_none_any (p : Option Addr) (c : Nat) (fv : Value) (w : World) :
    Calls Tryz.prog 47 #[.slice p 0 c, fv] w fun e w' => e = .returned (.slice p 0 c) ∧ w' = w := by
  go_enter Tryz.func47, Tryz.ntmps47
  go_wp2_with (go_at_call 71; refine (Tryz.slices_IndexFunc_empty (α := Int) _ _ _ _).mono ?_; rintro e w' ⟨rfl, rfl⟩)
  go_ret
  exact ⟨rfl, rfl⟩
end Go.Proofs.YthcpfaahcncfjaaGreatDoor
