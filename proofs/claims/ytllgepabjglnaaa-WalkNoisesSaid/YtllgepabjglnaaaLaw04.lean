/- What the small helpers of the fourth layer's statements answer. -/
import Derived.Test.YtllgepabjglnaaaLit
import Derived.Test.YtllgepabjglnaaaCnf3
import Derived.Test.YtllgepabjglnaaaNormMath
namespace Go.Proofs.Ytllgepabjglnaaa
open Go.RowKit

theorem ints_blk4 {w : World} {B g : Nat} {t : TypeId} {xs : List Int} (h : Blk w g t (xs.map (Value.int .i64)).toArray) (hB : g < B) : Ints w B (some ⟨g, 0, none⟩) xs :=
  fun _ => ⟨g, 0, rfl, hB, fun j hj => by rw [Nat.zero_add, h.cell j]; simp [List.getD, hj]⟩
theorem rows_blk4 {w : World} {B g : Nat} {t : TypeId} {vs : List Value} {xss : List (List Int)} (h : Blk w g t vs.toArray) (hB : g < B)
    (hr : ∀ j, j < xss.length → ∃ Aj cj, vs[j]? = some (.slice Aj (xss.getD j []).length cj) ∧ Ints w B Aj (xss.getD j [])) : Rows w B (some ⟨g, 0, none⟩) xss :=
  fun _ => ⟨g, 0, rfl, hB, fun j hj => by
    obtain ⟨Aj, cj, h1, h2⟩ := hr j hj
    exact ⟨Aj, cj, by rw [Nat.zero_add, h.cell j]; simpa using h1, h2⟩⟩

/-- the literals of raw numbers -/
def clauseOf (ns : List Int) : List Int := ns.filter fun n => n != 0
theorem clauseOf_take {ns : List Int} {k : Nat} (h : k < ns.length) : clauseOf (ns.take (k + 1)) = clauseOf (ns.take k) ++ if ns.getD k 0 = 0 then [] else [ns.getD k 0] := by
  unfold clauseOf
  rw [List.take_succ_eq_append_getElem h, List.filter_append]
  simp only [List.getD, List.getElem?_eq_getElem h, Option.getD_some]
  congr 1
  by_cases h0 : ns[k] = 0 <;> simp [h0]
theorem clauseOf_len (ns : List Int) : (clauseOf ns).length ≤ ns.length := List.length_filter_le _ _
theorem clauseOf_take_len (ns : List Int) (k : Nat) : (clauseOf (ns.take k)).length ≤ k := Nat.le_trans (clauseOf_len _) (by simp; omega)

/-- a row of ints that the call has made for itself -/
def OwnInts (ys : List Int) (w : World) (e : Ending) (w' : World) : Prop :=
  ∃ A c, e = .returned (.slice A ys.length c) ∧ w'.ownsRow w.heap.size 3 1 (.slice A ys.length c) ys.length (ys.map (Value.int .i64)) ∧ Below w.heap.size w w'
end Go.Proofs.Ytllgepabjglnaaa
