/- The statement on room, walked. -/
import Derived.Test.YtnjcegjcaaplgaaFit05
import Derived.Deep.LoopGhost
namespace Go.Proofs.Ytnjcegjcaaplgaa
open Go.RowKit
set_option linter.unusedVariables false

theorem made_zeros (n : Nat) : (madeCells (Value.int .i64 0).cells (n * 1)).toList = (List.replicate n (0 : Int)).map (Value.int .i64) := by
  apply List.ext_getElem
  · simp [madeCells]
  · intro i h1 h2
    simp [madeCells, Value.cells, Nat.mod_one]

/-- a row of one's own stays what it is, whatever the arena does -/
theorem own_turn {w w' : World} {g b base e n : Nat} {gw : Option Nat} {v : Value} {xs : List Value} (h : w.ownsRow base e 1 v n xs) (ht : Turn w w' g b gw) (hk : ∀ k, v.ownBlock = some k → k ≠ g ∧ k ≠ b ∧ some k ≠ gw) : w'.ownsRow base e 1 v n xs := by
  refine ⟨h.1, ?_⟩
  rcases h.2 with hn | ⟨k, cap, cur, rfl, hg, hgg, rest⟩
  · exact .inl hn
  · obtain ⟨h1, h2, h3⟩ := hk k rfl
    exact .inr ⟨k, cap, cur, rfl, hg, by rw [ht.block k (Array.getElem?_eq_some_iff.1 hgg).1 h1 h2 h3]; exact hgg, rest⟩
theorem own_source {w : World} {g b base e c : Nat} {gw : Option Nat} {A : Option Addr} {xs : List Int} (h : w.ownsRow base e 1 (.slice A xs.length c) xs.length (xs.map (Value.int .i64))) (hk : ∀ k, (Value.slice A xs.length c).ownBlock = some k → k ≠ g ∧ k ≠ b ∧ some k ≠ gw) :
    ∀ w', Turn w w' g b gw → Ints w' w'.heap.size A xs := fun _ ht => ints_of_own (own_turn h ht hk)
/-- a row made just now -/
theorem Ar.made_source {w w1 : World} {base g b e c : Nat} {gw : Option Nat} {lim : Int} {cs : List Cl} (h : Ar w base g b gw lim cs) {A : Option Addr} {xs : List Int} (ho : w1.ownsRow w.heap.size e 1 (.slice A xs.length c) xs.length (xs.map (Value.int .i64))) :
    ∀ w', Turn w1 w' g b gw → Ints w' w'.heap.size A xs :=
  own_source ho fun k hk => by
    have h1 := (ho.lt k hk).1
    exact ⟨by have := h.glt; omega, by have := h.blt; omega, by intro e; have := (h.wlt _ e.symm).2; omega⟩

section
variable {w : World} {base g b : Nat} {gw : Option Nat} {lim : Int} {cs : List Cl}
theorem add_room_n (h : Ar w base g b gw lim cs) (A : Option Addr) (xs : List Int) (n c : Nat) (hn : xs.length = n) (ln : Bool) (glue : Int) (ht : total cs + n + 3 ≤ 1099511627776) (h0 : -9223372036854775808 ≤ lim) (h1 : lim ≤ 9223372036854775807) (hl : lim ≤ 0 ∨ total cs + 3 + n ≤ lim)
    (hx : ∀ w', Turn w w' g b gw → Ints w' w'.heap.size A xs) :
    Calls Try.prog 8 #[.pointer (some ⟨g, 0, none⟩), .slice A n c, .bool ln, .int .i64 glue] w fun e w' => e = .returned (.tuple #[.int .i64 (total cs), .bool true]) ∧
      (∃ gw', Ar w' base g b gw' lim (cs ++ [⟨xs, ln, least glue, 0, true⟩]) ∧ Later w gw gw') ∧ Turn w w' g b gw := by
  subst hn
  exact add_room h A xs c ln glue ht h0 h1 hl hx
end
end Go.Proofs.Ytnjcegjcaaplgaa
