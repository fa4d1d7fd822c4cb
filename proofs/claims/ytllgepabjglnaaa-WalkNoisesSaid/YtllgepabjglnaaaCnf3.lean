/- What Clone and Copy answer. -/
import Derived.Test.YtllgepabjglnaaaCnf
import Derived.Test.YtllgepabjglnaaaOwnRows
import Derived.Deep.DeepCutAuto
import Derived.Deep.RegionHeld3
import Derived.WalkSpells
namespace Go.Proofs.Ytllgepabjglnaaa
open Go.RowKit

theorem Try.infoInt3 : (Try.prog.info? 3).map (fun i => (i.zero, i.size, i.bytes)) = some (some (.int .i64 0), 1, 8) := by kernel_rfl
theorem Try.infoInts : (Try.prog.info? 48).map (fun i => (i.zero, i.size, i.bytes)) = some (some (.slice none 0 0), 1, 24) := by kernel_rfl

/-- a copy of a row -/
def Cloned (e : TypeId) (n : Nat) (f : Nat → Value) (w : World) (r : Ending) (w' : World) : Prop :=
  ∃ A c, r = .returned (.slice A n c) ∧ w'.ownsRow w.heap.size e 1 (.slice A n c) n ((List.range n).map f) ∧ Below w.heap.size w w'

theorem clone_ints_any (n : Nat) (f : Nat → Value) (B : Nat) (A : Option Addr) (c : Nat) (w : World) (hn : n ≤ 1099511627776) (h1 : ∀ j, j < n → (f j).oneCell' = true) (h : Cells w B A n f) (hB : B ≤ w.heap.size) :
    Calls Try.prog 37 #[.slice A n c] w (Cloned 3 n f w) := by
  have hnil := fun (w : World) (a : Option Addr) (n c : Nat) => Lib.run_eql_slice_nil (P := Try.prog) w 48 3 a n c 0 0 Try.underlying48
  obtain ⟨i0, hi, hz0, hz1, hz2⟩ := info_parts Try.infoInt3
  have H := Lib.hid h
  have H1 := Lib.hid h1
  clear h h1
  rcases A with _ | ad
  · go_enter Try.func37, Try.ntmps37
    go_wp2
    go_ret
    have h0 : n = 0 := by
      rcases Nat.eq_zero_or_pos n with h0 | h0
      · exact h0
      · obtain ⟨b, off, e, _⟩ := H.out h0
        cases e
    subst h0
    exact ⟨_, _, rfl, World.ownsRow_nil _ _ _ _, Below.refl _ _⟩
  · go_enter Try.func37, Try.ntmps37
    go_wp2_with (at_builtin; refine wpList_append_cells _ rfl _ _ 48 rfl w.heap.size 3 i0 (.int .i64 0) 8 Try.underlying48 hi hz0 hz1 hz2 rfl _ 0 [] rfl (World.ownsRow_lit w #[] 0 (Nat.le_refl _) (Nat.zero_le _) rfl) B _ n _ f rfl (H.out.alloc hB _) H1.out (by unfold maxLen; omega) (by omega) (by simp) ?_)
    intro v' w1 hown hg _
    have HO := Lib.hid hown
    have HG := Lib.hid hg
    clear hown hg
    go_wp2
    go_ret
    have ho : w1.ownsRow w.heap.size 3 1 v' n ((List.range n).map f) := by simpa using HO.out
    obtain ⟨A', c', hv', _⟩ := own_slice ho
    rw [hv'] at ho ⊢
    refine ⟨_, _, rfl, ho, ((Below.refl _ _).alloc (Nat.le_refl _) _).grown HG.out (by simp) (fun k hk => ?_)⟩
    simp [Value.ownBlock] at hk
    omega

theorem range_map_ints (xs : List Int) : (List.range xs.length).map (fun j => Value.int .i64 (xs.getD j 0)) = xs.map (Value.int .i64) := by
  apply List.ext_getElem
  · simp
  · intro i h1 h2
    simp at h1
    simp [List.getD, h1]
theorem rows_fn {w : World} {B : Nat} {A : Option Addr} {xss : List (List Int)} (h : Rows w B A xss) :
    ∃ f : Nat → Value, (∀ j, j < xss.length → (f j).oneCell' = true) ∧ Cells w B A xss.length f ∧ (∀ j, j < xss.length → ∃ Aj cj, f j = .slice Aj (xss.getD j []).length cj ∧ Ints w B Aj (xss.getD j [])) := by
  rcases Nat.eq_zero_or_pos xss.length with h0 | h0
  · exact ⟨fun _ => undef, fun j hj => by omega, fun hj => by omega, fun j hj => by omega⟩
  · obtain ⟨b, off, e, hb, hc⟩ := h h0
    have : ∀ j, ∃ v : Value, j < xss.length → w.cell? ⟨b, off + j, none⟩ = some v ∧ v.oneCell' = true ∧ ∃ Aj cj, v = .slice Aj (xss.getD j []).length cj ∧ Ints w B Aj (xss.getD j []) := by
      intro j
      by_cases hj : j < xss.length
      · obtain ⟨Aj, cj, h1, h2⟩ := hc j hj
        exact ⟨_, fun _ => ⟨h1, rfl, Aj, cj, rfl, h2⟩⟩
      · exact ⟨undef, fun h => absurd h hj⟩
    refine ⟨fun j => Classical.choose (this j), fun j hj => (Classical.choose_spec (this j) hj).2.1, fun _ => ⟨b, off, e, hb, fun j hj => (Classical.choose_spec (this j) hj).1⟩, fun j hj => (Classical.choose_spec (this j) hj).2.2⟩

/-- a copy of a formula -/
def Copied (V : Int) (xss : List (List Int)) (w : World) (e : Ending) (w' : World) : Prop :=
  ∃ A c vs, e = .returned (.agg #[.int .i64 V, .slice A xss.length c]) ∧ w'.ownsRow w.heap.size 48 1 (.slice A xss.length c) xss.length vs ∧ OwnList w' w.heap.size 3 vs xss ∧ Below w.heap.size w w'
end Go.Proofs.Ytllgepabjglnaaa
