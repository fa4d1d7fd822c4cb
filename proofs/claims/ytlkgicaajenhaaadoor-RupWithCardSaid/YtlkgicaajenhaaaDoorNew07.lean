/- New: a store without clauses. -/
import Derived.Test.YtlkgicaajenhaaaDoorImplied07
import Derived.Deep.OwnRows
import Derived.Deep.RegionHeld3
namespace Go.Proofs.YtlkgicaajenhaaaDoor
open Go.RowKit
set_option linter.unusedVariables false
set_option linter.unusedSimpArgs false

theorem infoRow7 : (Tryd.prog.info? 62).map (fun i => (i.zero, i.size, i.bytes)) = some (some (.slice none 0 0), 1, 24) := by kernel_rfl
theorem infoBool7 : (Tryd.prog.info? 4).map (fun i => (i.zero, i.size, i.bytes)) = some (some (.bool false), 1, 1) := by kernel_rfl
/-- a store without clauses -/
def SX.new (s m fb V : Nat) (wb : Nat) : SX := { s := s, m := m, fb := fb, V := V, Aw := some ⟨wb, 0, none⟩, cw := 2 * V, vs := List.replicate (2 * V + 2) (.slice none 0 0), pss := List.replicate (2 * V + 2) [], ps := [], C := fun _ => ⟨0, none, 0, [], 0, 0, 0, false⟩, added := 0, ng := 0, ko := fun _ => 0, tk := 0, ks := [], Af := none, cf := 0, fd := [] }
theorem below_drew7 {B : Nat} {a w : World} (h : Below B a w) : Below B a w.drew := ⟨h.os, h.tape, h.output, h.size, h.block⟩
theorem made_list7 (z : Value) (n : Nat) : (madeCells #[z] n).toList = List.replicate n z := by
  apply List.ext_getElem
  · simp [madeCells]
  · intro i h1 h2
    simp [madeCells, Nat.mod_one]
theorem own_made7 {W : World} {base g n : Nat} {e : TypeId} {z : Value} (h : Blk W g e (madeCells #[z] n)) (hg : base ≤ g) (hn : n ≤ 1000000) : W.ownsRow base e 1 (.slice (some ⟨g, 0, none⟩) n n) n (List.replicate n z) :=
  ⟨by simp, .inr ⟨g, n, _, rfl, hg, h, Nat.le_refl _, by unfold maxLen; omega, by rw [← Array.length_toList, made_list7]; simp, by rw [made_list7]; simp⟩⟩
theorem getD_rep7 {α : Type} (x d : α) (n i : Nat) : (List.replicate n x).getD i d = if i < n then x else d := by
  simp only [List.getD, List.getElem?_replicate]
  split <;> rfl
theorem new_rest7 {W W' : World} {V s m fb wb : Nat} (hV : V ≤ 100000) (hs : Blk W' s 66 #[.int .i64 V, .int .i64 0, .int .i64 0, .slice none 0 0, .slice none 0 0, .slice (some ⟨wb, 0, none⟩) (2 * V) (2 * V), .map (some m), .slice (some ⟨fb, 0, none⟩) (2 * V) (2 * V), .slice none 0 0])
    (hw : Blk W' wb 62 (madeCells #[.slice none 0 0] (2 * V))) (hf : Blk W' fb 4 (madeCells #[.bool false] (2 * V))) (hm0 : W'.heap[m]? = some (.map #[] 0)) (l1 : W.heap.size ≤ s) (l2 : W.heap.size ≤ m) (l3 : W.heap.size ≤ fb) (l4 : W.heap.size ≤ wb) :
    Rest7 W' W.heap.size (SX.new s m fb V wb) (List.replicate (2 * V) false) := by
  have hm : W'.ownsMap Tryd.prog 9 heldE m 0 (.map []) := ⟨#[], 0, hm0, ⟨by simp, Go.MapKept.stamped_empty 0, by simp⟩, Nat.le_refl _, rfl⟩
  have hvs : ∀ j, (SX.new s m fb V wb).vs.getD j undef = if j < 2 * V + 2 then .slice none 0 0 else undef := fun j => getD_rep7 _ _ _ _
  have hps : ∀ j, (SX.new s m fb V wb).pss.getD j [] = [] := fun j => by
    show (List.replicate (2 * V + 2) []).getD j [] = []
    rw [getD_rep7]; split <;> rfl
  have hfr : ∀ j, (List.replicate (2 * V) false).getD j false = false := fun j => by rw [getD_rep7]; split <;> rfl
  refine ⟨⟨?_, ?_, by simp [SX.new], World.ownsRow_nil _ _ _ _, ?_, ⟨by simp [SX.new], fun j hj => ?_, fun i j g hij hi hj h1 h2 => ?_⟩, ⟨by simp [SX.new], List.nodup_nil⟩, fun p hp => (by simp [SX.new] at hp), ⟨_, 0, hm, Nat.zero_le _, Maps.isMap_empty, fun k => ?_⟩, ⟨l1, l3, l2⟩, hV⟩,
    ⟨fun p hp => (by simp [SX.new] at hp), by simp [SX.new], fun j hj => ?_⟩, ⟨by simp [SX.new], fun l hl => ?_, List.nodup_nil, fun l hl => (by simp [SX.new] at hl), fun l hl => (by simp [SX.new] at hl)⟩, rfl, ⟨fun p hp => ?_, fun p hp => (by simp [SX.new] at hp)⟩, ⟨?_, ?_, List.Pairwise.nil, fun p hp => (by simp [SX.new] at hp), rfl, fun p hp => (by simp [SX.new] at hp), fun i k hk => (by simp [SX.new] at hk), fun p hp => (by simp [SX.new, SX.live] at hp), fun i hi => (by simp [SX.new] at hi)⟩⟩
  · have e : (SX.new s m fb V wb).head = #[.int .i64 V, .int .i64 0, .int .i64 0, .slice none 0 0, .slice none 0 0, .slice (some ⟨wb, 0, none⟩) (2 * V) (2 * V), .map (some m), .slice (some ⟨fb, 0, none⟩) (2 * V) (2 * V), .slice none 0 0] := by
      unfold SX.head
      rw [show (SX.new s m fb V wb).V = V from rfl, hvs, hvs, if_pos (by omega), if_pos (by omega)]
      rfl
    rw [e]; exact hs
  · have e : ((List.replicate (2 * V) false).map Value.bool).toArray = madeCells #[.bool false] (2 * V) := by
      rw [List.map_replicate, ← made_list7]
    rw [e]; exact hf
  · have e : (SX.new s m fb V wb).vs.take (2 * (SX.new s m fb V wb).V) = List.replicate (2 * V) (.slice none 0 0) := by
      show (List.replicate (2 * V + 2) _).take (2 * V) = _
      rw [List.take_replicate]; congr 1; omega
    rw [e]
    exact own_made7 hw l4 (by show 2 * V ≤ 1000000; omega)
  · rw [hvs, hps]
    have hj2 : j < 2 * V + 2 := by simpa [SX.new] using hj
    rw [if_pos hj2]
    exact ⟨none, 0, rfl, World.ownsRow_nil _ _ _ _⟩
  · rw [hvs] at h1
    split at h1 <;> simp [Value.ownBlock, undef] at h1
  · simp [SX.new, DataW.atKey]
  · rw [hps]
    exact ⟨List.nodup_nil, fun p h => (by simp at h), fun p h => (by simp [SX.new] at h)⟩
  · rw [hfr]
    exact ⟨fun h => (by cases h), fun h => (by simp [SX.new] at h)⟩
  · rw [hps] at hp
    simp at hp
  · rw [hps]; exact List.nodup_nil
  · rw [hps]; rfl
set_option maxRecDepth 100000 in
set_option maxHeartbeats 1000000 in
theorem new_any7 (V : Nat) (hV : V ≤ 100000) (W : World) :
    Calls Tryd.prog 28 #[.int .i64 V] W fun e W' => ∃ (s m fb wb : Nat), e = .returned (.pointer (some ⟨s, 0, none⟩)) ∧ Rest7 W' W.heap.size (SX.new s m fb V wb) (List.replicate (2 * V) false) ∧ Below W.heap.size W W' := by
  have hmm := @run_makeMap Tryd.prog
  obtain ⟨N, hN⟩ : ∃ N, N = 2 * V := ⟨_, rfl⟩
  have hN2 : (2 * (V : Int)) = (N : Int) := by omega
  have hw1 : IntKind.i64.wrap (2 * (V : Int)) = (N : Int) := by rw [hN2]; exact IntWalk.i64_in _ (by omega)
  have hw2 : IntKind.i64.wrap (N : Int) = (N : Int) := IntWalk.i64_in _ (by omega)
  have hcl : max 0 (min (V : Int) 100000) = V := by omega
  have hm1 := run_make_row' (P := Tryd.prog) 63 62 (.slice none 0 0) 24 Tryd.underlying63 infoRow7 rfl .i64 .i64 N (by omega) (by omega)
  have hm2 := run_make_row' (P := Tryd.prog) 43 4 (.bool false) 1 Tryd.underlying43 infoBool7 rfl .i64 .i64 N (by omega) (by omega)
  have HN := Lib.hid hN
  clear hN hN2
  go_enter Tryd.func28, Tryd.ntmps28
  go_wp2
  go_region_held3 (fun _ => True) (trivial) (fail)
  all_goals (go_wp2; go_ret)
  all_goals
    obtain rfl := HN.out
    first
      | (refine ⟨W.heap.size + 1 + 1 + 1, W.heap.size, W.heap.size + 1, W.heap.size + 1 + 1, rfl, new_rest7 hV ?_ ?_ ?_ ?_ (by omega) (by omega) (by omega) (by omega), below_drew7 (((((Below.refl _ _).alloc (Nat.le_refl _) _).alloc (by simp) _).alloc (by simp; omega) _).alloc (by simp; omega) _)⟩ <;> (try unfold Blk) <;> simp only [World.alloc, World.drew, Array.getElem?_push, Array.size_push] <;> (repeat (first | rw [if_pos rfl] | rw [if_neg (by omega)])) <;> rfl)
      | (refine ⟨W.heap.size + 1 + 1 + 1, W.heap.size, W.heap.size + 1 + 1, W.heap.size + 1, rfl, new_rest7 hV ?_ ?_ ?_ ?_ (by omega) (by omega) (by omega) (by omega), below_drew7 (((((Below.refl _ _).alloc (Nat.le_refl _) _).alloc (by simp) _).alloc (by simp; omega) _).alloc (by simp; omega) _)⟩ <;> (try unfold Blk) <;> simp only [World.alloc, World.drew, Array.getElem?_push, Array.size_push] <;> (repeat (first | rw [if_pos rfl] | rw [if_neg (by omega)])) <;> rfl)
      | (refine ⟨W.heap.size + 1 + 1 + 1, W.heap.size + 1, W.heap.size, W.heap.size + 1 + 1, rfl, new_rest7 hV ?_ ?_ ?_ ?_ (by omega) (by omega) (by omega) (by omega), below_drew7 (((((Below.refl _ _).alloc (Nat.le_refl _) _).alloc (by simp) _).alloc (by simp; omega) _).alloc (by simp; omega) _)⟩ <;> (try unfold Blk) <;> simp only [World.alloc, World.drew, Array.getElem?_push, Array.size_push] <;> (repeat (first | rw [if_pos rfl] | rw [if_neg (by omega)])) <;> rfl)
      | (refine ⟨W.heap.size + 1 + 1 + 1, W.heap.size + 1, W.heap.size + 1 + 1, W.heap.size, rfl, new_rest7 hV ?_ ?_ ?_ ?_ (by omega) (by omega) (by omega) (by omega), below_drew7 (((((Below.refl _ _).alloc (Nat.le_refl _) _).alloc (by simp) _).alloc (by simp; omega) _).alloc (by simp; omega) _)⟩ <;> (try unfold Blk) <;> simp only [World.alloc, World.drew, Array.getElem?_push, Array.size_push] <;> (repeat (first | rw [if_pos rfl] | rw [if_neg (by omega)])) <;> rfl)
      | (refine ⟨W.heap.size + 1 + 1 + 1, W.heap.size + 1 + 1, W.heap.size, W.heap.size + 1, rfl, new_rest7 hV ?_ ?_ ?_ ?_ (by omega) (by omega) (by omega) (by omega), below_drew7 (((((Below.refl _ _).alloc (Nat.le_refl _) _).alloc (by simp) _).alloc (by simp; omega) _).alloc (by simp; omega) _)⟩ <;> (try unfold Blk) <;> simp only [World.alloc, World.drew, Array.getElem?_push, Array.size_push] <;> (repeat (first | rw [if_pos rfl] | rw [if_neg (by omega)])) <;> rfl)
      | (refine ⟨W.heap.size + 1 + 1 + 1, W.heap.size + 1 + 1, W.heap.size + 1, W.heap.size, rfl, new_rest7 hV ?_ ?_ ?_ ?_ (by omega) (by omega) (by omega) (by omega), below_drew7 (((((Below.refl _ _).alloc (Nat.le_refl _) _).alloc (by simp) _).alloc (by simp; omega) _).alloc (by simp; omega) _)⟩ <;> (try unfold Blk) <;> simp only [World.alloc, World.drew, Array.getElem?_push, Array.size_push] <;> (repeat (first | rw [if_pos rfl] | rw [if_neg (by omega)])) <;> rfl)
end Go.Proofs.YtlkgicaajenhaaaDoor
