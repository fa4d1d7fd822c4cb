/- The example of layer 14. -/
import Derived.Test.YtbejjddkndcldaaRight14
namespace Go.Proofs.Ytbejjddkndcldaa
open Go.RowKit
set_option linter.unusedVariables false
set_option linter.unusedSimpArgs false

theorem fit_math {s : LS} (hg : s.Good 2) (hc : s.cls = [[1, 2], [-1]]) (ha : s.At [false, false]) : s.row = [0] ∧ makeOf s [false, false] 1 = 1 ∧ brk s.hss 1 = 1 := by
  have h0 : s.hss.getD 0 [] = [] := List.eq_nil_iff_forall_not_mem.2 fun x hx => by
    have := (ha 0 x).1 hx
    rw [hc] at this
    obtain ⟨h1, h2⟩ := this
    simp at h1
    rcases h1 with rfl | rfl
    · exact absurd h2 (by decide)
    · exact absurd h2 (by decide)
  have h1 : (s.hss.getD 1 []).length = 1 := by
    have := at_len (z := [false, false]) hg ha 1
    rw [this, hc]
    decide
  have hx1 : ∃ x, s.hss.getD 1 [] = [x] ∧ x = -1 := by
    obtain ⟨x, hx, _⟩ := xr_one h1
    have := hg.sub 1 x (by rw [hx]; simp)
    rw [hc] at this
    exact ⟨x, hx, by simpa using this⟩
  obtain ⟨x, hx, rfl⟩ := hx1
  have hlen : s.hss.length = 2 := by rw [hg.len, hc]; rfl
  have hss : s.hss = [[], [-1]] := by
    apply List.ext_getElem
    · simpa using hlen
    · intro i i1 i2
      have e : s.hss[i] = s.hss.getD i [] := by simp [List.getD, i1]
      rw [e]
      rcases (by simp at i2; omega : i = 0 ∨ i = 1) with rfl | rfl
      · rw [h0]; rfl
      · rw [hx]; rfl
  refine ⟨?_, ?_, ?_⟩
  · have hm : ∀ i, i ∈ s.row ↔ i = 0 := fun i => by
      rw [hg.rmem, hc]
      constructor
      · rintro ⟨a, b⟩
        rcases (by simp at a; omega : i = 0 ∨ i = 1) with rfl | rfl
        · rfl
        · rw [hx] at b; cases b
      · rintro rfl
        exact ⟨by decide, h0⟩
    have hp : s.row.Perm [0] := (List.perm_ext_iff_of_nodup hg.rinj.nodup (by decide)).2 fun i => by rw [hm]; simp
    exact List.perm_singleton.1 hp
  · unfold makeOf
    rw [hc, hss]
    decide
  · rw [hss]
    decide
theorem fit_norm : normForm [[1, 2], [-1]] = [[1, 2], [-1]] := by decide
set_option maxRecDepth 100000 in
set_option maxHeartbeats 4000000 in
theorem fit_any14 (w : World) : Calls Try.prog 18 #[] w fun e w' => e = .returned (.bool true) ∧ Below w.heap.size w w' := by
  obtain ⟨w4, hw4⟩ : ∃ w4, w4 = ((((w.alloc (Obj.cells #[Value.int IntKind.i64 1, Value.int IntKind.i64 2] 3)).alloc (Obj.cells #[Value.int IntKind.i64 (-1)] 3)).alloc (Obj.cells #[Value.slice (some ⟨w.heap.size, 0, none⟩) 2 2, Value.slice (some ⟨w.heap.size + 1, 0, none⟩) 1 1] 32)).alloc (Obj.cells #[Value.bool false, Value.bool false] 4)) := ⟨_, rfl⟩
  have b1 : Blk w4 w.heap.size 3 (([1, 2] : List Int).map (Value.int .i64)).toArray := by rw [hw4]; exact (((Blk.new w _ _).alloc _).alloc _).alloc _
  have b2 : Blk w4 (w.heap.size + 1) 3 (([-1] : List Int).map (Value.int .i64)).toArray := by rw [hw4]; exact ((blk_new14 (by simp)).alloc _).alloc _
  have b3 : Blk w4 (w.heap.size + 1 + 1) 32 ([Value.slice (some ⟨w.heap.size, 0, none⟩) 2 2, Value.slice (some ⟨w.heap.size + 1, 0, none⟩) 1 1] : List Value).toArray := by rw [hw4]; exact (blk_new14 (by simp)).alloc _
  have b4 : BlkB w4 (w.heap.size + 1 + 1 + 1) 4 [false, false] := by rw [hw4]; exact blk_new14 (by simp)
  have hs : w4.heap.size = w.heap.size + 1 + 1 + 1 + 1 := by rw [hw4]; simp
  have hb : Below w.heap.size w w4 := by rw [hw4]; exact ((((Below.refl _ _).alloc (Nat.le_refl _) _).alloc (by simp) _).alloc (by simp; omega) _).alloc (by simp; omega) _
  have hR : Rows w4 w4.heap.size (some ⟨w.heap.size + 1 + 1, 0, none⟩) [[1, 2], [-1]] := rows_blk4 b3 (by omega) fun j hj => by
    rcases (by simp at hj; omega : j = 0 ∨ j = 1) with rfl | rfl
    · exact ⟨_, 2, rfl, ints_blk4 b1 (by omega)⟩
    · exact ⟨_, 1, rfl, ints_blk4 b2 (by omega)⟩
  have hlf : LightForm 2 [[1, 2], [-1]] := ⟨by decide, by decide, by decide⟩
  have HN := Lib.hid (new_any14 2 [[1, 2], [-1]] [false, false] w4.heap.size (some ⟨w.heap.size + 1 + 1, 0, none⟩) (some ⟨w.heap.size + 1 + 1 + 1, 0, none⟩) 2 2 w4 (by decide) hlf hR b4.bools (Nat.le_refl _) rfl)
  have HW := Lib.hid hw4
  have HB := Lib.hid hb
  clear b1 b2 b3 b4 hs hR hw4 hb
  go_enter Try.func18, Try.ntmps18
  go_wp2_with fail
  rw [← HW.out]
  refine HN.out.mono ?_
  rintro e w5 ⟨ρ, p, rfl, s, hm, hc, hg, ha, hb5, _⟩
  rw [fit_norm] at hc
  obtain ⟨hrow, hmk, hbk⟩ := fit_math hg hc ha
  have HM := Lib.hid (And.intro hm (And.intro hc (And.intro hg (And.intro ha (And.intro hrow (And.intro hmk hbk))))))
  have HB5 := Lib.hid (HB.out.trans (hb5.mono HB.out.size))
  clear hm hc hg ha hb5 hrow hmk hbk HN
  go_wp2_with fail
  refine (new_no14 2 none none 0 0 0 0 w5 (by decide) (by decide) (by decide)).mono ?_
  rintro e w6 ⟨rfl, hb6⟩
  have hm6 := HM.out.1.below hb6
  have HB6 := Lib.hid (HB5.out.trans (hb6.mono HB5.out.size))
  have HUN := Lib.hid (unsat_any hm6)
  have HMK := Lib.hid (make_yes hm6 HM.out.2.2.1 (v := 1) (by decide) (by decide))
  change Hid (Calls _ _ _ _ fun e w' => e = .returned (.int .i64 (s.row.length : Nat)) ∧ w6 = w') at HUN
  rw [HM.out.2.2.2.2.1] at HUN
  rw [HM.out.2.2.2.2.2.1] at HMK
  have HM6 := Lib.hid hm6
  clear hb6 hm6
  go_wp2_with fail
  refine HUN.out.mono ?_
  rintro e w7 ⟨rfl, rfl⟩
  go_wp2_with fail
  refine HMK.out.mono ?_
  rintro e w7 ⟨rfl, k7, rfl⟩
  have HM7 := Lib.hid (HM6.out.drewN k7)
  have hbr := break_any HM7.out (show ([false, false] : List Bool).length ≤ 1000 by decide) 1 (by omega)
  change Calls _ _ _ _ (fun e w' => e = .returned (.int .i64 (if (1 : Int) ≤ 1 ∧ (1 : Int) ≤ (([false, false] : List Bool).length : Nat) then (brk s.hss (1 : Int).toNat : Nat) else 0)) ∧ w6.drewN k7 = w') at hbr
  rw [if_pos (by decide), show (1 : Int).toNat = 1 from rfl, HM.out.2.2.2.2.2.2] at hbr
  have hcl := clauses_any HM7.out
  change Calls _ _ _ _ (fun e w' => e = .returned (.int .i64 (s.cls.length : Nat)) ∧ w6.drewN k7 = w') at hcl
  rw [HM.out.2.1] at hcl
  have hro := row_any HM7.out (show s.row.length ≤ 1000 by rw [HM.out.2.2.2.2.1]; decide) 0
  change Calls _ _ _ _ (fun e w' => e = .returned (.int .i64 (rowAt s.row 0)) ∧ w6.drewN k7 = w') at hro
  rw [HM.out.2.2.2.2.1, show rowAt [0] 0 = 0 from rfl] at hro
  go_wp2_with fail
  refine hbr.mono ?_
  rintro e w8 ⟨rfl, rfl⟩
  go_wp2_with fail
  refine hcl.mono ?_
  rintro e w8 ⟨rfl, rfl⟩
  go_wp2_with fail
  refine hro.mono ?_
  rintro e w8 ⟨rfl, rfl⟩
  go_wp2
  go_ret
  exact ⟨rfl, below_drewN HB6.out _⟩
end Go.Proofs.Ytbejjddkndcldaa
