/- The fifth layer's anchor: two clauses. -/
import Derived.Test.YtnjcegjcaaplgaaArena5
namespace Go.Proofs.Ytnjcegjcaaplgaa
open Go.RowKit

/-- a block of numbers that is none of the arena's, as a row that reads whatever the arena does -/
theorem blk_source {w : World} {k g b : Nat} {t : TypeId} {gw : Option Nat} {xs : List Int} (h : Blk w k t (xs.map (Value.int .i64)).toArray) (h1 : k ≠ g) (h2 : k ≠ b) (h3 : some k ≠ gw) :
    ∀ w', Turn w w' g b gw → Ints w' w'.heap.size (some ⟨k, 0, none⟩) xs := by
  intro w' ht hn
  have h' : Blk w' k t (xs.map (Value.int .i64)).toArray := (ht.block k h.lt h1 h2 h3).trans h
  refine ⟨k, 0, rfl, h'.lt, fun j hj => ?_⟩
  rw [Nat.zero_add, h'.cell]
  simp [List.getD, hj]
theorem Ar.new_source {w : World} {base g b : Nat} {gw : Option Nat} {lim : Int} {cs : List Cl} (h : Ar w base g b gw lim cs) (t : TypeId) (xs : List Int) :
    ∀ w', Turn (w.alloc (.cells (xs.map (Value.int .i64)).toArray t)) w' g b gw → Ints w' w'.heap.size (some ⟨w.heap.size, 0, none⟩) xs :=
  blk_source (Blk.new w t _) (by have := h.glt; omega) (by have := h.blt; omega) (by intro e; have := (h.wlt _ e.symm).2; omega)
theorem Ar.alloc {w : World} {base g b : Nat} {gw : Option Nat} {lim : Int} {cs : List Cl} (h : Ar w base g b gw lim cs) (o : Obj) : Ar (w.alloc o) base g b gw lim cs := h.below ((Below.refl _ _).alloc (Nat.le_refl _) _)

theorem fit_any (w : World) : Calls Try.prog 5 #[] w fun e w' => e = .returned (.bool true) ∧ Below w.heap.size w w' := by
  go_enter Try.func5, Try.ntmps5
  go_wp2_with fail
  refine (new_any 10 w.heap.size w (Nat.le_refl _)).mono ?_
  rintro e w1 ⟨g, b, rfl, ha, hb⟩
  have HA := Lib.hid ha
  have HB := Lib.hid hb
  clear ha hb
  go_wp2_with fail
  refine (add_room (HA.out.alloc _) (some ⟨w1.heap.size, 0, none⟩) [1, -2] 2 false 0 (by simp [total_nil]) (by omega) (by omega) (.inr (by simp [total_nil])) (HA.out.new_source _ [1, -2])).mono ?_
  rintro e w2 ⟨rfl, ⟨gw2, ha2, -⟩, ht2⟩
  have hb2 : Below w.heap.size w w2 := (HB.out.alloc HB.out.size _).trans ((HA.out.alloc _).turn_below ht2 (by have := HB.out.size; simp; omega))
  have e1 : total [] = 0 := rfl
  have HA2 := Lib.hid ha2
  have HB2 := Lib.hid hb2
  rw [e1]
  clear ha2 ht2 hb2 e1 HA HB
  go_wp2_with fail
  refine (add_room (HA2.out.alloc _) (some ⟨w2.heap.size, 0, none⟩) [3, 4] 2 true 2 (by simp [total, wordsOf, Cl.words]) (by omega) (by omega) (.inr (by simp [total, wordsOf, Cl.words])) (HA2.out.new_source _ [3, 4])).mono ?_
  rintro e w3 ⟨rfl, ⟨gw3, ha3, -⟩, ht3⟩
  have hb3 : Below w.heap.size w w3 := (HB2.out.alloc HB2.out.size _).trans ((HA2.out.alloc _).turn_below ht3 (by have := HB2.out.size; simp; omega))
  have e1 : ((total ([] ++ [⟨[1, -2], false, least 0, 0, true⟩]) : Nat) : Int) = 5 := rfl
  rw [e1]
  have HA3 := Lib.hid ha3
  have HB3 := Lib.hid hb3
  clear ha3 ht3 hb3 e1 HA2 HB2
  go_wp2_with fail
  refine (add_full HA3.out none 0 0 false 0 (by simp [total, wordsOf, Cl.words]) (by omega) (by omega) (by omega) (by simp [total, wordsOf, Cl.words])).mono ?_
  rintro e w4 ⟨rfl, hb4⟩
  have ha4 := HA3.out.below hb4
  have hb5 := HB3.out.trans (hb4.mono HB3.out.size)
  have HA4 := Lib.hid ha4
  have HB4 := Lib.hid hb5
  clear ha4 hb4 hb5 HA3 HB3
  have hal : ∀ c d : Cl, [] ++ [c] ++ [d] = [c] ++ d :: [] := fun _ _ => rfl
  have HS := Lib.hid (hal ⟨[1, -2], false, least 0, 0, true⟩ ⟨[3, 4], true, least 2, 0, true⟩)
  clear hal
  go_wp2_with fail
  refine (words_any HA4.out).mono ?_
  rintro e w5 ⟨rfl, rfl⟩
  rw [show ((total ([] ++ [⟨[1, -2], false, least 0, 0, true⟩] ++ [⟨[3, 4], true, least 2, 0, true⟩]) : Nat) : Int) = 10 from rfl]
  go_wp2_with fail
  refine (count_any HA4.out).mono ?_
  rintro e w5 ⟨rfl, rfl⟩
  rw [show ((countOf ([] ++ [⟨[1, -2], false, least 0, 0, true⟩] ++ [⟨[3, 4], true, least 2, 0, true⟩]) : Nat) : Int) = 2 from rfl]
  have H5 := HA4.out
  rw [HS.out] at H5
  have HA5 := Lib.hid H5
  clear H5
  go_wp2_with fail
  refine (lit_yes _ _ _ HA5.out rfl (by simp [total, wordsOf, Cl.words]) 1).mono ?_
  rintro e w5 ⟨rfl, hb5⟩
  have HA6 := Lib.hid (HA5.out.below hb5)
  have HB5 := Lib.hid (HB4.out.trans (hb5.mono HB4.out.size))
  clear hb5
  rw [show (if (1 : Int) < 0 then 0 else ([3, 4] : List Int).getD (Int.toNat 1) 0) = 4 from rfl]
  go_wp2_with fail
  refine (learned_yes _ _ _ HA6.out rfl (by simp [total, wordsOf, Cl.words])).mono ?_
  rintro e w6 ⟨rfl, hb6⟩
  have HA7 := Lib.hid (HA6.out.below hb6)
  have HB6 := Lib.hid (HB5.out.trans (hb6.mono HB5.out.size))
  clear hb6
  go_wp2_with fail
  refine (glue_yes _ _ _ HA7.out rfl (by simp [total, wordsOf, Cl.words])).mono ?_
  rintro e w7 ⟨rfl, hb7⟩
  have HB7 := Lib.hid (HB6.out.trans (hb7.mono HB6.out.size))
  clear hb7
  rw [show least 2 = 2 from rfl]
  go_wp2
  go_ret
  exact ⟨rfl, HB7.out⟩
end Go.Proofs.Ytnjcegjcaaplgaa
