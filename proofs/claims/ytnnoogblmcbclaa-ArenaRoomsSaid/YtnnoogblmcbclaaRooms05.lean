/- The statement on room, walked. -/
import Derived.Test.YtnnoogblmcbclaaFit05
import Derived.Deep.LoopGhost
namespace Go.Proofs.Ytnnoogblmcbclaa
open Go.RowKit
set_option linter.unusedVariables false

theorem made_zeros (n : Nat) : (madeCells (Value.int .i64 0).cells (n * 1)).toList = (List.replicate n (0 : Int)).map (Value.int .i64) := by
  apply List.ext_getElem
  · simp [madeCells]
  · intro i h1 h2
    simp [madeCells, Value.cells, Nat.mod_one]

/-- a row of one's own stays what it is, whatever the arena does -/
theorem own_turn {w w' : World} {g b base e n : Nat} {gw : Option Nat} {v : Value} {xs : List Value} (h : w.ownsRow base e 1 v n xs) (ht : Turn w w' g b gw) (hk : ∀ k, v.ownBlock = some k → k ≠ g ∧ k ≠ b ∧ some k ≠ gw) : w'.ownsRow base e 1 v n xs := by
  refine ⟨h.1, ?_⟩
  rcases h.2 with hn | ⟨k, cap, cur, rfl, hg, hgg, rest⟩
  · exact .inl hn
  · obtain ⟨h1, h2, h3⟩ := hk k rfl
    exact .inr ⟨k, cap, cur, rfl, hg, by rw [ht.block k (Array.getElem?_eq_some_iff.1 hgg).1 h1 h2 h3]; exact hgg, rest⟩
theorem own_source {w : World} {g b base e c : Nat} {gw : Option Nat} {A : Option Addr} {xs : List Int} (h : w.ownsRow base e 1 (.slice A xs.length c) xs.length (xs.map (Value.int .i64))) (hk : ∀ k, (Value.slice A xs.length c).ownBlock = some k → k ≠ g ∧ k ≠ b ∧ some k ≠ gw) :
    ∀ w', Turn w w' g b gw → Ints w' w'.heap.size A xs := fun _ ht => ints_of_own (own_turn h ht hk)
/-- a row made just now -/
theorem Ar.made_source {w w1 : World} {base g b e c : Nat} {gw : Option Nat} {lim : Int} {cs : List Cl} (h : Ar w base g b gw lim cs) {A : Option Addr} {xs : List Int} (ho : w1.ownsRow w.heap.size e 1 (.slice A xs.length c) xs.length (xs.map (Value.int .i64))) :
    ∀ w', Turn w1 w' g b gw → Ints w' w'.heap.size A xs :=
  own_source ho fun k hk => by
    have h1 := (ho.lt k hk).1
    exact ⟨by have := h.glt; omega, by have := h.blt; omega, by intro e; have := (h.wlt _ e.symm).2; omega⟩

section
variable {w : World} {base g b : Nat} {gw : Option Nat} {lim : Int} {cs : List Cl}
theorem add_room_n (h : Ar w base g b gw lim cs) (A : Option Addr) (xs : List Int) (n c : Nat) (hn : xs.length = n) (ln : Bool) (glue : Int) (ht : total cs + n + 3 ≤ 1099511627776) (h0 : -9223372036854775808 ≤ lim) (h1 : lim ≤ 9223372036854775807) (hl : lim ≤ 0 ∨ total cs + 3 + n ≤ lim)
    (hx : ∀ w', Turn w w' g b gw → Ints w' w'.heap.size A xs) :
    Calls Try.prog 10 #[.pointer (some ⟨g, 0, none⟩), .slice A n c, .bool ln, .int .i64 glue] w fun e w' => e = .returned (.tuple #[.int .i64 (total cs), .bool true]) ∧
      (∃ gw', Ar w' base g b gw' lim (cs ++ [⟨xs, ln, least glue, 0, true⟩]) ∧ Later w gw gw') ∧ Turn w w' g b gw := by
  subst hn
  exact add_room h A xs c ln glue ht h0 h1 hl hx
end

set_option maxRecDepth 100000 in
set_option maxHeartbeats 1000000 in
theorem rooms_any (a : Int) (ns : List Int) (A : Option Addr) (c : Nat) (w : World) (ha : 0 ≤ a) (ha2 : a ≤ 255) (hn : ns.length ≤ 9223372036854775807) (hz : ∀ j, 0 ≤ ns.getD j 0 ∧ ns.getD j 0 ≤ 255) (h : KInts .u8 w w.heap.size A ns) :
    Calls Try.prog 6 #[.int .u8 a, .slice A ns.length c] w fun e w' => e = .returned (.bool true) ∧ Below w.heap.size w w' := by
  obtain ⟨i0, hi, hz0, hz1, hz2⟩ := info_parts infoInt
  have H := Lib.hid h
  have HZ := Lib.hid hz
  clear h hz
  go_enter Try.func6, Try.ntmps6
  go_wp2_with fail
  refine (fit_any _).mono ?_
  rintro e w1 ⟨rfl, hb1⟩
  by_cases h60 : 60 < ns.length
  · go_wp2
    go_ret
    exact ⟨rfl, hb1⟩
  · have HB1 := Lib.hid hb1
    clear hb1
    go_wp2_with fail
    refine (new_any (1 + a) w.heap.size w1 HB1.out.size).mono ?_
    rintro e w2 ⟨g, b, rfl, har, hb2⟩
    have HB2 := Lib.hid (HB1.out.trans (hb2.mono HB1.out.size))
    have HAR := Lib.hid har
    clear har hb2
    go_wp2_with fail
    go_loopg [7, 28] (ns.length + 1) (fun gk s i wr => ∃ (k : Nat) (cs : List Cl) (gw : Option Nat), k ≤ ns.length ∧ gk = ns.length - k + 1 ∧ i = .int .i64 k ∧ s = .int .i64 (total cs : Nat) ∧ Ar wr w.heap.size g b gw (1 + a) cs ∧ (total cs : Int) ≤ 1 + a ∧ Below w.heap.size w wr)
    case atStart => exact ⟨0, [], none, by omega, by omega, rfl, rfl, HAR.out, by simp [total_nil]; omega, HB2.out⟩
    case round =>
      obtain ⟨k, cs, gw, hk, rfl, rfl, rfl, har, htot, hb⟩ := hrel
      obtain ⟨T, hT⟩ : ∃ T, T = total cs := ⟨_, rfl⟩
      rw [← hT] at htot ⊢
      have HT := Lib.hid hT
      have HA := Lib.hid har
      have HB := Lib.hid hb
      clear har hb hT HAR HB1 HB2
      by_cases hlt : k < ns.length
      · obtain ⟨b2, off, rfl, _, hcell⟩ := (Cells.below H.out HB.out).at_ hlt
        obtain ⟨hz1', hz2'⟩ := HZ.out k
        obtain ⟨zn, hzn⟩ : ∃ zn : Nat, ns.getD k 0 = zn := ⟨(ns.getD k 0).toNat, by omega⟩
        simp only [hzn] at hcell hz1' hz2'
        clear hzn
        have hm : ((zn : Int) % 9) = ((zn % 9 : Nat) : Int) := by omega
        have HM := Lib.hid hm
        clear hm
        go_wp2_with (at_make; refine wpList_make_full _ rfl _ _ 31 rfl wr.heap.size 3 i0 (.int .i64 0) 1 Try.underlying31 hi hz0 hz1 .i64 .i64 _ _ (zn % 9) rfl rfl HM.out HM.out (by rw [hz2]; omega) (by unfold maxLen; omega) (Nat.le_refl _) ?_; intro w3 hown3 hg3)
        have hb3 : Below wr.heap.size wr w3 := ⟨hg3.os, hg3.tape, hg3.output, hg3.size, fun k hk => hg3.block k hk (by simp)⟩
        have ha3 := HA.out.below hb3
        have hw3 : w.heap.size ≤ wr.heap.size := HB.out.size
        have hbw3 : Below w.heap.size w w3 := HB.out.trans (hb3.mono hw3)
        have hxs : (List.replicate (zn % 9) (0 : Int)).length = zn % 9 := by simp
        have ho3 : w3.ownsRow wr.heap.size 3 1 (.slice (some ⟨wr.heap.size, 0, none⟩) (List.replicate (zn % 9) (0 : Int)).length (zn % 9)) (List.replicate (zn % 9) (0 : Int)).length ((List.replicate (zn % 9) (0 : Int)).map (Value.int .i64)) := by
          rw [made_zeros] at hown3; rw [hxs]; exact hown3
        have HSRC := Lib.hid (HA.out.made_source ho3)
        have HA3 := Lib.hid ha3
        have HBW := Lib.hid hbw3
        clear hb3 ha3 hbw3 hxs ho3 hown3 hg3
        by_cases hroom : (T : Int) + 3 + (zn : Int) % 9 ≤ 1 + a
        · refine (add_room_n HA3.out _ (List.replicate (zn % 9) (0 : Int)) (zn % 9) (zn % 9) (by simp) false 0 (by have := HT.out; omega) (by omega) (by omega) (.inr (by have := HT.out; omega)) HSRC.out).mono ?_
          rintro e w4 ⟨rfl, ⟨gw4, ha4, -⟩, ht4⟩
          have hb4 := HBW.out.trans (HA3.out.turn_below ht4 HBW.out.size)
          have ht5 : ((total (cs ++ [⟨List.replicate (zn % 9) (0 : Int), false, least 0, 0, true⟩]) : Nat) : Int) = (T : Int) + (3 + (zn : Int) % 9) := by rw [total_snoc, ← HT.out]; simp [Cl.size]; omega
          have hwd := words_any ha4
          rw [ht5] at hwd
          rw [← HT.out]
          have HA4 := Lib.hid ha4
          have HB4 := Lib.hid hb4
          have HW4 := Lib.hid hwd
          have HT5 := Lib.hid ht5
          clear ha4 ht4 hb4 hwd ht5
          go_wp2_with fail
          refine HW4.out.mono ?_
          rintro e w5 ⟨rfl, rfl⟩
          go_wp2_with fail
          refine HW4.out.mono ?_
          rintro e w5 ⟨rfl, rfl⟩
          go_wp2
          go_roundg (ns.length - k)
          case measure => omega
          case rel => exact ⟨k + 1, _, gw4, by omega, by omega, by go_num, by rw [HT5.out], HA4.out, by rw [HT5.out]; omega, HB4.out⟩
        · refine (add_full HA3.out _ (zn % 9) (zn % 9) false 0 (by have := HT.out; omega) (by omega) (by omega) (by omega) (by have := HT.out; omega)).mono ?_
          rintro e w4 ⟨rfl, hb4'⟩
          have ha4 := HA3.out.below hb4'
          have hb4 := HBW.out.trans (hb4'.mono HBW.out.size)
          have hwd := words_any ha4
          rw [← HT.out] at hwd
          have HA4 := Lib.hid ha4
          have HB4 := Lib.hid hb4
          have HW4 := Lib.hid hwd
          clear ha4 hb4' hb4 hwd
          go_wp2_with fail
          refine HW4.out.mono ?_
          rintro e w5 ⟨rfl, rfl⟩
          go_wp2_with fail
          refine HW4.out.mono ?_
          rintro e w5 ⟨rfl, rfl⟩
          go_wp2
          go_roundg (ns.length - k)
          case measure => omega
          case rel => exact ⟨k + 1, _, gw, by omega, by omega, by go_num, by rw [← HT.out], HA4.out, by rw [← HT.out]; omega, HB4.out⟩
      · go_wp2_with fail
        refine (new_any (-a) w.heap.size wr HB.out.size).mono ?_
        rintro e w2 ⟨g2, b2, rfl, har, hb2⟩
        have HB2 := Lib.hid (HB.out.trans (hb2.mono HB.out.size))
        have HA2 := Lib.hid har
        clear har hb2
        go_wp2_with (at_make; refine wpList_make_full _ rfl _ _ 31 rfl w2.heap.size 3 i0 (.int .i64 0) 1 Try.underlying31 hi hz0 hz1 .i64 .i64 _ _ 300 rfl rfl rfl rfl (by rw [hz2]; omega) (by unfold maxLen; omega) (Nat.le_refl _) ?_; intro w3 hown3 hg3)
        have hb3 : Below w2.heap.size w2 w3 := ⟨hg3.os, hg3.tape, hg3.output, hg3.size, fun k hk => hg3.block k hk (by simp)⟩
        have ha3 := HA2.out.below hb3
        have hbw3 : Below w.heap.size w w3 := HB2.out.trans (hb3.mono HB2.out.size)
        obtain ⟨xs, hxl, hxo⟩ : ∃ xs : List Int, xs.length = 300 ∧ w3.ownsRow w2.heap.size 3 1 (.slice (some ⟨w2.heap.size, 0, none⟩) xs.length 300) xs.length (xs.map (Value.int .i64)) :=
          ⟨List.replicate 300 0, List.length_replicate, by rw [made_zeros] at hown3; rw [List.length_replicate]; exact hown3⟩
        refine (add_room_n ha3 _ xs 300 300 hxl true 1 (by rw [total_nil]; omega) (by omega) (by omega) (.inl (by omega)) (HA2.out.made_source hxo)).mono ?_
        rintro e w4 ⟨rfl, ⟨gw4, ha4, -⟩, ht4⟩
        have hb4 := hbw3.trans (ha3.turn_below ht4 hbw3.size)
        have hwd := words_any ha4
        have ht5 : ((total ([] ++ [⟨xs, true, least 1, 0, true⟩]) : Nat) : Int) = 303 := by rw [total_snoc, total_nil]; simp [Cl.size, hxl]
        rw [ht5] at hwd
        rw [show ((total [] : Nat) : Int) = 0 from rfl]
        have HB4 := Lib.hid hb4
        have HW4 := Lib.hid hwd
        clear ha4 ht4 hb4 hwd ht5 hxl hxo ha3 hb3 hown3 hg3 hbw3
        go_wp2_with fail
        refine HW4.out.mono ?_
        rintro e w5 ⟨rfl, rfl⟩
        go_wp2
        go_ret
        exact ⟨rfl, HB4.out⟩
end Go.Proofs.Ytnnoogblmcbclaa
