/- The statement on places where no clause begins, walked. -/
import Derived.Test.YtnnoogblmcbclaaRooms05
namespace Go.Proofs.Ytnnoogblmcbclaa
open Go.RowKit
set_option linter.unusedVariables false

theorem none_at (xs : List Int) (x : Int) (h0 : x ≠ 0) (h1 : x ≠ xs.length + 3) : at? [⟨xs, true, 5, 0, true⟩, ⟨xs, false, 5, 0, true⟩] x = none := by
  simp only [at?, Cl.size]
  rw [if_neg h0, if_neg (by omega)]
theorem two_total (xs : List Int) : total [⟨xs, true, 5, 0, true⟩, ⟨xs, false, 5, 0, true⟩] = 2 * (3 + xs.length) := by simp [total_cons, total_nil, Cl.size]; omega
theorem two_count (xs : List Int) : countOf [⟨xs, true, 5, 0, true⟩, ⟨xs, false, 5, 0, true⟩] = 2 := by simp [countOf]

set_option maxRecDepth 100000 in
set_option maxHeartbeats 1000000 in
theorem none_any (ns : List Int) (A : Option Addr) (c : Nat) (x : Int) (w : World) (hx1 : -9223372036854775808 ≤ x) (hx2 : x ≤ 9223372036854775807) (hn : ns.length ≤ 9223372036854775807) (hz : ∀ j, -128 ≤ ns.getD j 0 ∧ ns.getD j 0 ≤ 127) (h : KInts .i8 w w.heap.size A ns) :
    Calls Try.prog 4 #[.slice A ns.length c, .int .i64 x] w fun e w' => e = .returned (.bool true) ∧ Below w.heap.size w w' := by
  obtain ⟨i0, hi, hz0, hz1, hz2⟩ := info_parts infoInt
  have H := Lib.hid h
  have HZ := Lib.hid hz
  clear h hz
  go_enter Try.func4, Try.ntmps4
  go_wp2_with fail
  refine (fit_any _).mono ?_
  rintro e w1 ⟨rfl, hb1⟩
  by_cases h60 : 60 < ns.length
  · go_wp2
    go_ret
    exact ⟨rfl, hb1⟩
  · have HB1 := Lib.hid hb1
    clear hb1
    go_wp2_with fail
    refine (new_any 0 w.heap.size w1 HB1.out.size).mono ?_
    rintro e w2 ⟨g, b, rfl, har, hb2⟩
    have HB2 := Lib.hid (HB1.out.trans (hb2.mono HB1.out.size))
    have HAR := Lib.hid har
    clear har hb2
    go_wp2_with fail
    go_loopg [6, 17] (ns.length + 1) (fun gk v i wr => ∃ (k : Nat) (xs : List Int) (B : Option Addr) (cc : Nat), k ≤ ns.length ∧ gk = ns.length - k + 1 ∧ i = .int .i64 k ∧ v = .slice B xs.length cc ∧ xs.length = k ∧
      wr.ownsRow w2.heap.size 3 1 (.slice B xs.length cc) xs.length (xs.map (Value.int .i64)) ∧ Below w2.heap.size w2 wr)
    case atStart => exact ⟨0, [], none, 0, by omega, by omega, rfl, rfl, rfl, World.ownsRow_nil _ _ _ _, Below.refl _ _⟩
    case round =>
      obtain ⟨k, xs, B, cc, hk, rfl, rfl, rfl, hxl, hown, hb⟩ := hrel
      have HX := Lib.hid hxl
      have HO := Lib.hid hown
      have HB := Lib.hid hb
      have HBW := Lib.hid (HB2.out.trans (hb.mono HB2.out.size))
      have hsz := hb.size
      obtain ⟨n, hnx⟩ : ∃ n, n = xs.length := ⟨_, rfl⟩
      have hnk : n = k := by omega
      rw [← hnx] at HO ⊢
      have HN := Lib.hid hnx
      subst hnk
      clear hxl hown hb hnx
      by_cases hlt : n < ns.length
      · obtain ⟨b2, off, rfl, _, hcell⟩ := (Cells.below H.out HBW.out).at_ hlt
        obtain ⟨hz1', hz2'⟩ := HZ.out n
        obtain ⟨z, hzn⟩ : ∃ z, ns.getD n 0 = z := ⟨_, rfl⟩
        simp only [hzn] at hcell hz1' hz2'
        clear hzn
        go_wp2_with (at_builtin; refine wpList_append1 _ rfl _ _ 31 rfl w2.heap.size 3 i0 (.int .i64 0) 8 Try.underlying31 hi hz0 hz1 hz2 rfl _ n _ rfl (HO.out.alloc _) (.int .i64 (z + 200)) wr.heap.size rfl ((Blk.new wr _ #[Value.int .i64 (z + 200)]).cell 0) rfl (by unfold maxLen; omega) (by omega) (by simp; omega) ?_)
        intro v' w3 hown3 hg3 hat3
        obtain ⟨A3, c3, hv3, -⟩ := own_slice hown3
        subst hv3
        have hb3 : Below w2.heap.size w2 w3 := (HB.out.alloc HB.out.size _).grown hg3 (by simp; omega) (fun j hj => (HO.out.lt j hj).1)
        have ho3 : w3.ownsRow w2.heap.size 3 1 (.slice A3 (n + 1) c3) (n + 1) ((xs ++ [z + 200]).map (Value.int .i64)) := by simpa using hown3
        have HO3 := Lib.hid ho3
        have HB3 := Lib.hid hb3
        clear hown3 hg3 hat3 ho3 hb3
        go_wp2
        have hl3 : (xs ++ [z + 200]).length = n + 1 := by simp; have := HN.out; omega
        go_roundg (ns.length - n)
        case measure => omega
        case rel => exact ⟨n + 1, xs ++ [z + 200], A3, c3, by omega, by omega, by go_num, by rw [hl3], hl3, by rw [hl3]; exact HO3.out, HB3.out⟩
      · have hsrc : ∀ w', Turn wr w' g b none → Ints w' w'.heap.size B xs := by
          have ho := HO.out
          rw [HN.out] at ho
          refine own_source ho fun k hk => ?_
          have h1 := (ho.lt k hk).1
          exact ⟨by have := HAR.out.glt; omega, by have := HAR.out.blt; omega, by simp⟩
        have HSRC := Lib.hid hsrc
        have har1 := HAR.out.below (HB.out)
        have HAR1 := Lib.hid har1
        have hl60 : n ≤ 60 := by omega
        clear hsrc har1
        go_wp2_with fail
        refine (add_room_n HAR1.out B xs n cc HN.out.symm true 5 (by rw [total_nil]; omega) (by omega) (by omega) (.inl (by omega)) HSRC.out).mono ?_
        rintro e w3 ⟨rfl, ⟨gw3, ha3, hl3⟩, ht3⟩
        have hb3 := HBW.out.trans (HAR1.out.turn_below ht3 HBW.out.size)
        have hsrc : ∀ w', Turn w3 w' g b gw3 → Ints w' w'.heap.size B xs := by
          have ho := HO.out
          rw [HN.out] at ho
          have hk : ∀ k, (Value.slice B xs.length cc).ownBlock = some k → k ≠ g ∧ k ≠ b ∧ some k ≠ (none : Option Nat) := fun k hk => by
            have h1 := (ho.lt k hk).1
            exact ⟨by have := HAR.out.glt; omega, by have := HAR.out.blt; omega, by simp⟩
          refine own_source (own_turn ho ht3 hk) fun k hk' => ⟨(hk k hk').1, (hk k hk').2.1, ?_⟩
          rcases hl3 with e | ⟨j, e, hj⟩
          · rw [e]; simp
          · rw [e]; intro e'; injection e' with e'; have := (ho.lt k hk').2; omega
        have HSR3 := Lib.hid hsrc
        have HA3 := Lib.hid ha3
        have HB3 := Lib.hid hb3
        clear hsrc ha3 hl3 ht3 hb3
        rw [show ((total [] : Nat) : Int) = 0 from rfl]
        go_wp2_with fail
        refine (add_room_n HA3.out B xs n cc HN.out.symm false 5 (by simp [total_cons, total_nil, Cl.size]; have := HN.out; omega) (by omega) (by omega) (.inl (by omega)) HSR3.out).mono ?_
        rintro e w4 ⟨rfl, ⟨gw4, ha4, -⟩, ht4⟩
        have hb4 := HB3.out.trans (HA3.out.turn_below ht4 HB3.out.size)
        obtain ⟨t5, ht5⟩ : ∃ t5 : Int, t5 = ((total ([] ++ [⟨xs, true, least 5, 0, true⟩]) : Nat) : Int) := ⟨_, rfl⟩
        rw [← ht5]
        have ha4' : Ar w4 w.heap.size g b gw4 0 [⟨xs, true, 5, 0, true⟩, ⟨xs, false, 5, 0, true⟩] := ha4
        have HA4 := Lib.hid ha4'
        have HB4 := Lib.hid hb4
        clear ha4 ha4' ht4 hb4 ht5
        by_cases hx0 : x = 0
        · subst hx0
          have HH := Lib.hid (has_yes [] [⟨xs, false, 5, 0, true⟩] ⟨xs, true, 5, 0, true⟩ HA4.out rfl (by simp [total_cons, total_nil, Cl.size]; have := HN.out; omega))
          rw [show ((total [] : Nat) : Int) = 0 from rfl] at HH
          go_wp2_with fail
          refine HH.out.mono ?_
          rintro e v5 ⟨rfl, hb5⟩
          have HL := Lib.hid (len_yes [] [⟨xs, false, 5, 0, true⟩] ⟨xs, true, 5, 0, true⟩ (HA4.out.below hb5) rfl (by simp [total_cons, total_nil, Cl.size]; have := HN.out; omega))
          rw [show ((total [] : Nat) : Int) = 0 from rfl, HX.out] at HL
          have HB5 := Lib.hid (HB4.out.trans (hb5.mono HB4.out.size))
          clear hb5
          go_wp2_with fail
          refine HL.out.mono ?_
          rintro e v6 ⟨rfl, hb6⟩
          have HB6 := Lib.hid (HB5.out.trans (hb6.mono HB5.out.size))
          clear hb6
          go_wp2
          go_ret
          exact ⟨rfl, HB6.out⟩
        · by_cases hx3 : x = 3 + (n : Int)
          · subst hx3
            have hp : ((total [⟨xs, true, 5, 0, true⟩] : Nat) : Int) = 3 + (n : Int) := by simp [total_cons, total_nil, Cl.size]; have := HN.out; omega
            have HP := Lib.hid hp
            clear hp
            have HH := Lib.hid (has_yes [⟨xs, true, 5, 0, true⟩] [] ⟨xs, false, 5, 0, true⟩ HA4.out rfl (by simp [total_cons, total_nil, Cl.size]; have := HN.out; omega))
            rw [HP.out] at HH
            go_wp2_with fail
            refine HH.out.mono ?_
            rintro e v5 ⟨rfl, hb5⟩
            have HL := Lib.hid (len_yes [⟨xs, true, 5, 0, true⟩] [] ⟨xs, false, 5, 0, true⟩ (HA4.out.below hb5) rfl (by simp [total_cons, total_nil, Cl.size]; have := HN.out; omega))
            rw [HP.out, HX.out] at HL
            have HB5 := Lib.hid (HB4.out.trans (hb5.mono HB4.out.size))
            clear hb5
            go_wp2_with fail
            refine HL.out.mono ?_
            rintro e v6 ⟨rfl, hb6⟩
            have HB6 := Lib.hid (HB5.out.trans (hb6.mono HB5.out.size))
            clear hb6
            go_wp2
            go_ret
            exact ⟨rfl, HB6.out⟩
          · have HX0 := Lib.hid (none_at xs x hx0 (by have := HN.out; omega))
            have q0 : (x == 0) = false := by simpa using hx0
            have q3 : (x == 3 + (n : Int)) = false := by simpa using hx3
            clear hx0 hx3
            go_wp2_with fail
            refine (has_no HA4.out HX0.out hx1 hx2).mono ?_
            rintro e v5 ⟨rfl, hb5⟩
            have HA5 := Lib.hid (HA4.out.below hb5)
            have HB5 := Lib.hid (HB4.out.trans (hb5.mono HB4.out.size))
            clear hb5
            go_wp2_with fail
            refine (len_no HA5.out HX0.out hx1 hx2).mono ?_
            rintro e v6 ⟨rfl, hb6⟩
            have HA6 := Lib.hid (HA5.out.below hb6)
            have HB6 := Lib.hid (HB5.out.trans (hb6.mono HB5.out.size))
            clear hb6
            go_wp2_with fail
            refine (lits_no HA6.out HX0.out hx1 hx2).mono ?_
            rintro e v7 ⟨rfl, hb7⟩
            have HA7 := Lib.hid (HA6.out.below hb7)
            have HB7 := Lib.hid (HB6.out.trans (hb7.mono HB6.out.size))
            clear hb7
            go_wp2_with fail
            refine (lit_no HA7.out 0 HX0.out hx1 hx2).mono ?_
            rintro e v8 ⟨rfl, hb8⟩
            have HA8 := Lib.hid (HA7.out.below hb8)
            have HB8 := Lib.hid (HB7.out.trans (hb8.mono HB7.out.size))
            clear hb8
            go_wp2_with fail
            refine (swap_no HA8.out 0 0 HX0.out hx1 hx2).mono ?_
            rintro e v9 ⟨rfl, hb9⟩
            have HA9 := Lib.hid (HA8.out.below hb9)
            have HB9 := Lib.hid (HB8.out.trans (hb9.mono HB8.out.size))
            clear hb9
            go_wp2_with fail
            refine (learned_no HA9.out HX0.out hx1 hx2).mono ?_
            rintro e v10 ⟨rfl, hb10⟩
            have HA10 := Lib.hid (HA9.out.below hb10)
            have HB10 := Lib.hid (HB9.out.trans (hb10.mono HB9.out.size))
            clear hb10
            go_wp2_with fail
            refine (glue_no HA10.out HX0.out hx1 hx2).mono ?_
            rintro e v11 ⟨rfl, hb11⟩
            have HA11 := Lib.hid (HA10.out.below hb11)
            have HB11 := Lib.hid (HB10.out.trans (hb11.mono HB10.out.size))
            clear hb11
            go_wp2_with fail
            refine (setglue_no HA11.out 1 HX0.out hx1 hx2).mono ?_
            rintro e v12 ⟨rfl, hb12⟩
            have HA12 := Lib.hid (HA11.out.below hb12)
            have HB12 := Lib.hid (HB11.out.trans (hb12.mono HB11.out.size))
            clear hb12
            go_wp2_with fail
            refine (uses_no HA12.out HX0.out hx1 hx2).mono ?_
            rintro e v13 ⟨rfl, hb13⟩
            have HA13 := Lib.hid (HA12.out.below hb13)
            have HB13 := Lib.hid (HB12.out.trans (hb13.mono HB12.out.size))
            clear hb13
            go_wp2_with fail
            refine (setuses_no HA13.out 1 HX0.out hx1 hx2).mono ?_
            rintro e v14 ⟨rfl, hb14⟩
            have HA14 := Lib.hid (HA13.out.below hb14)
            have HB14 := Lib.hid (HB13.out.trans (hb14.mono HB13.out.size))
            clear hb14
            go_wp2_with fail
            refine (drop_no HA14.out HX0.out hx1 hx2).mono ?_
            rintro e v15 ⟨rfl, hb15⟩
            have HA15 := Lib.hid (HA14.out.below hb15)
            have HB15 := Lib.hid (HB14.out.trans (hb15.mono HB14.out.size))
            clear hb15
            have HC := Lib.hid (count_any HA15.out)
            have HW := Lib.hid (words_any HA15.out)
            rw [two_count] at HC
            rw [two_total, ← HN.out] at HW
            go_wp2_with fail
            refine HC.out.mono ?_
            rintro e v16 ⟨rfl, rfl⟩
            go_wp2_with fail
            refine HW.out.mono ?_
            rintro e v16 ⟨rfl, rfl⟩
            go_wp2
            go_ret
            exact ⟨rfl, HB15.out⟩
end Go.Proofs.Ytnnoogblmcbclaa
