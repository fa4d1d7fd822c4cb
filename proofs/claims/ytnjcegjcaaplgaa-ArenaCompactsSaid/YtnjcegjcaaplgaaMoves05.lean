/- The statement on moving, walked. -/
import Derived.Test.YtnjcegjcaaplgaaRooms05
import Derived.Test.YtnjcegjcaaplgaaCompact
import Derived.Test.YtnjcegjcaaplgaaMovesMath
namespace Go.Proofs.Ytnjcegjcaaplgaa
open Go.RowKit
set_option linter.unusedVariables false
set_option linter.unusedSimpArgs false

def sevens (ns : List Int) : List Nat := ns.map fun n => (n % 7).toNat
theorem sevens_length (ns : List Int) : (sevens ns).length = ns.length := by simp [sevens]
theorem sevens_le (ns : List Int) : ∀ z ∈ sevens ns, z ≤ 6 := by
  intro z hz
  obtain ⟨n, _, rfl⟩ := List.mem_map.1 hz
  omega
theorem sevens_snoc (ns : List Int) {k : Nat} (hk : k < ns.length) : sevens (ns.take (k + 1)) = sevens (ns.take k) ++ [(ns.getD k 0 % 7).toNat] := by
  unfold sevens
  rw [List.take_add_one, List.map_append, List.getD_eq_getElem?_getD, List.getElem?_eq_getElem hk]
  simp

theorem Ar.grown_row {w w' : World} {base g b : Nat} {gw row : Option Nat} {lim : Int} {cs : List Cl} (h : Ar w base g b gw lim cs) (hg : w.grownBy w' row) (h1 : some g ≠ row) (h2 : some b ≠ row) (h3 : ∀ q, row = some q → some q ≠ gw) : Ar w' base g b gw lim cs := by
  obtain ⟨A, c, e1, e2, e3⟩ := h.ex
  refine ⟨⟨A, c, e1.grown hg h1, ⟨e2.1, ?_⟩, e3⟩, ?_, h.hg, h.hb⟩
  · rcases e2.2 with hn | ⟨q, cap, cur, hv, hb, hc, rest⟩
    · exact .inl hn
    · refine .inr ⟨q, cap, cur, hv, hb, (hg.block q (Array.getElem?_eq_some_iff.1 hc).1 ?_).trans hc, rest⟩
      intro e
      exact h3 q e.symm (by rw [← e3, hv]; rfl)
  · obtain ⟨D, n, hm, rest⟩ := h.map
    exact ⟨D, n, hm.kept hg h2, rest⟩
theorem sevens_getD (ns : List Int) {k : Nat} (hk : k < ns.length) : (sevens ns).getD k 0 = (ns.getD k 0 % 7).toNat := by
  unfold sevens
  rw [List.getD_eq_getElem?_getD, List.getD_eq_getElem?_getD, List.getElem?_map, List.getElem?_eq_getElem hk]
  rfl
/-- the row of a clause's literals, as far as it has been filled -/
def fillTo (i z j : Nat) : List Int := (List.range z).map fun (t : Nat) => if t < j then 10 * (i : Int) + t + 1 else 0
theorem fillTo_length (i z j : Nat) : (fillTo i z j).length = z := by simp [fillTo]
theorem fillTo_start (i z : Nat) : (madeCells (Value.int .i64 0).cells (z * 1)).toList = (fillTo i z 0).map (Value.int .i64) := by
  rw [made_zeros]
  congr 1
  apply List.ext_getElem
  · simp [fillTo]
  · intro t h1 h2
    simp [fillTo]
theorem fillTo_end (i z : Nat) : fillTo i z z = litsFrom i z := by
  apply List.ext_getElem
  · simp [fillTo, litsFrom]
  · intro t h1 h2
    have : t < z := by simpa [fillTo] using h1
    simp [fillTo, litsFrom, this]
theorem fillTo_step (i z j : Nat) (hj : j < z) : (fillTo i z j).set j (10 * (i : Int) + j + 1) = fillTo i z (j + 1) := by
  apply List.ext_getElem
  · simp [fillTo]
  · intro t h1 h2
    have ht : t < z := by simpa [fillTo] using h2
    rw [List.getElem_set]
    by_cases hjt : j = t
    · subst hjt
      rw [if_pos rfl]
      simp [fillTo]
    · rw [if_neg hjt]
      simp only [fillTo, List.getElem_map, List.getElem_range]
      by_cases h : t < j
      · rw [if_pos h, if_pos (by omega)]
      · rw [if_neg h, if_neg (by omega)]
theorem own_setAt {w : World} {base e L n c : Nat} {xs : List Int} (h : w.ownsRow base e 1 (.slice (some ⟨L, 0, none⟩) n c) n (xs.map (Value.int .i64))) (j : Nat) (u : Int) : (w.setCell ⟨L, j, none⟩ (.int .i64 u)).ownsRow base e 1 (.slice (some ⟨L, 0, none⟩) n c) n ((xs.set j u).map (Value.int .i64)) := by
  refine ⟨by rw [List.length_map, List.length_set]; simpa using h.1, ?_⟩
  rcases h.2 with ⟨hv, _⟩ | ⟨g', cap', cur, hv, hb', hg', hnc, hmx, hcs, htk⟩
  · cases hv
  · injection hv with hA _ hC
    injection hA with hA
    injection hA with hA
    subst hA hC
    refine .inr ⟨L, c, cur.setIfInBounds j (.int .i64 u), rfl, hb', ?_, hnc, hmx, by rw [Array.size_setIfInBounds]; exact hcs, ?_⟩
    · simp [World.setCell, Array.getElem?_modify, hg']
    · rw [Array.toList_setIfInBounds, List.take_set, htk, List.map_set]

/-- a bit of the number -/
def bitOf (x : Int) (k : Nat) : Bool := bits BinOp.and IntKind.u64 (x / 2 ^ k) 1 == 1

set_option maxRecDepth 100000 in
set_option maxHeartbeats 30000000 in
theorem moves_any (ns : List Int) (A : Option Addr) (c : Nat) (x : Int) (w : World) (hx1 : 0 ≤ x) (hx2 : x ≤ 18446744073709551615) (hn : ns.length ≤ 9223372036854775807) (hz : ∀ j, 0 ≤ ns.getD j 0 ∧ ns.getD j 0 ≤ 255) (h : KInts .u8 w w.heap.size A ns) :
    Calls Try.prog 4 #[.slice A ns.length c, .int .u64 x] w fun e w' => e = .returned (.bool true) ∧ Below w.heap.size w w' := by
  obtain ⟨i0, hi, hz0, hz1, hz2⟩ := info_parts infoInt
  have H := Lib.hid h
  have HZ := Lib.hid hz
  clear h hz
  go_enter Try.func4, Try.ntmps4
  go_wp2_with fail
  refine (fit_any _).mono ?_
  rintro e w1 ⟨rfl, hb1⟩
  by_cases h60 : 60 < ns.length
  · go_wp2
    go_ret
    exact ⟨rfl, hb1⟩
  · have HB1 := Lib.hid hb1
    clear hb1
    go_wp2_with fail
    refine (new_any 0 w.heap.size w1 HB1.out.size).mono ?_
    rintro e w2 ⟨g, b, rfl, har, hb2⟩
    have HB2 := Lib.hid (HB1.out.trans (hb2.mono HB1.out.size))
    have HAR := Lib.hid har
    clear har hb2
    go_wp2_with fail
    go_loopg [6, 33] (ns.length + 1) (fun gk v i wr => ∃ (k : Nat) (B : Option Addr) (cc : Nat) (gw : Option Nat), k ≤ ns.length ∧ gk = ns.length - k + 1 ∧ i = .int .i64 k ∧ v = .slice B k cc ∧
      Ar wr w.heap.size g b gw 0 (ccls 0 (sevens (ns.take k))) ∧ wr.ownsRow w2.heap.size 3 1 (.slice B k cc) k ((startsFrom 0 (ccls 0 (sevens (ns.take k)))).map (Value.int .i64)) ∧ (∀ j, (Value.slice B k cc).ownBlock = some j → some j ≠ gw) ∧ Below w.heap.size w wr ∧ w2.heap.size ≤ wr.heap.size)
    case atStart => exact ⟨0, none, 0, none, by omega, by omega, rfl, rfl, HAR.out, World.ownsRow_nil _ _ _ _, fun j hj => (by cases hj), HB2.out, Nat.le_refl _⟩
    case round =>
      obtain ⟨k, B, cc, gw, hk, rfl, rfl, rfl, har, hown, hne, hb, hsz⟩ := hrel
      obtain ⟨wo, rfl⟩ : ∃ wo, wo = wr := ⟨_, rfl⟩
      have HA := Lib.hid har
      have HO := Lib.hid hown
      have HB := Lib.hid hb
      have HNE := Lib.hid hne
      clear har hown hb hne
      by_cases hlt : k < ns.length
      · obtain ⟨b2, off, rfl, _, hcell⟩ := (Cells.below H.out HB.out).at_ hlt
        obtain ⟨hz1', hz2'⟩ := HZ.out k
        have HS := Lib.hid (sevens_snoc ns hlt)
        obtain ⟨zn, hzn⟩ : ∃ zn : Nat, ns.getD k 0 = zn := ⟨(ns.getD k 0).toNat, by omega⟩
        rw [hzn, show ((zn : Int) % 7).toNat = zn % 7 by omega] at HS
        simp only [hzn] at hcell hz1' hz2'
        clear hzn
        have hm : ((zn : Int) % 7) = ((zn % 7 : Nat) : Int) := by omega
        have HM := Lib.hid hm
        clear hm
        go_wp2_with (at_make; refine wpList_make_full _ rfl _ _ 31 rfl wo.heap.size 3 i0 (.int .i64 0) 1 Try.underlying31 hi hz0 hz1 .i64 .i64 _ _ (zn % 7) rfl rfl HM.out HM.out (by rw [hz2]; omega) (by unfold maxLen; omega) (Nat.le_refl _) ?_; intro w3 hown3 hg3)
        obtain ⟨z7, h7⟩ : ∃ z7, z7 = zn % 7 := ⟨_, rfl⟩
        rw [← h7] at hown3 HS HM ⊢
        have hz7 : z7 ≤ 6 := by omega
        have H7 := Lib.hid h7
        clear h7
        have hb3 : Below wo.heap.size wo w3 := ⟨hg3.os, hg3.tape, hg3.output, hg3.size, fun k hk => hg3.block k hk (by simp)⟩
        rw [fillTo_start k] at hown3
        have HO3 := Lib.hid hown3
        have HB3 := Lib.hid hb3
        clear hown3 hg3 hb3
        rw [HM.out]
        go_loopg [44] (z7 + 1) (fun gj v wi => ∃ j : Nat, j ≤ z7 ∧ gj = z7 - j + 1 ∧ v = .int .i64 j ∧ wi.ownsRow wo.heap.size 3 1 (.slice (some ⟨wo.heap.size, 0, none⟩) z7 z7) z7 ((fillTo k z7 j).map (Value.int .i64)) ∧ Below wo.heap.size wo wi)
        case atStart => exact ⟨0, by omega, by omega, rfl, HO3.out, HB3.out⟩
        case round =>
          obtain ⟨j, hj, rfl, rfl, hown, hb⟩ := hrel
          have HOI := Lib.hid hown
          have HBI := Lib.hid hb
          clear hown hb HO3 HB3
          by_cases hjz : j < z7
          · obtain ⟨u0, hc0⟩ : ∃ u0 : Value, wr.cell? ⟨wo.heap.size, j, none⟩ = some u0 := by
              rw [World.ownsRow.cellAt HOI.out j (by omega)]
              exact ⟨_, List.getElem?_eq_getElem (by rw [List.length_map, fillTo_length]; exact hjz)⟩
            have hf0 := World.ownsRow.frozenAt HOI.out j
            go_wp2_with fail
            go_roundg (z7 - j)
            case measure => omega
            case rel => exact ⟨j + 1, by omega, by omega, by go_num, by rw [← fillTo_step k z7 j hjz]; exact own_setAt HOI.out j _, HBI.out.setCell (Nat.le_refl _) _⟩
          · obtain rfl : j = z7 := by omega
            have hbe : ((k : Int) % 2 == 0) = decide (k % 2 = 0) := by
              by_cases h2 : k % 2 = 0
              · rw [decide_eq_true h2, beq_iff_eq]; omega
              · rw [decide_eq_false h2, beq_eq_false_iff_ne]; omega
            have ha3 := HA.out.below HBI.out
            have ho3 := HOI.out
            rw [fillTo_end] at ho3
            have hll : (litsFrom k j).length = j := by simp [litsFrom]
            have hlk : (ns.take k).length = k := by rw [List.length_take]; omega
            have htk := ccls_total (sevens (ns.take k)) 6 (sevens_le _) 0
            rw [sevens_length, hlk] at htk
            have hsrc := HA.out.made_source (w1 := wr) (xs := litsFrom k j) (by rw [hll]; exact ho3)
            have HA3 := Lib.hid ha3
            have HSRC := Lib.hid hsrc
            have HBE := Lib.hid hbe
            clear hbe ha3 ho3 hsrc
            have hor : wr.ownsRow w2.heap.size 3 1 (.slice B k cc) k ((startsFrom 0 (ccls 0 (sevens (ns.take k)))).map (Value.int .i64)) := own_below HO.out HBI.out fun q hq => (HO.out.lt q hq).2
            have HOR := Lib.hid hor
            clear hor
            go_wp2_with fail
            rw [HBE.out]
            refine (add_room_n HA3.out _ (litsFrom k j) j j hll (decide (k % 2 = 0)) k (by omega) (by omega) (by omega) (.inl (by omega)) HSRC.out).mono ?_
            rintro e w4 ⟨rfl, ⟨gw4, ha4, hlat⟩, ht4⟩
            have hqn : ∀ q, (Value.slice B k cc).ownBlock = some q → q ≠ g ∧ q ≠ b ∧ some q ≠ gw := fun q hq => by
              have h1 := (HO.out.lt q hq).1
              exact ⟨by have := HAR.out.glt; omega, by have := HAR.out.blt; omega, HNE.out q hq⟩
            have ho4 := own_turn HOR.out ht4 hqn
            have hne4 : ∀ q, (Value.slice B k cc).ownBlock = some q → some q ≠ gw4 := fun q hq => by
              rcases hlat with e | ⟨t, e, ht⟩
              · rw [e]; exact (hqn q hq).2.2
              · rw [e]; intro e'; injection e' with e'; have := (HOR.out.lt q hq).2; omega
            have hb4 : Below w.heap.size w w4 := (HB.out.trans (HBI.out.mono HB.out.size)).trans (HA3.out.turn_below ht4 (by have := HB.out.size; have := HBI.out.size; omega))
            have hs4 : w2.heap.size ≤ w4.heap.size := by have := HBI.out.size; have := ht4.size; omega
            have hcl : ccls 0 (sevens (ns.take k)) ++ [(⟨litsFrom k j, decide (k % 2 = 0), least k, 0, true⟩ : Cl)] = ccls 0 (sevens (ns.take (k + 1))) := by
              rw [HS.out, ccls_snoc, sevens_length, hlk]
              have : least (k : Int) = k := by unfold least; omega
              rw [this]; rfl
            rw [hcl] at ha4
            have hss : (startsFrom 0 (ccls 0 (sevens (ns.take k)))).map (Value.int .i64) ++ [.int .i64 (total (ccls 0 (sevens (ns.take k))) : Nat)] = (startsFrom 0 (ccls 0 (sevens (ns.take (k + 1))))).map (Value.int .i64) := by
              rw [← hcl, startsFrom_append, List.map_append, Nat.zero_add]; rfl
            obtain ⟨p, hp⟩ : ∃ p, p = total (ccls 0 (sevens (ns.take k))) := ⟨_, rfl⟩
            rw [← hp] at hss htk ⊢
            have HA4 := Lib.hid ha4
            have HO4 := Lib.hid ho4
            have HNE4 := Lib.hid hne4
            have HB4 := Lib.hid hb4
            have HSS := Lib.hid hss
            clear ha4 ho4 hne4 hb4 hss hcl hqn hlat ht4 hp HOR HSRC HA3 HO HA HBI HOI hll hlk
            go_wp2_with (at_builtin; refine wpList_append1 _ rfl _ _ 31 rfl w2.heap.size 3 i0 (.int .i64 0) 8 Try.underlying31 hi hz0 hz1 hz2 rfl _ k _ rfl (HO4.out.alloc _) (.int .i64 p) w4.heap.size rfl ((Blk.new w4 _ #[Value.int .i64 p]).cell 0) rfl (by unfold maxLen; omega) (by omega) (by simp; omega) ?_)
            intro v' w5 hown5 hg5 hat5
            obtain ⟨A3, c3, hv3, -⟩ := own_slice hown5
            subst hv3
            have hqn : ∀ q, (Value.slice B k cc).ownBlock = some q → w2.heap.size ≤ q ∧ q < w4.heap.size := fun q hq => HO4.out.lt q hq
            have ha5 : Ar w5 w.heap.size g b gw4 0 (ccls 0 (sevens (ns.take (k + 1)))) := by
              refine (HA4.out.below ((Below.refl w4.heap.size w4).alloc (Nat.le_refl _) _)).grown_row hg5 ?_ ?_ (fun q hq => HNE4.out q hq)
              · intro e; have := (hqn g e.symm).1; have := HAR.out.glt; omega
              · intro e; have := (hqn b e.symm).1; have := HAR.out.blt; omega
            have hb5 : Below w.heap.size w w5 := (HB4.out.alloc HB4.out.size _).grown hg5 (by have := HB4.out.size; simp; omega) (fun q hq => by have := (hqn q hq).1; have := HB2.out.size; omega)
            have hs5 : w2.heap.size ≤ w5.heap.size := by have := hg5.size; simp at this; omega
            have hne5 : ∀ q, (Value.slice A3 (k + 1) c3).ownBlock = some q → some q ≠ gw4 := fun q hq => by
              rcases hat5 with e | e
              · exact HNE4.out q (e ▸ hq)
              · rw [e] at hq
                injection hq with hq
                intro e'
                have := (HA4.out.wlt q e'.symm).2
                omega
            rw [HSS.out] at hown5
            have HA5 := Lib.hid ha5
            have HB5 := Lib.hid hb5
            have HO5 := Lib.hid hown5
            have HNE5 := Lib.hid hne5
            clear ha5 hb5 hown5 hne5 hat5 hg5 hqn
            go_wp2
            go_roundg (ns.length - k)
            case measure => omega
            case rel => exact ⟨k + 1, A3, c3, gw4, by omega, by omega, by go_num, rfl, HA5.out, HO5.out, HNE5.out, HB5.out, hs5⟩
      · obtain rfl : k = ns.length := by omega
        have ha := HA.out
        have ho := HO.out
        rw [List.take_length] at ha ho
        obtain ⟨zs, hzs⟩ : ∃ zs, zs = sevens ns := ⟨_, rfl⟩
        have hzl : zs.length = ns.length := by rw [hzs, sevens_length]
        rw [← hzs] at ha ho
        have HZS := Lib.hid hzs
        have HZL := Lib.hid hzl
        have HA1 := Lib.hid ha
        have HO1 := Lib.hid ho
        clear ha ho hzs hzl HA HO
        go_wp2_with fail
        obtain ⟨d, hd⟩ : ∃ d : Nat → Bool, d = bitOf x := ⟨_, rfl⟩
        go_loopg [13, 14, 73] (ns.length + 1) (fun gk s t i wr => ∃ (k : Nat), k ≤ ns.length ∧ gk = ns.length - k + 1 ∧ i = .int .i64 k ∧ s = .int .i64 (total (live (mark d 0 (upTo zs k))) : Nat) ∧ t = .int .i64 (countOf (mark d 0 (upTo zs k)) : Nat) ∧
          Ar wr w.heap.size g b gw 0 (mark d 0 (upTo zs k) ++ fromOn zs k) ∧ wr.ownsRow w2.heap.size 3 1 (.slice B ns.length cc) ns.length ((startsFrom 0 (ccls 0 zs)).map (Value.int .i64)) ∧ Below w.heap.size w wr)
        case atStart => exact ⟨0, by omega, by omega, rfl, rfl, rfl, HA1.out, HO1.out, HB.out⟩
        case round =>
          obtain ⟨k, hk, rfl, rfl, rfl, rfl, har, hown, hb⟩ := hrel
          obtain ⟨s, hs⟩ : ∃ s, s = total (live (mark d 0 (upTo zs k))) := ⟨_, rfl⟩
          obtain ⟨t, ht⟩ : ∃ t, t = countOf (mark d 0 (upTo zs k)) := ⟨_, rfl⟩
          rw [← hs, ← ht]
          have HS := Lib.hid hs
          have HT := Lib.hid ht
          have HA := Lib.hid har
          have HO := Lib.hid hown
          have HBW := Lib.hid hb
          clear hs ht har hown hb HA1 HO1
          by_cases hlt : k < ns.length
          · have hzk : k < zs.length := by rw [HZL.out]; exact hlt
            obtain ⟨gB, rfl, hgB1, hgB2⟩ := own_addr HO.out (by omega)
            have hcB : wr.cell? ⟨gB, k, none⟩ = some (.int .i64 (total (upTo zs k) : Nat)) := by
              rw [World.ownsRow.cellAt HO.out k (by omega), ← starts_upTo zs hzk, List.getElem?_map, List.getD_eq_getElem?_getD, List.getElem?_eq_getElem (by rw [startsFrom_length, ccls_length]; exact hzk)]
              rfl
            obtain ⟨b2, off, rfl, _, hcell⟩ := (Cells.below H.out HBW.out).at_ hlt
            obtain ⟨hz1', hz2'⟩ := HZ.out k
            have hzz := sevens_getD ns hlt
            rw [← HZS.out] at hzz
            obtain ⟨zn, hzn⟩ : ∃ zn : Nat, ns.getD k 0 = zn := ⟨(ns.getD k 0).toNat, by omega⟩
            rw [hzn, show ((zn : Int) % 7).toNat = zn % 7 by omega] at hzz
            simp only [hzn] at hcell hz1' hz2'
            have hut := upTo_total zs (by rw [HZS.out]; exact sevens_le ns) k
            rw [HZL.out] at hut
            obtain ⟨p, hp⟩ : ∃ p, p = total (upTo zs k) := ⟨_, rfl⟩
            rw [← hp] at hcB hut
            have hle : s ≤ p := by rw [HS.out, hp, ← mark_total d (upTo zs k) 0]; exact total_live_le _
            have hte : t ≤ k := by have := countOf_le (mark d 0 (upTo zs k)); rw [mark_length, upTo_length zs (Nat.le_of_lt hzk)] at this; rw [HT.out]; exact this
            have HZZ := Lib.hid hzz
            have HP := Lib.hid hp
            have HD := Lib.hid hd
            clear hzn hzz hp hd
            cases hq : (bits BinOp.and IntKind.u64 (x / 2 ^ k) 1 == 1)
            · have hdk : d k = false := by rw [HD.out]; exact hq
              have hw := words_no d zs hzk hdk
              have hst := step_no d zs hzk hdk
              go_wp2_with fail
              go_roundg (ns.length - k)
              case measure => omega
              case rel =>
                refine ⟨k + 1, by omega, by omega, by go_num, ?_, ?_, ?_, HO.out, HBW.out⟩
                · rw [hw, total_snoc, ccl_size, HZZ.out, ← HS.out]
                  refine congrArg (Value.int .i64) ?_
                  omega
                · rw [← live_length, hw, List.length_append, live_length, ← HT.out]
                  rfl
                · have := HA.out
                  rw [fromOn_cons zs hzk] at this
                  rw [hst, List.append_assoc]
                  exact this
            · have hdk : d k = true := by rw [HD.out]; exact hq
              have hw := words_yes d zs hzk hdk
              have hst := step_yes d zs hzk hdk
              have har := HA.out
              rw [fromOn_cons zs hzk] at har
              have hdr := drop_yes (mark d 0 (upTo zs k)) (fromOn zs (k + 1)) (ccl k (zs.getD k 0)) har rfl (by rw [← fromOn_cons zs hzk, total_append, mark_total, ← HP.out]; omega)
              rw [mark_total, ← HP.out] at hdr
              have HDR := Lib.hid hdr
              clear hdr
              go_wp2_with fail
              refine HDR.out.mono ?_
              rintro e w4 ⟨rfl, ha4, ht4⟩
              have hqn : ∀ q, (Value.slice (some ⟨gB, 0, none⟩) ns.length cc).ownBlock = some q → q ≠ g ∧ q ≠ b ∧ some q ≠ gw := fun q hq => by
                have h1 := (HO.out.lt q hq).1
                exact ⟨by have := HAR.out.glt; omega, by have := HAR.out.blt; omega, HNE.out q hq⟩
              have ho4 := own_turn HO.out ht4 hqn
              have hb4 : Below w.heap.size w w4 := HBW.out.trans (har.turn_below ht4 HBW.out.size)
              have HA4 := Lib.hid ha4
              have HO4 := Lib.hid ho4
              have HB4 := Lib.hid hb4
              clear ha4 ht4 ho4 hb4 hqn har
              go_wp2
              go_roundg (ns.length - k)
              case measure => omega
              case rel =>
                refine ⟨k + 1, by omega, by omega, by go_num, ?_, ?_, ?_, HO4.out, HB4.out⟩
                · rw [hw, ← HS.out]
                · rw [← live_length, hw, live_length, ← HT.out]
                · rw [hst, List.append_assoc]
                  exact HA4.out
          · obtain rfl : k = ns.length := by omega
            have har := HA.out
            have hup : upTo zs ns.length = ccls 0 zs := upTo_all zs (by rw [HZL.out]; exact Nat.le_refl _)
            rw [fromOn_all zs (by rw [HZL.out]; exact Nat.le_refl _), List.append_nil, hup] at har
            have hs := HS.out
            have ht := HT.out
            rw [hup] at hs ht
            have htot := upTo_total zs (by rw [HZS.out]; exact sevens_le ns) ns.length
            rw [hup, HZL.out] at htot
            have hMt : total (mark d 0 (ccls 0 zs)) = total (ccls 0 zs) := mark_total d _ 0
            have hMl : (mark d 0 (ccls 0 zs)).length = ns.length := by rw [mark_length, ccls_length, HZL.out]
            obtain ⟨M, hM⟩ : ∃ M, M = mark d 0 (ccls 0 zs) := ⟨_, rfl⟩
            rw [← hM] at har hs ht hMt hMl
            have HCO := Lib.hid (compact_any har (by omega))
            have HAA := Lib.hid har
            have HS2 := Lib.hid hs
            have HT2 := Lib.hid ht
            have HMM := Lib.hid hM
            have HMT := Lib.hid hMt
            have HML := Lib.hid hMl
            have HTO := Lib.hid htot
            have HD := Lib.hid hd
            have hsb : s ≤ 540 := by have := total_live_le M; omega
            have htb : t ≤ 60 := by have := countOf_le M; omega
            clear har hs ht hM hMt hMl htot hd HS HT HA hup
            go_wp2_with fail
            refine HCO.out.mono ?_
            rintro e w4 ⟨bm, rfl, ha4, ht4, hmv, hbm⟩
            have hqn : ∀ q, (Value.slice B ns.length cc).ownBlock = some q → q ≠ g ∧ q ≠ b ∧ some q ≠ gw := fun q hq => by
              have h1 := (HO.out.lt q hq).1
              exact ⟨by have := HAR.out.glt; omega, by have := HAR.out.blt; omega, HNE.out q hq⟩
            have ho4 := own_turn HO.out ht4 hqn
            have hb4 : Below w.heap.size w w4 := HBW.out.trans (HAA.out.turn_below ht4 HBW.out.size)
            obtain ⟨D, n, hm, hh, hk, hsD, hnM⟩ := hmv.data
            have hwd := words_any ha4
            have hcn := count_any ha4
            rw [← HS2.out] at hwd
            rw [count_live, ← HT2.out] at hcn
            rw [← HT2.out] at hsD
            have hlen := hm.len Try.underlying45 3
            rw [hsD] at hlen
            have HWD := Lib.hid hwd
            have HCN := Lib.hid hcn
            have HA4 := Lib.hid ha4
            have HO4 := Lib.hid ho4
            have HB4 := Lib.hid hb4
            have HM4 := Lib.hid hm
            have HH4 := Lib.hid (And.intro hh (And.intro hk (And.intro hsD hnM)))
            clear hwd hcn ha4 ho4 hb4 hm hh hk hsD hnM hqn hmv ht4
            go_wp2_with fail
            refine HWD.out.mono ?_
            rintro e w5 ⟨rfl, rfl⟩
            go_wp2_with fail
            refine HCN.out.mono ?_
            rintro e w5 ⟨rfl, rfl⟩
            go_wp2_with fail
            go_loopg [118] (ns.length + 1) (fun gk i wr => ∃ (k : Nat), k ≤ ns.length ∧ gk = ns.length - k + 1 ∧ i = .int .i64 k ∧ Below w4.heap.size w4 wr)
            case atStart => exact ⟨0, by omega, by omega, rfl, Below.refl _ _⟩
            case round =>
              obtain ⟨k, hk, rfl, rfl, hb0⟩ := hrel
              have HB0 := Lib.hid hb0
              clear hb0 hlen
              have hbw : ∀ v, Below w4.heap.size w4 v → Below w.heap.size w v := fun v hv => HB4.out.trans (hv.mono HB4.out.size)
              by_cases hlt : k < ns.length
              · have hzk : k < zs.length := by rw [HZL.out]; exact hlt
                obtain ⟨gB, rfl, hgB1, hgB2⟩ := own_addr HO4.out (by omega)
                have hcB : wr.cell? ⟨gB, k, none⟩ = some (.int .i64 (total (upTo zs k) : Nat)) := by
                  rw [World.ownsRow.cellAt (own_below HO4.out HB0.out fun q hq => (HO4.out.lt q hq).2) k (by omega), ← starts_upTo zs hzk, List.getElem?_map, List.getD_eq_getElem?_getD, List.getElem?_eq_getElem (by rw [startsFrom_length, ccls_length]; exact hzk)]
                  rfl
                have hsplit := mark_split d zs hzk
                rw [← HMM.out] at hsplit
                have hut := upTo_total zs (by rw [HZS.out]; exact sevens_le ns) k
                rw [HZL.out] at hut
                have hpm : total (mark d 0 (upTo zs k)) = total (upTo zs k) := mark_total d _ 0
                have hh := HH4.out.1 (total (upTo zs k))
                obtain ⟨p, hp⟩ : ∃ p, p = total (upTo zs k) := ⟨_, rfl⟩
                rw [← hp] at hcB hut hpm hh
                have hmr : wr.ownsMap Try.prog 3 (plainElem (H := Unit) Try.prog 3) bm n D := HM4.out.kept ⟨HB0.out.os, HB0.out.tape, HB0.out.output, HB0.out.size, fun q hq _ => HB0.out.block q hq⟩ (row := none) (by simp)
                have HMR := Lib.hid hmr
                have HPM := Lib.hid hpm
                have HP := Lib.hid hp
                clear hmr hp
                cases hq : (bits BinOp.and IntKind.u64 (x / 2 ^ k) 1 == 1)
                · have hdk : d k = false := by rw [HD.out]; exact hq
                  rw [hdk] at hsplit
                  have hhas : Maps.has D (.int .i64 p) = true := by rw [hh, hsplit, ← HPM.out, at?_mid]; rfl
                  have hmv := moved_mid (mark d 0 (upTo zs k)) (mark d (k + 1) (fromOn zs (k + 1))) (ccl k (zs.getD k 0)) rfl
                  have hsp2 : M = mark d 0 (upTo zs k) ++ ccl k (zs.getD k 0) :: mark d (k + 1) (fromOn zs (k + 1)) := hsplit
                  rw [← hsp2, HPM.out] at hmv
                  have hlv := live_mid (mark d 0 (upTo zs k)) (mark d (k + 1) (fromOn zs (k + 1))) (ccl k (zs.getD k 0)) rfl
                  rw [← hsp2] at hlv
                  have htl : total (live M) ≤ 540 := by rw [← HS2.out]; exact hsb
                  obtain ⟨pp, hpp⟩ : ∃ pp, pp = live (mark d 0 (upTo zs k)) := ⟨_, rfl⟩
                  obtain ⟨qq, hqq⟩ : ∃ qq, qq = live (mark d (k + 1) (fromOn zs (k + 1))) := ⟨_, rfl⟩
                  rw [← hpp] at hmv hlv
                  rw [← hqq] at hlv
                  have hzz := sevens_getD ns hlt
                  rw [← HZS.out] at hzz
                  obtain ⟨b2, off, rfl, _, hcell⟩ := (Cells.below H.out (hbw wr HB0.out)).at_ hlt
                  obtain ⟨hz1', hz2'⟩ := HZ.out k
                  obtain ⟨zn, hzn⟩ : ∃ zn : Nat, ns.getD k 0 = zn := ⟨(ns.getD k 0).toNat, by omega⟩
                  rw [hzn, show ((zn : Int) % 7).toNat = zn % 7 by omega] at hzz
                  have hce : ∀ v, Below w4.heap.size w4 v → v.cell? ⟨b2, off + k, none⟩ = some (.int .u8 zn) := fun v hv => by
                    obtain ⟨b3, off3, e3, _, hc3⟩ := (Cells.below H.out (hbw v hv)).at_ hlt
                    injection e3 with e3
                    injection e3 with e3 e4
                    subst e3 e4
                    simp only [hzn] at hc3
                    exact hc3
                  simp only [hzn] at hcell hz1' hz2'
                  have hbe : ((k : Int) % 2 == 0) = decide (k % 2 = 0) := by
                    by_cases h2 : k % 2 = 0
                    · rw [decide_eq_true h2, beq_iff_eq]; omega
                    · rw [decide_eq_false h2, beq_eq_false_iff_ne]; omega
                  have hts : total (pp ++ ccl k (zs.getD k 0) :: qq) ≤ 1099511627776 := by rw [← hlv]; omega
                  have hav : ∀ v, Below w4.heap.size w4 v → Ar v w.heap.size g b gw 0 (pp ++ ccl k (zs.getD k 0) :: qq) := fun v hv => by have := HA4.out.below hv; rw [hlv] at this; exact this
                  obtain ⟨e0, he0⟩ : ∃ e0, e0 = total pp := ⟨_, rfl⟩
                  have he1 : e0 ≤ 540 := by have := size_le_total pp qq (ccl k (zs.getD k 0)); rw [← hlv] at this; omega
                  have hG : ∀ v, Below w4.heap.size w4 v → _ := fun v hv => glue_yes pp qq (ccl k (zs.getD k 0)) (hav v hv) rfl hts
                  have hL : ∀ v, Below w4.heap.size w4 v → _ := fun v hv => len_yes pp qq (ccl k (zs.getD k 0)) (hav v hv) rfl hts
                  have hR : ∀ v, Below w4.heap.size w4 v → _ := fun v hv => learned_yes pp qq (ccl k (zs.getD k 0)) (hav v hv) rfl hts
                  have hI : ∀ v, Below w4.heap.size w4 v → _ := fun v hv => lit_yes pp qq (ccl k (zs.getD k 0)) (hav v hv) rfl hts 0
                  rw [← he0] at hG hL hR hI
                  rw [ccl_len, hzz, show ((zn % 7 : Nat) : Int) = (zn : Int) % 7 by omega] at hL
                  rw [show (ccl k (zs.getD k 0)).glue = (k : Int) from rfl] at hG
                  rw [show (ccl k (zs.getD k 0)).learned = decide (k % 2 = 0) from rfl, ← hbe] at hR
                  have hI0 : 0 < (zn : Int) % 7 → (ccl k (zs.getD k 0)).lits.getD 0 0 = 10 * (k : Int) + 1 := fun h => lits_first _ _ (by rw [hzz]; omega)
                  rw [if_neg (by omega), show (0 : Int).toNat = 0 from rfl] at hI
                  have hat0 : ∀ z, D.atKey (.int .i64 p) z = .lit (.int .i64 e0) := fun z => by rw [he0]; exact HH4.out.2.1 _ _ z hmv
                  have HG := Lib.hid hG
                  have HL := Lib.hid hL
                  have HRR := Lib.hid hR
                  have HI := Lib.hid hI
                  have HI0 := Lib.hid hI0
                  have HCE := Lib.hid hce
                  have HAT := Lib.hid hat0
                  have HHA := Lib.hid hhas
                  clear hmv hsp2 hlv htl hpp hqq hzz hzn hce hbe hts hav he0 hG hL hR hI hI0 hat0 hsplit hh hcell
                  go_wp2_with (at_lookup; refine wpList_lookup_own_ok_int _ rfl _ _ 45 rfl 3 3 .i64 intLaw Try.underlying45 Try.underlying3 (zeroInt _) bm n D rfl HMR.out _ (.int .i64 p) rfl (Maps.keyOf_int_mk Try.underlying3 (WalkArith.wf_i64 (by omega))) ?_; intro cv hat hwf)
                  have hcv : cv = e0 := by
                    rw [HAT.out] at hat
                    injection hat with hat
                    injection hat with _ hat
                    exact hat.symm
                  subst hcv
                  have hb1 : Below w4.heap.size w4 wr.drew := HB0.out.drew
                  have hc1 := HCE.out _ hb1
                  clear hat hwf
                  have t1 : (zn : Int).tmod 7 = (zn : Int) % 7 := Int.tmod_eq_emod_of_nonneg (by omega)
                  have t2 : IntKind.i64.wrap ((zn : Int) % 7) = (zn : Int) % 7 := IntWalk.i64_in _ (by omega)
                  have t3 : (k : Int).tmod 2 = (k : Int) % 2 := Int.tmod_eq_emod_of_nonneg (by omega)
                  have t4 : IntKind.i64.wrap (10 * (k : Int)) = 10 * (k : Int) := IntWalk.i64_in _ (by omega)
                  have t5 : IntKind.i64.wrap (10 * (k : Int) + 1) = 10 * (k : Int) + 1 := IntWalk.i64_in _ (by omega)
                  by_cases hpos : 0 < (zn : Int) % 7
                  · have HI2 := HI.out
                    rw [HI0.out hpos] at HI2
                    have HI2 := Lib.hid HI2
                    go_region_held3 (fun w' => w'.cell? ⟨b2, off + k, none⟩ = some (.int .u8 zn))
                      (first | exact KK9.out | exact KK8.out | exact KK7.out | exact KK6.out | exact KK5.out | exact hc1 | go_keep)
                      (first
                        | (go_at_call 15; refine (HG.out wr.drew hb1).mono ?_; rintro e w5 ⟨rfl, hb5'⟩; have HB5 := Lib.hid ((hb1).trans (hb5'.mono (hb1).size)); have KK5 := Lib.hid (HCE.out w5 HB5.out); clear hb5')
                        | (go_at_call 16; refine (HL.out w5 HB5.out).mono ?_; rintro e w6 ⟨rfl, hb6'⟩; have HB6 := Lib.hid ((HB5.out).trans (hb6'.mono (HB5.out).size)); have KK6 := Lib.hid (HCE.out w6 HB6.out); clear hb6')
                        | (go_at_call 17; refine (HRR.out w6 HB6.out).mono ?_; rintro e w7 ⟨rfl, hb7'⟩; have HB7 := Lib.hid ((HB6.out).trans (hb7'.mono (HB6.out).size)); have KK7 := Lib.hid (HCE.out w7 HB7.out); clear hb7')
                        | (go_at_call 16; refine (HL.out w7 HB7.out).mono ?_; rintro e w8 ⟨rfl, hb8'⟩; have HB8 := Lib.hid ((HB7.out).trans (hb8'.mono (HB7.out).size)); have KK8 := Lib.hid (HCE.out w8 HB8.out); clear hb8')
                        | (go_at_call 18; refine (HI2.out w8 HB8.out).mono ?_; rintro e w9 ⟨rfl, hb9'⟩; have HB9 := Lib.hid ((HB8.out).trans (hb9'.mono (HB8.out).size)); have KK9 := Lib.hid (HCE.out w9 HB9.out); clear hb9'))
                    go_wp2_with fail
                    go_roundg (ns.length - k)
                    case measure => omega
                    case rel => exact ⟨k + 1, by omega, by omega, by go_num, HB9.out⟩
                  · have hz0' : (zn : Int) % 7 = 0 := by omega
                    have HL0 := HL.out
                    rw [hz0'] at HL0 t1
                    have HL0 := Lib.hid HL0
                    clear hz0' t2 hpos
                    have t2 : IntKind.i64.wrap 0 = 0 := by decide
                    refine wp_region_held_drew (S := fun w' => w'.cell? ⟨b2, off + k, none⟩ = some (.int .u8 zn)) (by kernel_rfl) hc1 (fun hHeld => ?_)
                    refine wpAnyH_take (i := 0) (oi := { dst := some 136, op := Op.move (Operand.tmp 21), type := 4, pos := "law.go:279", after := #[], guard := none }) (v := .bool true) rfl (by kernel_rfl) (by kernel_rfl) (by kernel_rfl) (fun _ _ _ h => h) (Or.inl ⟨by rfl, ?_⟩) (by assumption) ?_
                    · (intro w9 hSw; (try dsimp only at hSw); go_simp)
                    try simp only [Act.put, List.setIfInBounds_toArray, List.set_cons_zero, List.set_cons_succ]
                    refine wpAnyH_take (i := 1) (oi := { dst := some 137, op := Op.move (Operand.tmp 136), type := 4, pos := "law.go:279", after := #[{ on := 0, ground := Ground.data }], guard := none }) (v := .bool true) rfl (by kernel_rfl) (by kernel_rfl) (by kernel_rfl) (fun _ _ _ h => h) (Or.inl ⟨by rfl, ?_⟩) (by assumption) ?_
                    · (intro w9 hSw; (try dsimp only at hSw); go_simp)
                    try simp only [Act.put, List.setIfInBounds_toArray, List.set_cons_zero, List.set_cons_succ]
                    refine wpAnyH_take (i := 2) (oi := { dst := some 138, op := Op.move (Operand.tmp 5), type := 25, pos := "law.go:279", after := #[{ on := 1, ground := Ground.guard }], guard := some (1, true) }) (v := .pointer (some ⟨g, 0, none⟩)) rfl (by kernel_rfl) (by kernel_rfl) (by kernel_rfl) (fun _ _ _ h => h) (Or.inl ⟨by rfl, ?_⟩) (by assumption) ?_
                    · (intro w9 hSw; (try dsimp only at hSw); go_simp)
                    try simp only [Act.put, List.setIfInBounds_toArray, List.set_cons_zero, List.set_cons_succ]
                    refine wpAnyH_take (i := 3) (oi := { dst := some 139, op := Op.move (Operand.tmp 20), type := 3, pos := "law.go:279", after := #[{ on := 1, ground := Ground.guard }], guard := some (1, true) }) (v := .int .i64 e0) rfl (by kernel_rfl) (by kernel_rfl) (by kernel_rfl) (fun _ _ _ h => h) (Or.inl ⟨by rfl, ?_⟩) (by assumption) ?_
                    · (intro w9 hSw; (try dsimp only at hSw); go_simp)
                    try simp only [Act.put, List.setIfInBounds_toArray, List.set_cons_zero, List.set_cons_succ]
                    refine wpAnyH_take (i := 5) (oi := { dst := some 141, op := Op.move (Operand.tmp 18), type := 3, pos := "law.go:279", after := #[{ on := 1, ground := Ground.guard }], guard := some (1, true) }) (v := .int .i64 k) rfl (by kernel_rfl) (by kernel_rfl) (by kernel_rfl) (fun _ _ _ h => h) (Or.inl ⟨by rfl, ?_⟩) (by assumption) ?_
                    · (intro w9 hSw; (try dsimp only at hSw); go_simp)
                    try simp only [Act.put, List.setIfInBounds_toArray, List.set_cons_zero, List.set_cons_succ]
                    refine wpAnyH_ready (rs := [4]) (by kernel_rfl) (by simp) ?_
                    refine AllReadyH.cons (o := { dst := some 140, op := Op.call { callee := Callee.value (Operand.func 15), args := #[Operand.tmp 138, Operand.tmp 139], argTypes := #[25, 3] }, type := 3, pos := "law.go:279", after := #[{ on := 2, ground := Ground.data }, { on := 3, ground := Ground.data }, { on := 1, ground := Ground.chain }, { on := 1, ground := Ground.guard }], guard := some (1, true) }) rfl (fun K hK => ?_) AllReadyH.nil
                    go_simp
                    refine (HG.out wr.drew hb1).mono ?_
                    rintro e w5 ⟨rfl, hb5'⟩
                    have HB5 := Lib.hid ((hb1).trans (hb5'.mono (hb1).size))
                    have kk5 := HCE.out w5 HB5.out
                    refine hK.out _ _ kk5 (fun hHeld5 => ?_)
                    clear hb5' hK
                    try simp only [Act.put, List.setIfInBounds_toArray, List.set_cons_zero, List.set_cons_succ]
                    refine wpAnyH_take (i := 6) (oi := { dst := some 142, op := Op.binOp BinOp.neq 3 (Operand.tmp 140) (Operand.tmp 141) 3, type := 4, pos := "law.go:279", after := #[{ on := 4, ground := Ground.data }, { on := 5, ground := Ground.data }, { on := 1, ground := Ground.guard }], guard := some (1, true) }) (v := .bool false) rfl (by kernel_rfl) (by kernel_rfl) (by kernel_rfl) (fun _ _ _ h => h) (Or.inl ⟨by rfl, ?_⟩) (by assumption) ?_
                    · (intro w9 hSw; (try dsimp only at hSw); go_simp)
                    try simp only [Act.put, List.setIfInBounds_toArray, List.set_cons_zero, List.set_cons_succ]
                    refine wpAnyH_take (i := 7) (oi := { dst := some 143, op := Op.move (Operand.tmp 142), type := 4, pos := "law.go:279", after := #[{ on := 6, ground := Ground.data }, { on := 4, ground := Ground.chain }, { on := 1, ground := Ground.guard }], guard := some (1, true) }) (v := .bool false) rfl (by kernel_rfl) (by kernel_rfl) (by kernel_rfl) (fun _ _ _ h => h) (Or.inl ⟨by rfl, ?_⟩) (by assumption) ?_
                    · (intro w9 hSw; (try dsimp only at hSw); go_simp)
                    try simp only [Act.put, List.setIfInBounds_toArray, List.set_cons_zero, List.set_cons_succ]
                    refine wpAnyH_take (i := 8) (oi := { dst := some 144, op := Op.move (Operand.tmp 5), type := 25, pos := "law.go:279", after := #[{ on := 7, ground := Ground.guard }], guard := some (7, false) }) (v := .pointer (some ⟨g, 0, none⟩)) rfl (by kernel_rfl) (by kernel_rfl) (by kernel_rfl) (fun _ _ _ h => h) (Or.inl ⟨by rfl, ?_⟩) (by assumption) ?_
                    · (intro w9 hSw; (try dsimp only at hSw); go_simp)
                    try simp only [Act.put, List.setIfInBounds_toArray, List.set_cons_zero, List.set_cons_succ]
                    refine wpAnyH_take (i := 9) (oi := { dst := some 145, op := Op.move (Operand.tmp 20), type := 3, pos := "law.go:279", after := #[{ on := 7, ground := Ground.guard }], guard := some (7, false) }) (v := .int .i64 e0) rfl (by kernel_rfl) (by kernel_rfl) (by kernel_rfl) (fun _ _ _ h => h) (Or.inl ⟨by rfl, ?_⟩) (by assumption) ?_
                    · (intro w9 hSw; (try dsimp only at hSw); go_simp)
                    try simp only [Act.put, List.setIfInBounds_toArray, List.set_cons_zero, List.set_cons_succ]
                    refine wpAnyH_take (i := 11) (oi := { dst := some 147, op := Op.move (Operand.tmp 0), type := 43, pos := "law.go:279", after := #[{ on := 7, ground := Ground.guard }], guard := some (7, false) }) (v := .slice (some ⟨b2, off, none⟩) ns.length c) rfl (by kernel_rfl) (by kernel_rfl) (by kernel_rfl) (fun _ _ _ h => h) (Or.inl ⟨by rfl, ?_⟩) (by assumption) ?_
                    · (intro w9 hSw; (try dsimp only at hSw); go_simp)
                    try simp only [Act.put, List.setIfInBounds_toArray, List.set_cons_zero, List.set_cons_succ]
                    refine wpAnyH_take (i := 12) (oi := { dst := some 148, op := Op.move (Operand.tmp 18), type := 3, pos := "law.go:279", after := #[{ on := 7, ground := Ground.guard }], guard := some (7, false) }) (v := .int .i64 k) rfl (by kernel_rfl) (by kernel_rfl) (by kernel_rfl) (fun _ _ _ h => h) (Or.inl ⟨by rfl, ?_⟩) (by assumption) ?_
                    · (intro w9 hSw; (try dsimp only at hSw); go_simp)
                    try simp only [Act.put, List.setIfInBounds_toArray, List.set_cons_zero, List.set_cons_succ]
                    refine wpAnyH_take (i := 13) (oi := { dst := some 149, op := Op.indexAddr 43 (Operand.tmp 147) (Operand.tmp 148), type := 0, pos := "law.go:279", after := #[{ on := 11, ground := Ground.data }, { on := 12, ground := Ground.data }, { on := 7, ground := Ground.guard }], guard := some (7, false) }) (v := .pointer (some ⟨b2, off + k, none⟩)) rfl (by kernel_rfl) (by kernel_rfl) (by kernel_rfl) (fun _ _ _ h => h) (Or.inl ⟨by rfl, ?_⟩) (by assumption) ?_
                    · (intro w9 hSw; (try dsimp only at hSw); go_simp)
                    try simp only [Act.put, List.setIfInBounds_toArray, List.set_cons_zero, List.set_cons_succ]
                    refine wpAnyH_take (i := 14) (oi := { dst := some 150, op := Op.load 5 (Operand.tmp 149), type := 5, pos := "law.go:279", after := #[{ on := 13, ground := Ground.data }, { on := 7, ground := Ground.guard }], guard := some (7, false) }) (v := .int .u8 zn) rfl (by kernel_rfl) (by kernel_rfl) (by kernel_rfl) (fun _ _ _ h => h) (Or.inl ⟨by rfl, ?_⟩) (by assumption) ?_
                    · (intro w9 hSw; (try dsimp only at hSw); go_simp)
                    try simp only [Act.put, List.setIfInBounds_toArray, List.set_cons_zero, List.set_cons_succ]
                    refine wpAnyH_take (i := 15) (oi := { dst := some 151, op := Op.binOp BinOp.rem 5 (Operand.tmp 150) (Operand.const (Value.int IntKind.u8 7)) 5, type := 5, pos := "law.go:279", after := #[{ on := 14, ground := Ground.data }, { on := 7, ground := Ground.guard }], guard := some (7, false) }) (v := .int .u8 0) rfl (by kernel_rfl) (by kernel_rfl) (by kernel_rfl) (fun _ _ _ h => h) (Or.inl ⟨by rfl, ?_⟩) (by assumption) ?_
                    · (intro w9 hSw; (try dsimp only at hSw); go_simp)
                    try simp only [Act.put, List.setIfInBounds_toArray, List.set_cons_zero, List.set_cons_succ]
                    refine wpAnyH_take (i := 16) (oi := { dst := some 152, op := Op.convert 5 3 (Operand.tmp 151), type := 3, pos := "law.go:279", after := #[{ on := 15, ground := Ground.data }, { on := 7, ground := Ground.guard }], guard := some (7, false) }) (v := .int .i64 0) rfl (by kernel_rfl) (by kernel_rfl) (by kernel_rfl) (fun _ _ _ h => h) (Or.inl ⟨by rfl, ?_⟩) (by assumption) ?_
                    · (intro w9 hSw; (try dsimp only at hSw); go_simp)
                    try simp only [Act.put, List.setIfInBounds_toArray, List.set_cons_zero, List.set_cons_succ]
                    refine wpAnyH_ready (rs := [10]) (by kernel_rfl) (by simp) ?_
                    refine AllReadyH.cons (o := { dst := some 146, op := Op.call { callee := Callee.value (Operand.func 16), args := #[Operand.tmp 144, Operand.tmp 145], argTypes := #[25, 3] }, type := 3, pos := "law.go:279", after := #[{ on := 8, ground := Ground.data }, { on := 9, ground := Ground.data }, { on := 7, ground := Ground.chain }, { on := 7, ground := Ground.guard }], guard := some (7, false) }) rfl (fun K hK => ?_) AllReadyH.nil
                    go_simp
                    refine (HL0.out w5 HB5.out).mono ?_
                    rintro e w6 ⟨rfl, hb6'⟩
                    have HB6 := Lib.hid ((HB5.out).trans (hb6'.mono (HB5.out).size))
                    have kk6 := HCE.out w6 HB6.out
                    refine hK.out _ _ kk6 (fun hHeld6 => ?_)
                    clear hb6' hK
                    try simp only [Act.put, List.setIfInBounds_toArray, List.set_cons_zero, List.set_cons_succ]
                    refine wpAnyH_take (i := 17) (oi := { dst := some 153, op := Op.binOp BinOp.neq 3 (Operand.tmp 146) (Operand.tmp 152) 3, type := 4, pos := "law.go:279", after := #[{ on := 10, ground := Ground.data }, { on := 16, ground := Ground.data }, { on := 7, ground := Ground.guard }], guard := some (7, false) }) (v := .bool false) rfl (by kernel_rfl) (by kernel_rfl) (by kernel_rfl) (fun _ _ _ h => h) (Or.inl ⟨by rfl, ?_⟩) (by assumption) ?_
                    · (intro w9 hSw; (try dsimp only at hSw); go_simp)
                    try simp only [Act.put, List.setIfInBounds_toArray, List.set_cons_zero, List.set_cons_succ]
                    refine wpAnyH_take (i := 18) (oi := { dst := some 154, op := Op.pick (Operand.tmp 143) (Operand.const (Value.bool true)) (Operand.tmp 153), type := 4, pos := "law.go:279", after := #[{ on := 7, ground := Ground.data }, { on := 17, ground := Ground.data }, { on := 1, ground := Ground.guard }], guard := some (1, true) }) (v := .bool false) rfl (by kernel_rfl) (by kernel_rfl) (by kernel_rfl) (fun _ _ _ h => h) (Or.inl ⟨by rfl, ?_⟩) (by assumption) ?_
                    · (intro w9 hSw; (try dsimp only at hSw); go_simp)
                    try simp only [Act.put, List.setIfInBounds_toArray, List.set_cons_zero, List.set_cons_succ]
                    refine wpAnyH_take (i := 19) (oi := { dst := some 155, op := Op.move (Operand.tmp 154), type := 4, pos := "law.go:279", after := #[{ on := 18, ground := Ground.data }, { on := 10, ground := Ground.chain }, { on := 1, ground := Ground.guard }], guard := some (1, true) }) (v := .bool false) rfl (by kernel_rfl) (by kernel_rfl) (by kernel_rfl) (fun _ _ _ h => h) (Or.inl ⟨by rfl, ?_⟩) (by assumption) ?_
                    · (intro w9 hSw; (try dsimp only at hSw); go_simp)
                    try simp only [Act.put, List.setIfInBounds_toArray, List.set_cons_zero, List.set_cons_succ]
                    refine wpAnyH_take (i := 20) (oi := { dst := some 156, op := Op.move (Operand.tmp 5), type := 25, pos := "law.go:279", after := #[{ on := 19, ground := Ground.guard }], guard := some (19, false) }) (v := .pointer (some ⟨g, 0, none⟩)) rfl (by kernel_rfl) (by kernel_rfl) (by kernel_rfl) (fun _ _ _ h => h) (Or.inl ⟨by rfl, ?_⟩) (by assumption) ?_
                    · (intro w9 hSw; (try dsimp only at hSw); go_simp)
                    try simp only [Act.put, List.setIfInBounds_toArray, List.set_cons_zero, List.set_cons_succ]
                    refine wpAnyH_take (i := 21) (oi := { dst := some 157, op := Op.move (Operand.tmp 20), type := 3, pos := "law.go:279", after := #[{ on := 19, ground := Ground.guard }], guard := some (19, false) }) (v := .int .i64 e0) rfl (by kernel_rfl) (by kernel_rfl) (by kernel_rfl) (fun _ _ _ h => h) (Or.inl ⟨by rfl, ?_⟩) (by assumption) ?_
                    · (intro w9 hSw; (try dsimp only at hSw); go_simp)
                    try simp only [Act.put, List.setIfInBounds_toArray, List.set_cons_zero, List.set_cons_succ]
                    refine wpAnyH_take (i := 23) (oi := { dst := some 159, op := Op.move (Operand.tmp 18), type := 3, pos := "law.go:279", after := #[{ on := 19, ground := Ground.guard }], guard := some (19, false) }) (v := .int .i64 k) rfl (by kernel_rfl) (by kernel_rfl) (by kernel_rfl) (fun _ _ _ h => h) (Or.inl ⟨by rfl, ?_⟩) (by assumption) ?_
                    · (intro w9 hSw; (try dsimp only at hSw); go_simp)
                    try simp only [Act.put, List.setIfInBounds_toArray, List.set_cons_zero, List.set_cons_succ]
                    refine wpAnyH_take (i := 24) (oi := { dst := some 160, op := Op.binOp BinOp.rem 3 (Operand.tmp 159) (Operand.const (Value.int IntKind.i64 2)) 3, type := 3, pos := "law.go:279", after := #[{ on := 23, ground := Ground.data }, { on := 19, ground := Ground.guard }], guard := some (19, false) }) (v := .int .i64 ((k : Int) % 2)) rfl (by kernel_rfl) (by kernel_rfl) (by kernel_rfl) (fun _ _ _ h => h) (Or.inl ⟨by rfl, ?_⟩) (by assumption) ?_
                    · (intro w9 hSw; (try dsimp only at hSw); go_simp)
                    try simp only [Act.put, List.setIfInBounds_toArray, List.set_cons_zero, List.set_cons_succ]
                    refine wpAnyH_take (i := 25) (oi := { dst := some 161, op := Op.binOp BinOp.eql 3 (Operand.tmp 160) (Operand.const (Value.int IntKind.i64 0)) 3, type := 4, pos := "law.go:279", after := #[{ on := 24, ground := Ground.data }, { on := 19, ground := Ground.guard }], guard := some (19, false) }) (v := .bool ((k : Int) % 2 == 0)) rfl (by kernel_rfl) (by kernel_rfl) (by kernel_rfl) (fun _ _ _ h => h) (Or.inl ⟨by rfl, ?_⟩) (by assumption) ?_
                    · (intro w9 hSw; (try dsimp only at hSw); go_simp)
                    try simp only [Act.put, List.setIfInBounds_toArray, List.set_cons_zero, List.set_cons_succ]
                    refine wpAnyH_ready (rs := [22]) (by kernel_rfl) (by simp) ?_
                    refine AllReadyH.cons (o := { dst := some 158, op := Op.call { callee := Callee.value (Operand.func 17), args := #[Operand.tmp 156, Operand.tmp 157], argTypes := #[25, 3] }, type := 4, pos := "law.go:279", after := #[{ on := 20, ground := Ground.data }, { on := 21, ground := Ground.data }, { on := 19, ground := Ground.chain }, { on := 19, ground := Ground.guard }], guard := some (19, false) }) rfl (fun K hK => ?_) AllReadyH.nil
                    go_simp
                    refine (HRR.out w6 HB6.out).mono ?_
                    rintro e w7 ⟨rfl, hb7'⟩
                    have HB7 := Lib.hid ((HB6.out).trans (hb7'.mono (HB6.out).size))
                    have kk7 := HCE.out w7 HB7.out
                    refine hK.out _ _ kk7 (fun hHeld7 => ?_)
                    clear hb7' hK
                    try simp only [Act.put, List.setIfInBounds_toArray, List.set_cons_zero, List.set_cons_succ]
                    refine wpAnyH_take (i := 26) (oi := { dst := some 162, op := Op.binOp BinOp.neq 4 (Operand.tmp 158) (Operand.tmp 161) 4, type := 4, pos := "law.go:279", after := #[{ on := 22, ground := Ground.data }, { on := 25, ground := Ground.data }, { on := 19, ground := Ground.guard }], guard := some (19, false) }) (v := .bool false) rfl (by kernel_rfl) (by kernel_rfl) (by kernel_rfl) (fun _ _ _ h => h) (Or.inl ⟨by rfl, ?_⟩) (by assumption) ?_
                    · (intro w9 hSw; (try dsimp only at hSw); go_simp)
                    try simp only [Act.put, List.setIfInBounds_toArray, List.set_cons_zero, List.set_cons_succ]
                    refine wpAnyH_take (i := 27) (oi := { dst := some 163, op := Op.pick (Operand.tmp 155) (Operand.const (Value.bool true)) (Operand.tmp 162), type := 4, pos := "law.go:279", after := #[{ on := 19, ground := Ground.data }, { on := 26, ground := Ground.data }, { on := 1, ground := Ground.guard }], guard := some (1, true) }) (v := .bool false) rfl (by kernel_rfl) (by kernel_rfl) (by kernel_rfl) (fun _ _ _ h => h) (Or.inl ⟨by rfl, ?_⟩) (by assumption) ?_
                    · (intro w9 hSw; (try dsimp only at hSw); go_simp)
                    try simp only [Act.put, List.setIfInBounds_toArray, List.set_cons_zero, List.set_cons_succ]
                    refine wpAnyH_take (i := 28) (oi := { dst := some 164, op := Op.move (Operand.tmp 163), type := 4, pos := "law.go:279", after := #[{ on := 27, ground := Ground.data }, { on := 22, ground := Ground.chain }, { on := 1, ground := Ground.guard }], guard := some (1, true) }) (v := .bool false) rfl (by kernel_rfl) (by kernel_rfl) (by kernel_rfl) (fun _ _ _ h => h) (Or.inl ⟨by rfl, ?_⟩) (by assumption) ?_
                    · (intro w9 hSw; (try dsimp only at hSw); go_simp)
                    try simp only [Act.put, List.setIfInBounds_toArray, List.set_cons_zero, List.set_cons_succ]
                    refine wpAnyH_take (i := 29) (oi := { dst := some 165, op := Op.move (Operand.tmp 5), type := 25, pos := "law.go:279", after := #[{ on := 28, ground := Ground.guard }], guard := some (28, false) }) (v := .pointer (some ⟨g, 0, none⟩)) rfl (by kernel_rfl) (by kernel_rfl) (by kernel_rfl) (fun _ _ _ h => h) (Or.inl ⟨by rfl, ?_⟩) (by assumption) ?_
                    · (intro w9 hSw; (try dsimp only at hSw); go_simp)
                    try simp only [Act.put, List.setIfInBounds_toArray, List.set_cons_zero, List.set_cons_succ]
                    refine wpAnyH_take (i := 30) (oi := { dst := some 166, op := Op.move (Operand.tmp 20), type := 3, pos := "law.go:279", after := #[{ on := 28, ground := Ground.guard }], guard := some (28, false) }) (v := .int .i64 e0) rfl (by kernel_rfl) (by kernel_rfl) (by kernel_rfl) (fun _ _ _ h => h) (Or.inl ⟨by rfl, ?_⟩) (by assumption) ?_
                    · (intro w9 hSw; (try dsimp only at hSw); go_simp)
                    try simp only [Act.put, List.setIfInBounds_toArray, List.set_cons_zero, List.set_cons_succ]
                    refine wpAnyH_ready (rs := [31]) (by kernel_rfl) (by simp) ?_
                    refine AllReadyH.cons (o := { dst := some 167, op := Op.call { callee := Callee.value (Operand.func 16), args := #[Operand.tmp 165, Operand.tmp 166], argTypes := #[25, 3] }, type := 3, pos := "law.go:279", after := #[{ on := 29, ground := Ground.data }, { on := 30, ground := Ground.data }, { on := 28, ground := Ground.chain }, { on := 28, ground := Ground.guard }], guard := some (28, false) }) rfl (fun K hK => ?_) AllReadyH.nil
                    go_simp
                    refine (HL0.out w7 HB7.out).mono ?_
                    rintro e w8 ⟨rfl, hb8'⟩
                    have HB8 := Lib.hid ((HB7.out).trans (hb8'.mono (HB7.out).size))
                    have kk8 := HCE.out w8 HB8.out
                    refine hK.out _ _ kk8 (fun hHeld8 => ?_)
                    clear hb8' hK
                    try simp only [Act.put, List.setIfInBounds_toArray, List.set_cons_zero, List.set_cons_succ]
                    refine wpAnyH_take (i := 32) (oi := { dst := some 168, op := Op.binOp BinOp.gtr 3 (Operand.tmp 167) (Operand.const (Value.int IntKind.i64 0)) 3, type := 4, pos := "law.go:279", after := #[{ on := 31, ground := Ground.data }, { on := 28, ground := Ground.guard }], guard := some (28, false) }) (v := .bool false) rfl (by kernel_rfl) (by kernel_rfl) (by kernel_rfl) (fun _ _ _ h => h) (Or.inl ⟨by rfl, ?_⟩) (by assumption) ?_
                    · (intro w9 hSw; (try dsimp only at hSw); go_simp)
                    try simp only [Act.put, List.setIfInBounds_toArray, List.set_cons_zero, List.set_cons_succ]
                    refine wpAnyH_take (i := 33) (oi := { dst := some 169, op := Op.move (Operand.tmp 168), type := 4, pos := "law.go:279", after := #[{ on := 32, ground := Ground.data }, { on := 31, ground := Ground.chain }, { on := 28, ground := Ground.guard }], guard := some (28, false) }) (v := .bool false) rfl (by kernel_rfl) (by kernel_rfl) (by kernel_rfl) (fun _ _ _ h => h) (Or.inl ⟨by rfl, ?_⟩) (by assumption) ?_
                    · (intro w9 hSw; (try dsimp only at hSw); go_simp)
                    try simp only [Act.put, List.setIfInBounds_toArray, List.set_cons_zero, List.set_cons_succ]
                    refine wpAnyH_take (i := 34) (oi := { dst := some 170, op := Op.move (Operand.tmp 5), type := 25, pos := "law.go:279", after := #[{ on := 33, ground := Ground.guard }], guard := some (33, true) }) (v := undef) rfl (by kernel_rfl) (by kernel_rfl) (by kernel_rfl) (fun _ _ _ h => h) (Or.inr ⟨by rfl, rfl⟩) (by assumption) ?_
                    try simp only [Act.put, List.setIfInBounds_toArray, List.set_cons_zero, List.set_cons_succ]
                    refine wpAnyH_take (i := 35) (oi := { dst := some 171, op := Op.move (Operand.tmp 20), type := 3, pos := "law.go:279", after := #[{ on := 33, ground := Ground.guard }], guard := some (33, true) }) (v := undef) rfl (by kernel_rfl) (by kernel_rfl) (by kernel_rfl) (fun _ _ _ h => h) (Or.inr ⟨by rfl, rfl⟩) (by assumption) ?_
                    try simp only [Act.put, List.setIfInBounds_toArray, List.set_cons_zero, List.set_cons_succ]
                    refine wpAnyH_take (i := 36) (oi := { dst := some 172, op := Op.call { callee := Callee.value (Operand.func 18), args := #[Operand.tmp 170, Operand.tmp 171, Operand.const (Value.int IntKind.i64 0)], argTypes := #[25, 3, 3] }, type := 3, pos := "law.go:279", after := #[{ on := 34, ground := Ground.data }, { on := 35, ground := Ground.data }, { on := 33, ground := Ground.chain }, { on := 33, ground := Ground.guard }], guard := some (33, true) }) (v := undef) rfl (by kernel_rfl) (by kernel_rfl) (by kernel_rfl) (fun _ _ _ h => h) (Or.inr ⟨by rfl, rfl⟩) (by assumption) ?_
                    try simp only [Act.put, List.setIfInBounds_toArray, List.set_cons_zero, List.set_cons_succ]
                    refine wpAnyH_take (i := 37) (oi := { dst := some 173, op := Op.move (Operand.tmp 18), type := 3, pos := "law.go:279", after := #[{ on := 33, ground := Ground.guard }], guard := some (33, true) }) (v := undef) rfl (by kernel_rfl) (by kernel_rfl) (by kernel_rfl) (fun _ _ _ h => h) (Or.inr ⟨by rfl, rfl⟩) (by assumption) ?_
                    try simp only [Act.put, List.setIfInBounds_toArray, List.set_cons_zero, List.set_cons_succ]
                    refine wpAnyH_take (i := 38) (oi := { dst := some 174, op := Op.binOp BinOp.mul 3 (Operand.const (Value.int IntKind.i64 10)) (Operand.tmp 173) 3, type := 3, pos := "law.go:279", after := #[{ on := 37, ground := Ground.data }, { on := 33, ground := Ground.guard }], guard := some (33, true) }) (v := undef) rfl (by kernel_rfl) (by kernel_rfl) (by kernel_rfl) (fun _ _ _ h => h) (Or.inr ⟨by rfl, rfl⟩) (by assumption) ?_
                    try simp only [Act.put, List.setIfInBounds_toArray, List.set_cons_zero, List.set_cons_succ]
                    refine wpAnyH_take (i := 39) (oi := { dst := some 175, op := Op.binOp BinOp.add 3 (Operand.tmp 174) (Operand.const (Value.int IntKind.i64 1)) 3, type := 3, pos := "law.go:279", after := #[{ on := 38, ground := Ground.data }, { on := 33, ground := Ground.guard }], guard := some (33, true) }) (v := undef) rfl (by kernel_rfl) (by kernel_rfl) (by kernel_rfl) (fun _ _ _ h => h) (Or.inr ⟨by rfl, rfl⟩) (by assumption) ?_
                    try simp only [Act.put, List.setIfInBounds_toArray, List.set_cons_zero, List.set_cons_succ]
                    refine wpAnyH_take (i := 40) (oi := { dst := some 176, op := Op.binOp BinOp.neq 3 (Operand.tmp 172) (Operand.tmp 175) 3, type := 4, pos := "law.go:279", after := #[{ on := 36, ground := Ground.data }, { on := 39, ground := Ground.data }, { on := 33, ground := Ground.guard }], guard := some (33, true) }) (v := undef) rfl (by kernel_rfl) (by kernel_rfl) (by kernel_rfl) (fun _ _ _ h => h) (Or.inr ⟨by rfl, rfl⟩) (by assumption) ?_
                    try simp only [Act.put, List.setIfInBounds_toArray, List.set_cons_zero, List.set_cons_succ]
                    refine wpAnyH_take (i := 41) (oi := { dst := some 177, op := Op.pick (Operand.tmp 169) (Operand.tmp 176) (Operand.const (Value.bool false)), type := 4, pos := "law.go:279", after := #[{ on := 33, ground := Ground.data }, { on := 40, ground := Ground.data }, { on := 28, ground := Ground.guard }], guard := some (28, false) }) (v := .bool false) rfl (by kernel_rfl) (by kernel_rfl) (by kernel_rfl) (fun _ _ _ h => h) (Or.inl ⟨by rfl, ?_⟩) (by assumption) ?_
                    · (intro w9 hSw; (try dsimp only at hSw); go_simp)
                    try simp only [Act.put, List.setIfInBounds_toArray, List.set_cons_zero, List.set_cons_succ]
                    refine wpAnyH_take (i := 42) (oi := { dst := some 178, op := Op.pick (Operand.tmp 164) (Operand.const (Value.bool true)) (Operand.tmp 177), type := 4, pos := "law.go:279", after := #[{ on := 28, ground := Ground.data }, { on := 41, ground := Ground.data }, { on := 1, ground := Ground.guard }], guard := some (1, true) }) (v := .bool false) rfl (by kernel_rfl) (by kernel_rfl) (by kernel_rfl) (fun _ _ _ h => h) (Or.inl ⟨by rfl, ?_⟩) (by assumption) ?_
                    · (intro w9 hSw; (try dsimp only at hSw); go_simp)
                    try simp only [Act.put, List.setIfInBounds_toArray, List.set_cons_zero, List.set_cons_succ]
                    refine wpAnyH_take (i := 43) (oi := { dst := some 179, op := Op.pick (Operand.tmp 137) (Operand.tmp 178) (Operand.const (Value.bool false)), type := 4, pos := "law.go:279", after := #[{ on := 1, ground := Ground.data }, { on := 42, ground := Ground.data }], guard := none }) (v := .bool false) rfl (by kernel_rfl) (by kernel_rfl) (by kernel_rfl) (fun _ _ _ h => h) (Or.inl ⟨by rfl, ?_⟩) (by assumption) ?_
                    · (intro w9 hSw; (try dsimp only at hSw); go_simp)
                    try simp only [Act.put, List.setIfInBounds_toArray, List.set_cons_zero, List.set_cons_succ]
                    refine wpAnyH_done (by kernel_rfl) ?_ _
                    go_wp2_with fail
                    go_roundg (ns.length - k)
                    case measure => omega
                    case rel => exact ⟨k + 1, by omega, by omega, by go_num, HB8.out⟩
                · have hdk : d k = true := by rw [HD.out]; exact hq
                  rw [hdk] at hsplit
                  have hhas : Maps.has D (.int .i64 p) = false := by rw [hh, hsplit, ← HPM.out]; exact at?_mid_no _ _ _ rfl
                  clear hsplit hh
                  go_wp2_with (at_lookup; refine wpList_lookup_own_ok_int _ rfl _ _ 45 rfl 3 3 .i64 intLaw Try.underlying45 Try.underlying3 (zeroInt _) bm n D rfl HMR.out _ (.int .i64 p) rfl (Maps.keyOf_int_mk Try.underlying3 (WalkArith.wf_i64 (by omega))) ?_; intro cv hat hwf)
                  go_region
                  go_wp2_with fail
                  go_roundg (ns.length - k)
                  case measure => omega
                  case rel => exact ⟨k + 1, by omega, by omega, by go_num, HB0.out.drew⟩
              · obtain rfl : k = ns.length := by omega
                have hal : Ar wr w.heap.size g b gw 0 (live M) := HA4.out.below HB0.out
                have HAL := Lib.hid hal
                clear hal hbw
                go_wp2_with fail
                have hsrc := HAL.out.new_source 3 [5]
                refine (add_room_n (HAL.out.alloc _) (some ⟨wr.heap.size, 0, none⟩) [5] 1 1 rfl false 0 (by rw [← HS2.out]; omega) (by omega) (by omega) (.inl (by omega)) hsrc).mono ?_
                rintro e w5 ⟨rfl, ⟨gw5, ha5, -⟩, ht5⟩
                have hl0 : least 0 = 0 := rfl
                rw [hl0] at ha5
                have hb5 : Below w.heap.size w w5 := ((HB4.out.trans (HB0.out.mono HB4.out.size)).alloc (by have := HB4.out.size; have := HB0.out.size; omega) _).trans ((HAL.out.alloc _).turn_below ht5 (by have := HB4.out.size; have := HB0.out.size; simp; omega))
                have hall : live (live M ++ [⟨[5], false, 0, 0, true⟩]) = live M ++ [⟨[5], false, 0, 0, true⟩] := by rw [live_snoc _ _ rfl, live_live]
                have hco := compact_any ha5 (by rw [total_snoc, ← HS2.out]; simp [Cl.size]; omega)
                have hmv5 := moved_mid (live M) [] ⟨[5], false, 0, 0, true⟩ rfl
                rw [live_live, ← HS2.out] at hmv5
                have hct : countOf (live M ++ [⟨[5], false, 0, 0, true⟩]) = t + 1 := by rw [countOf_snoc _ _ rfl, count_live, HT2.out]
                rw [← HS2.out]
                have HCO5 := Lib.hid hco
                have HCO5B := Lib.hid ha5
                have HB5 := Lib.hid hb5
                have HMV5 := Lib.hid hmv5
                have HCT := Lib.hid hct
                clear ha5 ht5 hall hco hmv5 hct hb5 hsrc
                go_wp2_with fail
                refine HCO5.out.mono ?_
                rintro e w6 ⟨bm6, rfl, ha6, ht6, hmv6, hbm6⟩
                have hb6 := HB5.out.trans (HCO5B.out.turn_below ht6 HB5.out.size)
                obtain ⟨D6, n6, hm6, hh6, hk6, hs6, -⟩ := hmv6.data
                have hlen6 := hm6.len Try.underlying45 3
                rw [hs6, HCT.out] at hlen6
                obtain ⟨c6, hrun6, hat6, -⟩ := hm6.lookup_int intLaw Try.underlying45 Try.underlying3 (zeroInt _) (Maps.keyOf_int_mk Try.underlying3 (a := (s : Int)) (WalkArith.wf_i64 (by omega)))
                have hc6 : c6 = s := by
                  rw [hk6 _ _ _ HMV5.out] at hat6
                  injection hat6 with hat6
                  injection hat6 with _ hat6
                  exact hat6.symm
                rw [hc6] at hrun6
                have HB6 := Lib.hid hb6
                go_wp2
                go_ret
                exact ⟨rfl, HB6.out⟩
end Go.Proofs.Ytnjcegjcaaplgaa
