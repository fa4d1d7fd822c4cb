/- The statement that what is answered is the caller's own, and what is handed in stays as it was: the walk. -/
import Derived.Test.YtkncndddednipaaTwice04
import Derived.Test.YtkncndddednipaaNorm4
namespace Go.Proofs.Ytkncndddednipaa
open Go.RowKit

/-- a row that may be written, from a block on -/
def Writable (w : World) (base : Nat) (A : Option Addr) (n : Nat) : Prop := 0 < n → ∃ g cs, A = some ⟨g, 0, none⟩ ∧ base ≤ g ∧ Blk w g 3 cs ∧ n ≤ cs.size
theorem Writable.set_ {w : World} {base n : Nat} {A : Option Addr} (h : Writable w base A n) (g i : Nat) (u : Value) : Writable (w.setCell ⟨g, i, none⟩ u) base A n := fun hn => by
  obtain ⟨g', cs, e, hb, hk, hl⟩ := h hn
  by_cases hg : g' = g
  · subst hg
    exact ⟨g', _, e, hb, hk.set_ i u, by simpa using hl⟩
  · exact ⟨g', cs, e, hb, hk.far (p := ⟨g, i, none⟩) hg u, hl⟩
theorem Writable.alloc {w : World} {base n : Nat} {A : Option Addr} (h : Writable w base A n) (o : Obj) : Writable (w.alloc o) base A n := fun hn => by
  obtain ⟨g, cs, e, hb, hk, hl⟩ := h hn
  exact ⟨g, cs, e, hb, hk.alloc o, hl⟩
theorem Writable.below {w w' : World} {B base n : Nat} {A : Option Addr} (h : Writable w base A n) (hb : Below B w w') (hB : w.heap.size ≤ B) : Writable w' base A n := fun hn => by
  obtain ⟨g, cs, e, hbb, hk, hl⟩ := h hn
  exact ⟨g, cs, e, hbb, hk.below hb (Nat.lt_of_lt_of_le hk.lt hB), hl⟩
theorem writable_of_own {w : World} {base base' n c : Nat} {A : Option Addr} {xs : List Value} (h : w.ownsRow base 3 1 (.slice A n c) n xs) (hb : base' ≤ base) : Writable w base' A n := fun hn => by
  rcases h.2 with ⟨_, h0⟩ | ⟨g, cap, cur, hv, hbb, hg, hnc, _, hcs, _⟩
  · omega
  · injection hv with hA _ hC
    exact ⟨g, cur, hA, by omega, hg, by omega⟩

/-- three rows that may be written, in a block of rows -/
structure ThreeAt (W : World) (B g0 : Nat) (vs : List Value) (wr : World) : Prop where
  bel : Below B W wr
  blk : Blk wr g0 24 vs.toArray
  wri : ∀ A n c, Value.slice A n c ∈ vs → Writable wr B A n
theorem ThreeAt.store {W wr : World} {B g0 g i : Nat} {vs : List Value} {u : Value} {cs' : Array Value} (h : ThreeAt W B g0 vs wr) (hg : B ≤ g) (hk : Blk wr g 3 cs') : ThreeAt W B g0 vs (wr.setCell ⟨g, i, none⟩ u) :=
  ⟨h.bel.setCell (p := ⟨g, i, none⟩) hg _, h.blk.far (p := ⟨g, i, none⟩) (h.blk.ne_ hk (by decide)) u, fun A n c hm => (h.wri A n c hm).set_ g i u⟩

set_option maxRecDepth 100000 in
set_option maxHeartbeats 1600000 in
theorem own_law_any (ns ms : List Int) (B B' : Nat) (A A' : Option Addr) (c c' : Nat) (w : World) (hn : ns.length ≤ 140737488355328) (hm : ms.length ≤ 140737488355328) (hb : ∀ k, -128 ≤ ns.getD k 0 ∧ ns.getD k 0 ≤ 127) (hbm : ∀ k, -128 ≤ ms.getD k 0 ∧ ms.getD k 0 ≤ 127)
    (h : KInts .i8 w B A ns) (h' : KInts .i8 w B' A' ms) (hB : B ≤ w.heap.size) (hB' : B' ≤ w.heap.size) :
    Calls Try.prog 6 #[.slice A ns.length c, .slice A' ms.length c'] w fun e w' => e = .returned (.bool true) ∧ Below w.heap.size w w' := by
  have H := Lib.hid h
  have H' := Lib.hid h'
  have HBD := Lib.hid hb
  have HBM := Lib.hid hbm
  clear h h' hb hbm
  go_enter Try.func6, Try.ntmps6
  go_wp2_with fail
  refine (fit04_any _).mono ?_
  rintro e w1 ⟨rfl, hb1⟩
  have HB1 := Lib.hid hb1
  have hs1 := hb1.size
  clear hb1
  by_cases h60 : 60 < ns.length + ms.length
  · go_wp2
    go_ret
    exact ⟨rfl, HB1.out⟩
  · have HLn := Lib.hid (clauseOf_lits (ns := ns) (by omega) HBD.out)
    have HLm := Lib.hid (clauseOf_lits (ns := ms) (by omega) HBM.out)
    have hxl := clauseOf_len ns
    have hdl := clauseOf_len ms
    obtain ⟨xs, hxs⟩ : ∃ xs, xs = clauseOf ns := ⟨_, rfl⟩
    obtain ⟨ds, hds⟩ : ∃ ds, ds = clauseOf ms := ⟨_, rfl⟩
    rw [← hxs] at HLn hxl
    rw [← hds] at HLm hdl
    have HXS := Lib.hid hxs
    have HDS := Lib.hid hds
    have hx60 : xs.length ≤ 60 := by omega
    have hd60 : ds.length ≤ 60 := by omega
    clear hxs hds hxl hdl
    go_wp2_with fail
    have hr := clause_law_any ns B A c w1 (by omega) HBD.out (Cells.keep H.out fun p hp => HB1.out.cell (by omega)) (by omega)
    rw [← HXS.out] at hr
    refine hr.mono ?_
    clear hr
    rintro e w2 ⟨Ac, cc, rfl, hown, hb⟩
    have HC2 : Hid (Ints w2 w2.heap.size Ac xs) := Lib.hid (ints_of_own hown)
    have HB2 := Lib.hid (HB1.out.trans (hb.mono HB1.out.size))
    have hs2 := HB2.out.size
    clear hown hb
    go_wp2_with fail
    have hr := clause_law_any ms B' A' c' w2 (by omega) HBM.out (Cells.keep H'.out fun p hp => HB2.out.cell (by omega)) (by omega)
    rw [← HDS.out] at hr
    refine hr.mono ?_
    clear hr
    rintro e w3 ⟨Ad, cd, rfl, hown, hb⟩
    have HD3 : Hid (Ints w3 w3.heap.size Ad ds) := Lib.hid (ints_of_own hown)
    have HC3 : Hid (Ints w3 w2.heap.size Ac xs) := Lib.hid (Cells.below HC2.out hb)
    have HB3 := Lib.hid (HB2.out.trans (hb.mono HB2.out.size))
    have hs3 := hb.size
    clear hown hb HC2
    go_wp2_with fail
    have hr := clause_law_any ns B A c w3 (by omega) HBD.out (Cells.keep H.out fun p hp => HB3.out.cell (by omega)) (by omega)
    rw [← HXS.out] at hr
    refine hr.mono ?_
    clear hr
    rintro e w4 ⟨Aw, cw, rfl, hown, hb⟩
    have HW4 : Hid (Ints w4 w4.heap.size Aw xs) := Lib.hid (ints_of_own hown)
    have HC4 : Hid (Ints w4 w2.heap.size Ac xs) := Lib.hid (Cells.below HC3.out (hb.mono hs3))
    have HD4 : Hid (Ints w4 w3.heap.size Ad ds) := Lib.hid (Cells.below HD3.out hb)
    have HB4 := Lib.hid (HB3.out.trans (hb.mono HB3.out.size))
    have hs4 := hb.size
    clear hown hb HC3 HD3
    go_wp2_with fail
    have hr := clause_law_any ms B' A' c' w4 (by omega) HBM.out (Cells.keep H'.out fun p hp => HB4.out.cell (by omega)) (by omega)
    rw [← HDS.out] at hr
    refine hr.mono ?_
    clear hr
    rintro e w5 ⟨Ao, co, rfl, hown, hb⟩
    have hs5 := hb.size
    have HO5 : Hid (Ints w5 w5.heap.size Ao ds) := Lib.hid (ints_of_own hown)
    have HW5 : Hid (Ints w5 w5.heap.size Aw xs) := Lib.hid (Cells.more (Cells.below HW4.out hb) (by omega))
    have HC5 : Hid (Ints w5 w5.heap.size Ac xs) := Lib.hid (Cells.more (Cells.below HC4.out (hb.mono (by omega))) (by omega))
    have HD5 : Hid (Ints w5 w5.heap.size Ad ds) := Lib.hid (Cells.more (Cells.below HD4.out (hb.mono (by omega))) (by omega))
    have HB5 := Lib.hid (HB4.out.trans (hb.mono HB4.out.size))
    have hs05 := HB5.out.size
    clear hown hb HW4 HC4 HD4 HB1 HB2 HB3 HB4 H H' HXS HDS
    go_wp2_with fail
    refine (norm_clause_any xs _ Ac cc w5 HLn.out HC5.out (Nat.le_refl _)).mono ?_
    rintro e w6 ⟨A1, c1, rfl, hown, hb⟩
    have hn1 := norm_len xs
    obtain ⟨n1, hn1e⟩ : ∃ n1, n1 = (normOf xs).length := ⟨_, rfl⟩
    have hw := writable_of_own hown (Nat.le_refl _)
    rw [← hn1e] at hw hn1 ⊢
    have HV1 : Hid (Writable w6 w5.heap.size A1 n1) := Lib.hid hw
    have HB6 : Hid (Below w5.heap.size w5 w6) := Lib.hid hb
    have hs6 := hb.size
    clear hown hb hw hn1e
    go_wp2_with fail
    refine (without_any xs 1 _ Ac cc w6 HLn.out (Cells.below HC5.out HB6.out) hs6).mono ?_
    rintro e w7 ⟨A2, c2, rfl, hown, hb⟩
    have hn2 := without_len xs 1
    obtain ⟨n2, hn2e⟩ : ∃ n2, n2 = (withoutOf xs 1).length := ⟨_, rfl⟩
    have hw := writable_of_own hown hs6
    rw [← hn2e] at hw hn2 ⊢
    have HV2 : Hid (Writable w7 w5.heap.size A2 n2) := Lib.hid hw
    have HV1' : Hid (Writable w7 w5.heap.size A1 n1) := Lib.hid (HV1.out.below hb (Nat.le_refl _))
    have HB7 : Hid (Below w5.heap.size w5 w7) := Lib.hid (HB6.out.trans (hb.mono hs6))
    have hs7 := hb.size
    clear hown hb hw hn2e HV1 HB6
    go_wp2_with fail
    refine (resolve_any xs ds 1 _ _ Ac Ad cc cd w7 HLn.out HLm.out (by omega) (by omega) (by omega) (Cells.below HC5.out HB7.out) (Cells.below HD5.out HB7.out) (by omega) (by omega)).mono ?_
    rintro e w8 ⟨A3, c3, rfl, hown, hb⟩
    have hn3 : (resolveOf xs ds 1).length ≤ xs.length + ds.length := by
      have := norm_len (withoutOf xs 1 ++ withoutOf ds (-1))
      have := without_len xs 1
      have := without_len ds (-1)
      unfold resolveOf
      simp at *
      omega
    obtain ⟨n3, hn3e⟩ : ∃ n3, n3 = (resolveOf xs ds 1).length := ⟨_, rfl⟩
    have hw := writable_of_own hown (show w5.heap.size ≤ w7.heap.size by omega)
    rw [← hn3e] at hw hn3 ⊢
    have HV3 : Hid (Writable w8 w5.heap.size A3 n3) := Lib.hid hw
    have HV1'' : Hid (Writable w8 w5.heap.size A1 n1) := Lib.hid (HV1'.out.below hb (Nat.le_refl _))
    have HV2'' : Hid (Writable w8 w5.heap.size A2 n2) := Lib.hid (HV2.out.below hb (Nat.le_refl _))
    have HB8 : Hid (Below w5.heap.size w5 w8) := Lib.hid (HB7.out.trans (hb.mono (by omega)))
    have hs8 := hb.size
    clear hown hb hw hn3e HV1' HV2 HB7
    go_wp2
    obtain ⟨w9, hw9⟩ : ∃ w9, w9 = w8.alloc (Obj.cells #[Value.slice A1 n1 c1, Value.slice A2 n2 c2, Value.slice A3 n3 c3] 24) := ⟨_, rfl⟩
    obtain ⟨vs, hvs⟩ : ∃ vs, vs = [Value.slice A1 n1 c1, Value.slice A2 n2 c2, Value.slice A3 n3 c3] := ⟨_, rfl⟩
    have HT : Hid (ThreeAt w5 w5.heap.size w8.heap.size vs w9) := Lib.hid (by
      rw [hw9, hvs]
      refine ⟨HB8.out.alloc (by omega) _, Blk.new w8 _ _, fun A n c hm => ?_⟩
      simp at hm
      rcases hm with ⟨rfl, rfl, rfl⟩ | ⟨rfl, rfl, rfl⟩ | ⟨rfl, rfl, rfl⟩
      · exact HV1''.out.alloc _
      · exact HV2''.out.alloc _
      · exact HV3.out.alloc _)
    have HVS : Hid (∀ k, k < 3 → ∃ A n c, vs[k]? = some (.slice A n c) ∧ n ≤ 1000) := Lib.hid (by
      rw [hvs]
      intro k hk
      match k, hk with
      | 0, _ => exact ⟨_, _, _, rfl, by omega⟩
      | 1, _ => exact ⟨_, _, _, rfl, by omega⟩
      | 2, _ => exact ⟨_, _, _, rfl, by omega⟩)
    rw [← hw9]
    clear hw9 hvs HV1'' HV2'' HV3 HB8
    go_loopg [39] (3 + 1) (fun g i wr => ∃ k : Nat, k ≤ 3 ∧ g = 3 - k + 1 ∧ i = .int .i64 k ∧ ThreeAt w5 w5.heap.size w8.heap.size vs wr)
    case atStart => exact ⟨0, by omega, by omega, rfl, HT.out⟩
    case round =>
      obtain ⟨k, hk, rfl, rfl, ht⟩ := hrel
      have HTr := Lib.hid ht
      clear ht HT
      by_cases hlt : k < 3
      · obtain ⟨Ak, nk, ck, hvk, hnk⟩ := HVS.out k hlt
        have hcell : wr.cell? ⟨w8.heap.size, k, none⟩ = some (.slice Ak nk ck) := by rw [HTr.out.blk.cell]; simpa using hvk
        have HMK := Lib.hid (List.mem_of_getElem? hvk)
        clear hvk
        go_wp2
        clear hcell
        go_loopg [45] (nk + 1) (fun g i wx => ∃ j : Nat, j ≤ nk ∧ g = nk - j + 1 ∧ i = .int .i64 j ∧ ThreeAt w5 w5.heap.size w8.heap.size vs wx)
        case atStart => exact ⟨0, by omega, by omega, rfl, HTr.out⟩
        case round =>
          obtain ⟨j, hj, rfl, rfl, ht⟩ := hrel
          have HTx := Lib.hid ht
          clear ht
          by_cases hjl : j < nk
          · obtain ⟨g, cs, rfl, hg, hblk, hcs⟩ := HTx.out.wri Ak nk ck HMK.out (by omega)
            have hc : wr.cell? ⟨g, j, none⟩ = some (cs[j]'(by omega)) := by rw [hblk.cell]; exact Array.getElem?_eq_getElem (by omega)
            have hf : wr.frozen? ⟨g, j, none⟩ = false := hblk.frozen j
            obtain ⟨u, hu⟩ : ∃ u, u = cs[j]'(by omega) := ⟨_, rfl⟩
            rw [← hu] at hc
            have HG := Lib.hid hg
            have HBK := Lib.hid hblk
            clear hu hg hblk hcs
            go_wp2
            go_roundg (nk - j)
            case measure => omega
            case rel => exact ⟨j + 1, by omega, by omega, by go_num, HTx.out.store HG.out HBK.out⟩
          · go_wp2
            go_roundg (3 - k)
            case measure => omega
            case rel => exact ⟨k + 1, by omega, by omega, by go_num, HTx.out⟩
      · have hbl := HTr.out.bel
        have HC6 : Hid (Ints wr w5.heap.size Ac xs) := Lib.hid (Cells.below HC5.out hbl)
        have HD6 : Hid (Ints wr w5.heap.size Ad ds) := Lib.hid (Cells.below HD5.out hbl)
        have HW6 : Hid (Ints wr w5.heap.size Aw xs) := Lib.hid (Cells.below HW5.out hbl)
        have HO6 : Hid (Ints wr w5.heap.size Ao ds) := Lib.hid (Cells.below HO5.out hbl)
        have HB6 := Lib.hid (HB5.out.trans (hbl.mono hs05))
        have hs6 := hbl.size
        clear hbl HTr HC5 HD5 HW5 HO5 HB5 HVS
        go_wp2_with fail
        refine (tautology_any xs _ Ac cc wr HLn.out HC6.out hs6).mono ?_
        rintro e wt ⟨rfl, hb⟩
        have HC7 : Hid (Ints wt w5.heap.size Ac xs) := Lib.hid (Cells.below HC6.out (hb.mono hs6))
        have HD7 : Hid (Ints wt w5.heap.size Ad ds) := Lib.hid (Cells.below HD6.out (hb.mono hs6))
        have HW7 : Hid (Ints wt w5.heap.size Aw xs) := Lib.hid (Cells.below HW6.out (hb.mono hs6))
        have HO7 : Hid (Ints wt w5.heap.size Ao ds) := Lib.hid (Cells.below HO6.out (hb.mono hs6))
        have HB7 := Lib.hid (HB6.out.trans (hb.mono HB6.out.size))
        clear hb HC6 HD6 HW6 HO6 HB6
        go_wp2
        clear hlt hk
        go_loopg [57] (xs.length + 1) (fun g i w' => ∃ k m : Nat, w' = wt.drewN m ∧ k ≤ xs.length ∧ g = xs.length - k + 1 ∧ i = .int .i64 k)
        case atStart => exact ⟨0, 0, rfl, by omega, by omega, rfl⟩
        case round =>
          obtain ⟨k, m, hw, hk, rfl, rfl⟩ := hrel
          by_cases hlt : k < xs.length
          · obtain ⟨b1, o1, hA1, _, hc1⟩ := Cells.at_ HC7.out hlt
            obtain ⟨b2, o2, hA2, _, hc2⟩ := Cells.at_ HW7.out hlt
            obtain ⟨y, hy⟩ : ∃ y, y = xs.getD k 0 := ⟨_, rfl⟩
            rw [← hy] at hc1 hc2
            have d1 : wr.cell? ⟨b1, o1 + k, none⟩ = some (.int .i64 y) := by rw [hw]; exact hc1
            have d2 : wr.cell? ⟨b2, o2 + k, none⟩ = some (.int .i64 y) := by rw [hw]; exact hc2
            have HW := Lib.hid hw
            subst hA1 hA2
            clear hw hy hc1 hc2
            go_wp2
            go_quiet (fail)
            go_wp2
            go_roundg (xs.length - k)
            case measure => omega
            case rel => exact ⟨k + 1, _, by rw [HW.out, World.drewN_drewN], by omega, by omega, by go_num⟩
          · have HMW := Lib.hid hw
            clear hw
            go_wp2
            clear hlt hk
            go_loopg [72] (ds.length + 1) (fun g i w' => ∃ k m : Nat, w' = wt.drewN m ∧ k ≤ ds.length ∧ g = ds.length - k + 1 ∧ i = .int .i64 k)
            case atStart => exact ⟨0, _, HMW.out, by omega, by omega, rfl⟩
            case round =>
              obtain ⟨k, m, hw, hk, rfl, rfl⟩ := hrel
              by_cases hlt : k < ds.length
              · obtain ⟨b1, o1, hA1, _, hc1⟩ := Cells.at_ HD7.out hlt
                obtain ⟨b2, o2, hA2, _, hc2⟩ := Cells.at_ HO7.out hlt
                obtain ⟨y, hy⟩ : ∃ y, y = ds.getD k 0 := ⟨_, rfl⟩
                rw [← hy] at hc1 hc2
                have d1 : wr.cell? ⟨b1, o1 + k, none⟩ = some (.int .i64 y) := by rw [hw]; exact hc1
                have d2 : wr.cell? ⟨b2, o2 + k, none⟩ = some (.int .i64 y) := by rw [hw]; exact hc2
                have HW := Lib.hid hw
                subst hA1 hA2
                clear hw hy hc1 hc2
                go_wp2
                go_quiet (fail)
                go_wp2
                go_roundg (ds.length - k)
                case measure => omega
                case rel => exact ⟨k + 1, _, by rw [HW.out, World.drewN_drewN], by omega, by omega, by go_num⟩
              · have hbf : Below w.heap.size w wr := by rw [hw]; exact below_drewN HB7.out _
                have HBF := Lib.hid hbf
                clear hw hbf
                go_wp2
                go_ret
                exact ⟨rfl, HBF.out⟩

theorem own_raw (a a' : Option Addr) (len cap len' cap' : Nat) (z z' : Nat → Int) (W : World) (h : IsInts .i8 W a len cap z) (h' : IsInts .i8 W a' len' cap' z') (hs : cap * 1 ≤ 140737488351232) (hs' : cap' * 1 ≤ 140737488351232) :
    Calls Try.prog 6 #[.slice a len cap, .slice a' len' cap'] W fun e w' => e = .returned (.bool true) ∧ Below W.heap.size W w' := by
  have hl := h.1
  have hl' := h'.1
  obtain ⟨ns, rfl, _, hk, hw⟩ := kints_of h
  obtain ⟨ms, rfl, _, hk', hw'⟩ := kints_of h'
  exact own_law_any ns ms _ _ a a' cap cap' W (by omega) (by omega) (i8_bounds hw) (i8_bounds hw') hk hk' (Nat.le_refl _) (Nat.le_refl _)
end Go.Proofs.Ytkncndddednipaa
