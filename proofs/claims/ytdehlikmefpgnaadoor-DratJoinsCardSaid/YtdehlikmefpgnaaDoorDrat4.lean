/- A step at the front of bytes, and a proof out of bytes. -/
import Derived.Test.YtdehlikmefpgnaaDoorDrat3
namespace Go.Proofs.YtdehlikmefpgnaaDoor
open Go.RowKit
set_option linter.unusedSimpArgs false
set_option linter.unusedVariables false

theorem Tryd.infoInt3 : (Tryd.prog.info? 3).map (fun i => (i.zero, i.size, i.bytes)) = some (some (.int .i64 0), 1, 8) := by kernel_rfl

theorem results_cell2 {P : Program} {fn : Func} {c a b : Tmp} {T : TypeId} (h : fn.results = #[.cell c T, .tmp a, .tmp b]) {tmps : Array Value} {w : World} {v0 va vb : Value} {ad : Addr} (hc : tmps.getD c undef = .pointer (some ad)) (ha : tmps.getD a undef = va) (hb : tmps.getD b undef = vb)
    (hl : (loadVar T ad).run P w = .ok v0 w) : (results fn tmps).run P w = .ok (.tuple #[v0, va, vb]) w := by
  rw [Array.getD_eq_getD_getElem?] at hc ha hb
  simp [results, h, hc, ha, hb, hl, asAddr]
theorem results_cell1 {P : Program} {fn : Func} {c a : Tmp} {T : TypeId} (h : fn.results = #[.cell c T, .tmp a]) {tmps : Array Value} {w : World} {v0 va : Value} {ad : Addr} (hc : tmps.getD c undef = .pointer (some ad)) (ha : tmps.getD a undef = va)
    (hl : (loadVar T ad).run P w = .ok v0 w) : (results fn tmps).run P w = .ok (.tuple #[v0, va]) w := by
  rw [Array.getD_eq_getD_getElem?] at hc ha
  simp [results, h, hc, ha, hl, asAddr]
theorem load_step {b : Nat} {x y : Value} {w : World} (h0 : w.cell? ⟨b, 0, none⟩ = some x) (h1 : w.cell? ⟨b, 1, none⟩ = some y) : (loadVar 42 ⟨b, 0, none⟩).run Tryd.prog w = .ok (.agg #[x, y]) w := by
  simp [go_sem, h0, h1]

/-- what the cutter of a step answers -/
def CutStep (bs : List UInt8) (B : Nat) (w : World) (e : Ending) (w' : World) : Prop :=
  Below w.heap.size w w' ∧ ((∃ (s : Stp) (r : List UInt8) (A1 A2 : Option Addr) (c1 c2 : Nat), e = .returned (.tuple #[.agg #[.bool s.1, .slice A1 s.2.length c1], .slice A2 r.length c2, .int .i64 0]) ∧ StpIs bs (some (s, r), 0) ∧
      w'.ownsRow w.heap.size 3 1 (.slice A1 s.2.length c1) s.2.length (s.2.map (Value.int .i64)) ∧ Bytes w B A2 r ∧ r.length ≤ c2) ∨
    (∃ k : Int, e = .returned (.tuple #[.agg #[.bool false, .slice none 0 0], .slice none 0 0, .int .i64 k]) ∧ StpIs bs (none, k) ∧ k ≠ 0))

set_option maxRecDepth 100000 in
set_option maxHeartbeats 4000000 in
theorem cutStep_any (bs : List UInt8) (B c : Nat) (A : Option Addr) (w : World) (h : Bytes w B A bs) (hB : B ≤ w.heap.size) (h0 : 0 < bs.length) (hc : bs.length ≤ c) (hl : bs.length ≤ 1099511627776) :
    Calls Tryd.prog 32 #[.slice A bs.length c] w (CutStep bs B w) := by
  obtain ⟨i0, hi, hz0, hz1, hz2⟩ := info_parts Tryd.infoByte
  obtain ⟨j0, hj, hy0, hy1, hy2⟩ := info_parts Tryd.infoInt3
  obtain ⟨b, off, rfl, hbB, hcell⟩ := h.at_ h0
  rw [Nat.add_zero] at hcell
  have hST := fun w' => run_slice_tail (P := Tryd.prog) 28 5 i0 Tryd.underlying28 hi hz1 (some ⟨b, off, none⟩) bs.length c 1 1 rfl h0 w'
  have htl := h.tail (m := 1) h0 hc
  generalize hA2 : tailAddr (some ⟨b, off, none⟩) c 1 = A2 at hST htl
  have htc := take_cons h0
  rw [show bs.take 0 = [] from rfl, List.nil_append] at htc
  generalize hbs1 : bs.drop (0 + 1) = bs1 at htc
  have hbs1' : bs.drop 1 = bs1 := hbs1
  rw [hbs1'] at htl
  have hl1 : bs1.length = bs.length - 1 := by rw [← hbs1']; simp
  obtain ⟨x, hx⟩ : ∃ x, x = bs.getD 0 0 := ⟨_, rfl⟩
  rw [← hx] at hcell htc
  have hx2 := x.toNat_lt
  have HTC := Lib.hid htc
  have HTL := Lib.hid htl
  have HL1 := Lib.hid hl1
  obtain ⟨X, hX⟩ : ∃ X : Nat, X = x.toNat := ⟨_, rfl⟩
  rw [← hX] at hcell hx2
  have HX := Lib.hid hX
  have hc0 := hcell
  clear h htl hA2 htc hbs1 hbs1' hl1 hx hX hcell
  by_cases hbad : X ≠ 97 ∧ X ≠ 100
  · obtain ⟨q1, q2⟩ := hbad
    have hq1 : ((X : Int) == 97) = false := by simp; omega
    have hq2 : ((X : Int) == 100) = false := by simp; omega
    have hq3 : ((X : Int) != 97) = true := by simp; omega
    have hq4 : ((X : Int) != 100) = true := by simp; omega
    go_enter Tryd.func32, Tryd.ntmps32
    go_wp2
    have hc1 : (w.alloc (.cells #[.bool false, .slice none 0 0] 42)).cell? ⟨b, off, none⟩ = some (.int .u8 X) := (World.cell?_alloc_lt w _ ⟨b, off, none⟩ (by simp; omega)).trans hc0
    go_quiet (fail)
    have hbk := ((Blk.new w 42 #[.bool false, .slice none 0 0]).drewN nq)
    have CF := hbk.frozen
    go_wp2
    have hb2 := (hbk.set_ 0 (.bool false)).set_ 1 (.slice none 0 0)
    have d0 := hb2.cell 0
    have d1 := hb2.cell 1
    simp at d0 d1
    (try simp only [Exit.inBlock, Exit.then])
    refine bodyPost_ret (results_cell2 rfl rfl rfl rfl (load_step d0 d1)) rfl ?_
    refine ⟨((below_drewN ((Below.refl _ w).alloc (Nat.le_refl _) _) nq).setCell (by simp) _).setCell (by simp) _, Or.inr ⟨9, rfl, ?_, by decide⟩⟩
    rw [HTC.out]
    refine stp_mark (fun h => ?_) (fun h => ?_)
    · have := HX.out; rw [h] at this; exact q1 this
    · have := HX.out; rw [h] at this; exact q2 this
  · have hm97 : X = 97 ∨ X = 100 := by omega
    clear hbad
    rcases hm97 with rfl | rfl
    · have hxm : x = mark false := by
        rw [← UInt8.toNat_inj, ← HX.out]; rfl
      have htc2 := HTC.out
      rw [hxm] at htc2
      have HTC2 := Lib.hid htc2
      clear htc2 hxm HTC HX
      go_enter Tryd.func32, Tryd.ntmps32
      go_wp2
      have hc1 : (w.alloc (.cells #[.bool false, .slice none 0 0] 42)).cell? ⟨b, off, none⟩ = some (.int .u8 97) := (World.cell?_alloc_lt w _ ⟨b, off, none⟩ (by simp; omega)).trans hc0
      go_quiet (fail)
      go_wp2
      obtain ⟨w1, hw1⟩ : ∃ w1, w1 = ((w.alloc (.cells #[.bool false, .slice none 0 0] 42)).drewN nq).alloc (.cells #[.bool false, .slice none 0 0] 42) := ⟨_, rfl⟩
      have hres : Blk w1 w.heap.size 42 #[.bool false, .slice none 0 0] := by rw [hw1]; exact ((Blk.new w _ _).drewN nq).alloc _
      have hstp : Blk w1 (w.heap.size + 1) 42 #[.bool false, .slice none 0 0] := by
        have := Blk.new ((w.alloc (.cells #[.bool false, .slice none 0 0] 42)).drewN nq) 42 #[.bool false, .slice none 0 0]
        rw [hw1]; simpa using this
      have hbel : Below w.heap.size w w1 := by rw [hw1]; exact (below_drewN ((Below.refl _ w).alloc (Nat.le_refl _) _) nq).alloc (by simp) _
      have hsz1 : w1.heap.size = w.heap.size + 2 := by rw [hw1]; simp
      try rw [← hw1]
      clear hw1 hc1 hc0 hST
      have HRES := Lib.hid hres
      have HSTP := Lib.hid hstp
      have HBEL := Lib.hid hbel
      have HSZ := Lib.hid hsz1
      clear hres hstp hbel hsz1
      go_loopg [0] (bs.length + 1) (fun gk s wr => ∃ (ls : List Int) (r : List UInt8) (Al Ar : Option Addr) (cl cr : Nat), s = .slice Ar r.length cr ∧ r.length < gk ∧ r.length ≤ bs.length ∧ r.length ≤ cr ∧ Bytes wr B Ar r ∧ (∀ l ∈ ls, isLit l = true) ∧ bs = mark false :: (lbs ls ++ r) ∧
        Blk wr w.heap.size 42 #[.bool false, .slice none 0 0] ∧ Blk wr (w.heap.size + 1) 42 #[.bool false, .slice Al ls.length cl] ∧ wr.ownsRow w.heap.size 3 1 (.slice Al ls.length cl) ls.length (ls.map (Value.int .i64)) ∧ Below w.heap.size w wr)
      case atStart =>
        have hl1 := HL1.out
        refine ⟨[], bs1, none, A2, 0, c - 1, by rw [hl1], by omega, by omega, by omega, HTL.out.below (HBEL.out.mono hB), by simp, HTC2.out, HRES.out, HSTP.out, World.ownsRow_nil _ _ _ _, HBEL.out⟩
      case round =>
        obtain ⟨ls, r, Al, Ar, cl, cr, rfl, hgk, hrl, hrc, hby, hls, hbs, hres, hstp, hown, hb⟩ := hrel
        obtain ⟨wo, rfl⟩ : ∃ wo : World, wo = wr := ⟨_, rfl⟩
        have hls9 : ls.length ≤ 1099511627776 := by
          have := congrArg List.length hbs
          have h9 := lbs_len ls
          simp at this
          omega
        have CN := Lib.hid (cutNumber_any r B cr Ar wo hby hrc (by omega))
        have HBY := Lib.hid hby
        have HLS := Lib.hid hls
        have HBS := Lib.hid hbs
        have HRES1 := Lib.hid hres
        have HSTP1 := Lib.hid hstp
        have HOWN := Lib.hid hown
        have HB0 := Lib.hid hb
        clear hby hls hbs hres hstp hown hb
        go_wp2_with fail
        refine CN.out.mono ?_
        rintro e w2 ⟨⟨n, hw2⟩, hcase⟩
        have hres2 : Blk w2 w.heap.size 42 #[.bool false, .slice none 0 0] := by rw [hw2]; exact HRES1.out.drewN n
        have hstp2 : Blk w2 (w.heap.size + 1) 42 #[.bool false, .slice Al ls.length cl] := by rw [hw2]; exact HSTP1.out.drewN n
        have hown2 : w2.ownsRow w.heap.size 3 1 (.slice Al ls.length cl) ls.length (ls.map (Value.int .i64)) := by rw [hw2]; exact HOWN.out
        have hb2 : Below w.heap.size w w2 := by rw [hw2]; exact below_drewN HB0.out n
        have hbyB : ∀ A3 r3, Bytes wo B A3 r3 → Bytes w2 B A3 r3 := fun A3 r3 h => by rw [hw2]; exact h
        have HRES2 := Lib.hid hres2
        have HSTP2 := Lib.hid hstp2
        have HOWN2 := Lib.hid hown2
        have HB2 := Lib.hid hb2
        have HBYB := Lib.hid hbyB
        clear hw2 hres2 hstp2 hown2 hb2 hbyB CN HRES1 HSTP1 HOWN HB0
        have F0 := HRES2.out.frozen
        have F1 := HSTP2.out.frozen
        have C0 := HSTP2.out.cell 0
        have C1 := HSTP2.out.cell 1
        have R0 := HRES2.out.cell 0
        have R1 := HRES2.out.cell 1
        simp at C0 C1 R0 R1
        have hs2 := HB2.out.size
        have hs3 : w.heap.size + 1 < w2.heap.size := HSTP2.out.lt
        rcases hcase with ⟨N, r2, A3, c3, rfl, hnum, hby2, hrc2⟩ | ⟨k, rfl, hnum, hk0⟩
        · have HNUM := Lib.hid hnum
          have HBY2 := Lib.hid hby2
          have hNlt : N < 2097152 ∧ r2.length < r.length := by
            rcases hnum with ⟨_, _, h1, h2⟩
            refine ⟨h1, ?_⟩
            have := congrArg List.length h2
            rw [List.length_append] at this
            have h3 : 1 ≤ (nb N).length := by
              by_cases hh : N < 128
              · rw [nb_low hh]; simp
              · rw [nb_high hh]; simp
            omega
          obtain ⟨hNl, hrlt⟩ := hNlt
          clear hnum hby2
          by_cases hN0 : N = 0
          · have hq : ((N : Int) == 0) = true := by simp; omega
            have HN0 := Lib.hid hN0
            clear hN0
            go_wp2
            have hb3 := (HRES2.out.set_ 0 (.bool false)).set_ 1 (.slice Al ls.length cl)
            have d0 := hb3.cell 0
            have d1 := hb3.cell 1
            simp at d0 d1
            (try simp only [Exit.inBlock, Exit.then])
            refine bodyPost_ret (results_cell2 rfl rfl rfl rfl (load_step d0 d1)) rfl ?_
            refine ⟨(HB2.out.setCell (by simp) _).setCell (by simp) _, Or.inl ⟨(false, ls), r2, Al, A3, cl, c3, rfl, ?_, ?_, ?_, hrc2⟩⟩
            · have h9 := HNUM.out
              rw [HN0.out] at h9
              exact stp_end HLS.out HBS.out h9
            · have hne := own_blk_ne HOWN2.out HRES2.out (by decide)
              exact own_setCell (own_setCell HOWN2.out _ hne) _ hne
            · exact Cells.keep (HBYB.out _ _ HBY2.out) (fun p hp => (HB2.out.cell (p := p) (by omega)).symm)
          · have hq : ((N : Int) == 0) = false := by simp; omega
            have LA := Lib.hid (literalOf_any N w2 (by omega) (by omega))
            obtain ⟨l, hl⟩ : ∃ l, l = numLit N := ⟨_, rfl⟩
            have hlb : -1048577 ≤ l ∧ l ≤ 1048577 := by rw [hl]; unfold numLit; split <;> omega
            rw [← hl] at LA
            have IA := Lib.hid (isLiteral_any l w2 (by omega) (by omega))
            have HLL := Lib.hid hl
            have HN0 := Lib.hid hN0
            clear hl hN0
            rcases hlit : isLit l with _ | _
            · rw [hlit] at IA
              have HLIT := Lib.hid hlit
              clear hlit
              go_wp2_with fail
              refine LA.out.mono ?_
              rintro e w3 ⟨rfl, rfl⟩
              go_wp2_with fail
              refine IA.out.mono ?_
              rintro e w3 ⟨rfl, rfl⟩
              go_wp2
              have hb3 := (HRES2.out.set_ 0 (.bool false)).set_ 1 (.slice none 0 0)
              have d0 := hb3.cell 0
              have d1 := hb3.cell 1
              simp at d0 d1
              (try simp only [Exit.inBlock, Exit.then])
              refine bodyPost_ret (results_cell2 rfl rfl rfl rfl (load_step d0 d1)) rfl ?_
              refine ⟨(HB2.out.setCell (by simp) _).setCell (by simp) _, Or.inr ⟨9, rfl, ?_, by decide⟩⟩
              exact stp_none HLS.out HBS.out HNUM.out HN0.out (by rw [← HLL.out]; exact HLIT.out)
            · rw [hlit] at IA
              have HLIT := Lib.hid hlit
              clear hlit
              go_wp2_with fail
              refine LA.out.mono ?_
              rintro e w3 ⟨rfl, rfl⟩
              go_wp2_with fail
              refine IA.out.mono ?_
              rintro e w3 ⟨rfl, rfl⟩
              go_wp2_with (at_builtin; refine wpList_append1 _ rfl _ _ 40 rfl w.heap.size 3 j0 (.int .i64 0) 8 Tryd.underlying40 hj hy0 hy1 hy2 rfl _ _ _ rfl (HOWN2.out.alloc _) (.int .i64 l) w2.heap.size rfl (by go_cell) rfl (by unfold maxLen; omega) (by omega) (by simp; omega) ?_)
              intro v' w4 hown4 hg4 hob4
              obtain ⟨A4, c4, hv4, _⟩ := own_slice hown4
              subst hv4
              have hr4 := blk_kept hg4 HOWN2.out HRES2.out (by decide)
              have hs4 := blk_kept hg4 HOWN2.out HSTP2.out (by decide)
              have HB4 := Lib.hid ((HB2.out.alloc (by omega) _).grown hg4 (by simp; omega) (fun g hg => (HOWN2.out.lt g hg).1))
              have HR4 := Lib.hid hr4
              have HS4 := Lib.hid hs4
              have HO4 := Lib.hid hown4
              have F4 := hs4.frozen
              have C4 := hs4.cell 1
              simp at C4
              have hby4 : Bytes w4 B A3 r2 := Cells.keep (HBYB.out _ _ HBY2.out) (fun p hp => (HB4.out.cell (p := p) (by omega)).trans (HB2.out.cell (p := p) (by omega)).symm)
              have HBY4 := Lib.hid hby4
              clear hby4
              clear hown4 hg4 hob4 hr4 hs4 C0 C1 F0 F1 R0 R1
              go_wp2
              clear C4 F4
              go_roundg (r.length)
              case measure => omega
              case rel =>
                have hmore := stp_more HLS.out HBS.out HNUM.out (by rw [← HLL.out]; exact HLIT.out)
                rw [← HLL.out] at hmore
                refine ⟨ls ++ [l], r2, A4, A3, c4, c3, rfl, by omega, by omega, hrc2, ?_, hmore.1, hmore.2.1, ?_, ?_, ?_, HB4.out.setCell (by simp) _⟩
                · exact Cells.setCell HBY4.out (show B ≤ w.heap.size + 1 by omega) _
                · exact HR4.out.far (by simp) _
                · have h9 := HS4.out.set_ 1 (.slice A4 (ls ++ [l]).length c4)
                  simpa using h9
                · have h9 := own_setCell HO4.out (p := ⟨w.heap.size + 1, 1, none⟩) (.slice A4 (ls.length + 1) c4) (own_blk_ne HO4.out HS4.out (by decide))
                  simpa using h9
        · have hq : (k == 0) = false := by simpa using hk0
          have hq2 : (k != 0) = true := by simpa using hk0
          have HNUM := Lib.hid hnum
          clear hnum
          go_wp2
          have hb3 := (HRES2.out.set_ 0 (.bool false)).set_ 1 (.slice none 0 0)
          have d0 := hb3.cell 0
          have d1 := hb3.cell 1
          simp at d0 d1
          (try simp only [Exit.inBlock, Exit.then])
          refine bodyPost_ret (results_cell2 rfl rfl rfl rfl (load_step d0 d1)) rfl ?_
          refine ⟨(HB2.out.setCell (by simp) _).setCell (by simp) _, Or.inr ⟨k, rfl, ?_, hk0⟩⟩
          have h9 := HNUM.out
          rcases h9 with _ | ⟨h1, h2⟩ | h1
          · exact stp_short HLS.out HBS.out (.short h1 h2)
          · exact stp_form HLS.out HBS.out (.form h1)
    · have hxm : x = mark true := by
        rw [← UInt8.toNat_inj, ← HX.out]; rfl
      have htc2 := HTC.out
      rw [hxm] at htc2
      have HTC2 := Lib.hid htc2
      clear htc2 hxm HTC HX
      go_enter Tryd.func32, Tryd.ntmps32
      go_wp2
      have hc1 : (w.alloc (.cells #[.bool false, .slice none 0 0] 42)).cell? ⟨b, off, none⟩ = some (.int .u8 100) := (World.cell?_alloc_lt w _ ⟨b, off, none⟩ (by simp; omega)).trans hc0
      go_quiet (fail)
      go_wp2
      obtain ⟨w1, hw1⟩ : ∃ w1, w1 = ((w.alloc (.cells #[.bool false, .slice none 0 0] 42)).drewN nq).alloc (.cells #[.bool true, .slice none 0 0] 42) := ⟨_, rfl⟩
      have hres : Blk w1 w.heap.size 42 #[.bool false, .slice none 0 0] := by rw [hw1]; exact ((Blk.new w _ _).drewN nq).alloc _
      have hstp : Blk w1 (w.heap.size + 1) 42 #[.bool true, .slice none 0 0] := by
        have := Blk.new ((w.alloc (.cells #[.bool false, .slice none 0 0] 42)).drewN nq) 42 #[.bool true, .slice none 0 0]
        rw [hw1]; simpa using this
      have hbel : Below w.heap.size w w1 := by rw [hw1]; exact (below_drewN ((Below.refl _ w).alloc (Nat.le_refl _) _) nq).alloc (by simp) _
      have hsz1 : w1.heap.size = w.heap.size + 2 := by rw [hw1]; simp
      try rw [← hw1]
      clear hw1 hc1 hc0 hST
      have HRES := Lib.hid hres
      have HSTP := Lib.hid hstp
      have HBEL := Lib.hid hbel
      have HSZ := Lib.hid hsz1
      clear hres hstp hbel hsz1
      go_loopg [0] (bs.length + 1) (fun gk s wr => ∃ (ls : List Int) (r : List UInt8) (Al Ar : Option Addr) (cl cr : Nat), s = .slice Ar r.length cr ∧ r.length < gk ∧ r.length ≤ bs.length ∧ r.length ≤ cr ∧ Bytes wr B Ar r ∧ (∀ l ∈ ls, isLit l = true) ∧ bs = mark true :: (lbs ls ++ r) ∧
        Blk wr w.heap.size 42 #[.bool false, .slice none 0 0] ∧ Blk wr (w.heap.size + 1) 42 #[.bool true, .slice Al ls.length cl] ∧ wr.ownsRow w.heap.size 3 1 (.slice Al ls.length cl) ls.length (ls.map (Value.int .i64)) ∧ Below w.heap.size w wr)
      case atStart =>
        have hl1 := HL1.out
        refine ⟨[], bs1, none, A2, 0, c - 1, by rw [hl1], by omega, by omega, by omega, HTL.out.below (HBEL.out.mono hB), by simp, HTC2.out, HRES.out, HSTP.out, World.ownsRow_nil _ _ _ _, HBEL.out⟩
      case round =>
        obtain ⟨ls, r, Al, Ar, cl, cr, rfl, hgk, hrl, hrc, hby, hls, hbs, hres, hstp, hown, hb⟩ := hrel
        obtain ⟨wo, rfl⟩ : ∃ wo : World, wo = wr := ⟨_, rfl⟩
        have hls9 : ls.length ≤ 1099511627776 := by
          have := congrArg List.length hbs
          have h9 := lbs_len ls
          simp at this
          omega
        have CN := Lib.hid (cutNumber_any r B cr Ar wo hby hrc (by omega))
        have HBY := Lib.hid hby
        have HLS := Lib.hid hls
        have HBS := Lib.hid hbs
        have HRES1 := Lib.hid hres
        have HSTP1 := Lib.hid hstp
        have HOWN := Lib.hid hown
        have HB0 := Lib.hid hb
        clear hby hls hbs hres hstp hown hb
        go_wp2_with fail
        refine CN.out.mono ?_
        rintro e w2 ⟨⟨n, hw2⟩, hcase⟩
        have hres2 : Blk w2 w.heap.size 42 #[.bool false, .slice none 0 0] := by rw [hw2]; exact HRES1.out.drewN n
        have hstp2 : Blk w2 (w.heap.size + 1) 42 #[.bool true, .slice Al ls.length cl] := by rw [hw2]; exact HSTP1.out.drewN n
        have hown2 : w2.ownsRow w.heap.size 3 1 (.slice Al ls.length cl) ls.length (ls.map (Value.int .i64)) := by rw [hw2]; exact HOWN.out
        have hb2 : Below w.heap.size w w2 := by rw [hw2]; exact below_drewN HB0.out n
        have hbyB : ∀ A3 r3, Bytes wo B A3 r3 → Bytes w2 B A3 r3 := fun A3 r3 h => by rw [hw2]; exact h
        have HRES2 := Lib.hid hres2
        have HSTP2 := Lib.hid hstp2
        have HOWN2 := Lib.hid hown2
        have HB2 := Lib.hid hb2
        have HBYB := Lib.hid hbyB
        clear hw2 hres2 hstp2 hown2 hb2 hbyB CN HRES1 HSTP1 HOWN HB0
        have F0 := HRES2.out.frozen
        have F1 := HSTP2.out.frozen
        have C0 := HSTP2.out.cell 0
        have C1 := HSTP2.out.cell 1
        have R0 := HRES2.out.cell 0
        have R1 := HRES2.out.cell 1
        simp at C0 C1 R0 R1
        have hs2 := HB2.out.size
        have hs3 : w.heap.size + 1 < w2.heap.size := HSTP2.out.lt
        rcases hcase with ⟨N, r2, A3, c3, rfl, hnum, hby2, hrc2⟩ | ⟨k, rfl, hnum, hk0⟩
        · have HNUM := Lib.hid hnum
          have HBY2 := Lib.hid hby2
          have hNlt : N < 2097152 ∧ r2.length < r.length := by
            rcases hnum with ⟨_, _, h1, h2⟩
            refine ⟨h1, ?_⟩
            have := congrArg List.length h2
            rw [List.length_append] at this
            have h3 : 1 ≤ (nb N).length := by
              by_cases hh : N < 128
              · rw [nb_low hh]; simp
              · rw [nb_high hh]; simp
            omega
          obtain ⟨hNl, hrlt⟩ := hNlt
          clear hnum hby2
          by_cases hN0 : N = 0
          · have hq : ((N : Int) == 0) = true := by simp; omega
            have HN0 := Lib.hid hN0
            clear hN0
            go_wp2
            have hb3 := (HRES2.out.set_ 0 (.bool true)).set_ 1 (.slice Al ls.length cl)
            have d0 := hb3.cell 0
            have d1 := hb3.cell 1
            simp at d0 d1
            (try simp only [Exit.inBlock, Exit.then])
            refine bodyPost_ret (results_cell2 rfl rfl rfl rfl (load_step d0 d1)) rfl ?_
            refine ⟨(HB2.out.setCell (by simp) _).setCell (by simp) _, Or.inl ⟨(true, ls), r2, Al, A3, cl, c3, rfl, ?_, ?_, ?_, hrc2⟩⟩
            · have h9 := HNUM.out
              rw [HN0.out] at h9
              exact stp_end HLS.out HBS.out h9
            · have hne := own_blk_ne HOWN2.out HRES2.out (by decide)
              exact own_setCell (own_setCell HOWN2.out _ hne) _ hne
            · exact Cells.keep (HBYB.out _ _ HBY2.out) (fun p hp => (HB2.out.cell (p := p) (by omega)).symm)
          · have hq : ((N : Int) == 0) = false := by simp; omega
            have LA := Lib.hid (literalOf_any N w2 (by omega) (by omega))
            obtain ⟨l, hl⟩ : ∃ l, l = numLit N := ⟨_, rfl⟩
            have hlb : -1048577 ≤ l ∧ l ≤ 1048577 := by rw [hl]; unfold numLit; split <;> omega
            rw [← hl] at LA
            have IA := Lib.hid (isLiteral_any l w2 (by omega) (by omega))
            have HLL := Lib.hid hl
            have HN0 := Lib.hid hN0
            clear hl hN0
            rcases hlit : isLit l with _ | _
            · rw [hlit] at IA
              have HLIT := Lib.hid hlit
              clear hlit
              go_wp2_with fail
              refine LA.out.mono ?_
              rintro e w3 ⟨rfl, rfl⟩
              go_wp2_with fail
              refine IA.out.mono ?_
              rintro e w3 ⟨rfl, rfl⟩
              go_wp2
              have hb3 := (HRES2.out.set_ 0 (.bool false)).set_ 1 (.slice none 0 0)
              have d0 := hb3.cell 0
              have d1 := hb3.cell 1
              simp at d0 d1
              (try simp only [Exit.inBlock, Exit.then])
              refine bodyPost_ret (results_cell2 rfl rfl rfl rfl (load_step d0 d1)) rfl ?_
              refine ⟨(HB2.out.setCell (by simp) _).setCell (by simp) _, Or.inr ⟨9, rfl, ?_, by decide⟩⟩
              exact stp_none HLS.out HBS.out HNUM.out HN0.out (by rw [← HLL.out]; exact HLIT.out)
            · rw [hlit] at IA
              have HLIT := Lib.hid hlit
              clear hlit
              go_wp2_with fail
              refine LA.out.mono ?_
              rintro e w3 ⟨rfl, rfl⟩
              go_wp2_with fail
              refine IA.out.mono ?_
              rintro e w3 ⟨rfl, rfl⟩
              go_wp2_with (at_builtin; refine wpList_append1 _ rfl _ _ 40 rfl w.heap.size 3 j0 (.int .i64 0) 8 Tryd.underlying40 hj hy0 hy1 hy2 rfl _ _ _ rfl (HOWN2.out.alloc _) (.int .i64 l) w2.heap.size rfl (by go_cell) rfl (by unfold maxLen; omega) (by omega) (by simp; omega) ?_)
              intro v' w4 hown4 hg4 hob4
              obtain ⟨A4, c4, hv4, _⟩ := own_slice hown4
              subst hv4
              have hr4 := blk_kept hg4 HOWN2.out HRES2.out (by decide)
              have hs4 := blk_kept hg4 HOWN2.out HSTP2.out (by decide)
              have HB4 := Lib.hid ((HB2.out.alloc (by omega) _).grown hg4 (by simp; omega) (fun g hg => (HOWN2.out.lt g hg).1))
              have HR4 := Lib.hid hr4
              have HS4 := Lib.hid hs4
              have HO4 := Lib.hid hown4
              have F4 := hs4.frozen
              have C4 := hs4.cell 1
              simp at C4
              have hby4 : Bytes w4 B A3 r2 := Cells.keep (HBYB.out _ _ HBY2.out) (fun p hp => (HB4.out.cell (p := p) (by omega)).trans (HB2.out.cell (p := p) (by omega)).symm)
              have HBY4 := Lib.hid hby4
              clear hby4
              clear hown4 hg4 hob4 hr4 hs4 C0 C1 F0 F1 R0 R1
              go_wp2
              clear C4 F4
              go_roundg (r.length)
              case measure => omega
              case rel =>
                have hmore := stp_more HLS.out HBS.out HNUM.out (by rw [← HLL.out]; exact HLIT.out)
                rw [← HLL.out] at hmore
                refine ⟨ls ++ [l], r2, A4, A3, c4, c3, rfl, by omega, by omega, hrc2, ?_, hmore.1, hmore.2.1, ?_, ?_, ?_, HB4.out.setCell (by simp) _⟩
                · exact Cells.setCell HBY4.out (show B ≤ w.heap.size + 1 by omega) _
                · exact HR4.out.far (by simp) _
                · have h9 := HS4.out.set_ 1 (.slice A4 (ls ++ [l]).length c4)
                  simpa using h9
                · have h9 := own_setCell HO4.out (p := ⟨w.heap.size + 1, 1, none⟩) (.slice A4 (ls.length + 1) c4) (own_blk_ne HO4.out HS4.out (by decide))
                  simpa using h9
        · have hq : (k == 0) = false := by simpa using hk0
          have hq2 : (k != 0) = true := by simpa using hk0
          have HNUM := Lib.hid hnum
          clear hnum
          go_wp2
          have hb3 := (HRES2.out.set_ 0 (.bool false)).set_ 1 (.slice none 0 0)
          have d0 := hb3.cell 0
          have d1 := hb3.cell 1
          simp at d0 d1
          (try simp only [Exit.inBlock, Exit.then])
          refine bodyPost_ret (results_cell2 rfl rfl rfl rfl (load_step d0 d1)) rfl ?_
          refine ⟨(HB2.out.setCell (by simp) _).setCell (by simp) _, Or.inr ⟨k, rfl, ?_, hk0⟩⟩
          have h9 := HNUM.out
          rcases h9 with _ | ⟨h1, h2⟩ | h1
          · exact stp_short HLS.out HBS.out (.short h1 h2)
          · exact stp_form HLS.out HBS.out (.form h1)
end Go.Proofs.YtdehlikmefpgnaaDoor
