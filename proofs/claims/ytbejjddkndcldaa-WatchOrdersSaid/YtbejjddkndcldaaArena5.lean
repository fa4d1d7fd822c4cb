/- Add. -/
import Derived.Test.YtbejjddkndcldaaArenaA
import Derived.Deep.RegionLawGrows
namespace Go.Proofs.Ytbejjddkndcldaa
open Go.RowKit
set_option linter.unusedVariables false
set_option linter.unusedSimpArgs false

/-- append of a row that lies somewhere, as one step of a region that draws -/
theorem step_append_cells {P : Program} {ops : Array Oper} {o : Oper} {a : Act} {w : World} {K : Act → World → Prop} {Q : Exit → Act → World → Prop} {E : Prop}
    (hg : o.guard = none) (s x : Operand) (t : TypeId) (hop : o.op = Op.call { callee := Callee.builtin Builtin.append, args := #[s, x], argTypes := #[t, t] })
    (base : Nat) (e : TypeId) (i : TypeInfo) (z : Value) (bytes : Nat) (ht : P.underlying t = some (.slice e)) (hi : P.info? e = some i) (hz : i.zero = some z)
    (hsize : i.size = 1) (hby : i.bytes = bytes) (hzs : z.cells.size = 1)
    (v : Value) (n : Nat) (xs : List Value) (hs : a.eval s = v) (hown : w.ownsRow base e 1 v n xs)
    (B : Nat) (A : Option Addr) (m c : Nat) (f : Nat → Value) (hx : a.eval x = .slice A m c) (hr : Cells w B A m f) (h1 : ∀ j, j < m → (f j).oneCell' = true)
    (h63 : n + m ≤ maxLen) (hbytes : (n + m) * bytes ≤ 140737488355328) (hbase : base ≤ w.heap.size)
    (hK : ∀ v' w', w'.ownsRow base e 1 v' (n + m) (xs ++ (List.range m).map f) → w.grownBy w' v.ownBlock → (v'.ownBlock = v.ownBlock ∨ v'.ownBlock = some w.heap.size) → K (a.put o.dst v') w') :
    if Region.wanted o (yielded ops a.tmps) = true then Oper.wp P o a w K Q else E := by
  have hw : Region.wanted o (yielded ops a.tmps) = true := by simp [Region.wanted, hg]
  rw [if_pos hw]
  obtain ⟨v', w', hrun, h2, h3, h4⟩ := run_append_cells (P := P) w base t o.type e i z bytes ht hi hz hsize hby hzs v n xs hown B A m c f hr h1 h63 hbytes hbase
  unfold Oper.wp
  simp [execOp, hop, resolve, invoke, builtin, hs, hx, hrun, Result.andThen]
  exact hK v' w' h2 h3 h4

section
variable {w : World} {base g b : Nat} {gw : Option Nat} {lim : Int} {cs : List Cl}

/-- no room: nothing turns -/
theorem add_full (h : Ar w base g b gw lim cs) (A : Option Addr) (n c : Nat) (ln : Bool) (glue : Int) (ht : total cs ≤ 1099511627776) (hn : n ≤ 1099511627776) (h0 : 0 < lim) (h1 : lim ≤ 9223372036854775807) (hl : lim < total cs + 3 + n) :
    Calls Try.prog 43 #[.pointer (some ⟨g, 0, none⟩), .slice A n c, .bool ln, .int .i64 glue] w fun e w' => e = .returned (.tuple #[.int .i64 0, .bool false]) ∧ Below w.heap.size w w' := by
  obtain ⟨A2, c2, hblk, hown, hgw⟩ := h.ex
  have c0 := hblk.cell 0
  have c1 := hblk.cell 1
  simp at c0 c1
  obtain ⟨T, hT⟩ : ∃ T, T = total cs := ⟨_, rfl⟩
  rw [← hT] at c0 ht hl
  clear hblk hown hgw h hT
  go_enter Try.func43, Try.ntmps43
  go_wp2
  have i0 : decide (0 < lim) = true := by simpa using h0
  have i1 : IntKind.i64.wrap (3 + (n : Int)) = 3 + n := IntWalk.i64_in _ (by omega)
  have i2 : IntKind.i64.wrap (lim - (T : Int)) = lim - T := IntWalk.i64_in _ (by omega)
  have i3 : decide (lim - (T : Int) < 3 + n) = true := by simp; omega
  go_quiet (fail)
  clear i0 i1 i2 i3
  go_wp2
  go_ret2
  exact ⟨rfl, below_drewN (Below.refl _ _) _⟩

theorem range_ints (xs : List Int) : (List.range xs.length).map (fun j => Value.int .i64 (xs.getD j 0)) = xs.map (Value.int .i64) := by
  apply List.ext_getElem
  · simp
  · intro i h1 h2
    simp at h1
    simp [List.getD, h1]
/-- the cells of a block, by their numbers -/
def cellsFn (cs : Array Value) (j : Nat) : Value := (cs[j]?).getD undef
theorem cells_new_drew (w : World) (cs : Array Value) (t : TypeId) : Cells (w.alloc (.cells cs t)).drew (w.heap.size + 1) (some ⟨w.heap.size, 0, none⟩) cs.size (cellsFn cs) := by
  intro hn
  refine ⟨w.heap.size, 0, rfl, by omega, fun j hj => ?_⟩
  rw [Nat.zero_add]
  have := (Blk.new w t cs).cell j
  rw [show (w.alloc (.cells cs t)).drew.cell? ⟨w.heap.size, j, none⟩ = (w.alloc (.cells cs t)).cell? ⟨w.heap.size, j, none⟩ from rfl, this, Array.getElem?_eq_getElem hj]
  simp [cellsFn, hj]

theorem add_close {w1 wc w4 w6 : World} {base g b nn T n : Nat} {gw : Option Nat} {lim : Int} {cs : List Cl} {xs : List Int} {ln : Bool} {gl hd : Int} {A3 A4 : Option Addr} {c3 c4 : Nat} {D : DataW Unit} {f : Nat → Value}
    (hT : T = total cs) (hn : n = xs.length) (hhd : hd = (⟨xs, ln, gl, 0, true⟩ : Cl).head) (hbg : base ≤ g) (hbb : base ≤ b) (hgb : g ≠ b) (hf : (List.range n).map f = xs.map (Value.int .i64))
    (hb3 : Blk wc g 109 #[.slice A3 (T + 3) c3, .int .i64 lim, .map (some b)]) (htc : Turn w1 wc g b gw) (hlc : Later w1 gw (Value.slice A3 (T + 3) c3).ownBlock)
    (hg4 : wc.grownBy w4 (Value.slice A3 (T + 3) c3).ownBlock) (hat4 : (Value.slice A4 (T + 3 + n) c4).ownBlock = (Value.slice A3 (T + 3) c3).ownBlock ∨ (Value.slice A4 (T + 3 + n) c4).ownBlock = some wc.heap.size)
    (hb4 : Blk w4 g 109 #[.slice A3 (T + 3) c3, .int .i64 lim, .map (some b)])
    (ho5 : (w4.setCell ⟨g, 0, none⟩ (.slice A4 (T + 3 + n) c4)).ownsRow base 3 1 (.slice A4 (T + 3 + n) c4) (T + 3 + n) ((wordsOf cs).map (Value.int .i64) ++ [.int .i64 hd, .int .i64 gl, .int .i64 0] ++ (List.range n).map f))
    (hm5 : (w4.setCell ⟨g, 0, none⟩ (.slice A4 (T + 3 + n) c4)).ownsMap Try.prog 3 (unitElem (H := Unit)) b nn D)
    (hh : ∀ x : Int, Maps.has D (.int .i64 x) = (at? cs x).isSome) (hsz : Maps.size D = countOf cs) (hnn : nn ≤ cs.length)
    (hm6 : w6.ownsMap Try.prog 3 (unitElem (H := Unit)) b (nn + 1) (D.put (.int .i64 T) (.agg []))) (hg6 : (w4.setCell ⟨g, 0, none⟩ (.slice A4 (T + 3 + n) c4)).grownBy w6 (some b)) :
    ∃ gw', Ar w6 base g b gw' lim (cs ++ [⟨xs, ln, gl, 0, true⟩]) ∧ Later w1 gw gw' ∧ Turn w1 w6 g b gw := by
  have hb5 := hb4.set_ 0 (.slice A4 (T + 3 + n) c4)
  have htot : total (cs ++ [⟨xs, ln, gl, 0, true⟩]) = T + 3 + n := by rw [total_snoc, ← hT, hn]; simp [Cl.size]; omega
  have hwo : (wordsOf cs).map (Value.int .i64) ++ [.int .i64 hd, .int .i64 gl, .int .i64 0] ++ (List.range n).map f = (wordsOf (cs ++ [⟨xs, ln, gl, 0, true⟩])).map (.int .i64) := by
    rw [wordsOf_snoc, hf, hhd]; simp [Cl.words]
  rw [hwo] at ho5
  have hnk : at? cs (T : Int) = none := at?_far cs _ (by omega)
  have hl2 : Later w1 gw (Value.slice A4 (T + 3 + n) c4).ownBlock := by
    rcases hat4 with e | e
    · rw [e]; exact hlc
    · exact .inr ⟨_, e, htc.size⟩
  refine ⟨_, ⟨⟨A4, c4, ?_, ?_, rfl⟩, ⟨_, nn + 1, hm6, fun x => ?_, ?_, ?_⟩, hbg, hbb⟩, by rw [htot]; exact hl2, ?_⟩
  · rw [htot]
    exact hb5.grown hg6 (by intro e; injection e with e; exact hgb e)
  · rw [htot]
    exact ho5.kept hg6 (.inr (own_map_ne ho5 hm5).symm)
  · rw [at?_snoc _ _ rfl, ← hT]
    by_cases hx : x = T
    · subst hx; rw [if_pos rfl, Maps.has_put_same hm5.isMap (show WideAt.IsKeyLit (.int .i64 _) from trivial)]; rfl
    · rw [if_neg hx, Maps.has_put_other (by intro e; injection e with _ e; exact hx e), hh]
  · rw [countOf_snoc _ _ rfl, Maps.size_put (hm5.tidy intLaw), hh, hnk, hsz]; simp
  · simp; omega
  · have h2 : Turn wc w6 g b (Value.slice A3 (T + 3) c3).ownBlock := by
      refine ⟨hg6.os.trans hg4.os, hg6.tape.trans hg4.tape, hg6.output.trans hg4.output, Nat.le_trans hg4.size (Nat.le_trans (by simp [World.setCell]) hg6.size), fun k hk h1 h2 h3 => ?_⟩
      rw [hg6.block k (by simp [World.setCell]; have := hg4.size; omega) (by intro e; injection e with e; exact h2 e), Below.heap_setCell w4 _ _ k h1]
      exact hg4.block k hk h3
    exact htc.trans h2 hlc

set_option maxRecDepth 100000 in
set_option maxHeartbeats 2000000 in
theorem add_room (h : Ar w base g b gw lim cs) (A : Option Addr) (xs : List Int) (c : Nat) (ln : Bool) (glue : Int) (ht : total cs + xs.length + 3 ≤ 1099511627776) (h0 : -9223372036854775808 ≤ lim) (h1 : lim ≤ 9223372036854775807) (hl : lim ≤ 0 ∨ total cs + 3 + xs.length ≤ lim)
    (hx : ∀ w', Turn w w' g b gw → Ints w' w'.heap.size A xs) :
    Calls Try.prog 43 #[.pointer (some ⟨g, 0, none⟩), .slice A xs.length c, .bool ln, .int .i64 glue] w fun e w' => e = .returned (.tuple #[.int .i64 (total cs), .bool true]) ∧
      (∃ gw', Ar w' base g b gw' lim (cs ++ [⟨xs, ln, least glue, 0, true⟩]) ∧ Later w gw gw') ∧ Turn w w' g b gw := by
  obtain ⟨i0, hi, hz0, hz1, hz2⟩ := info_parts infoInt
  have H := Lib.hid h
  have HX := Lib.hid hx
  obtain ⟨A2, c2, hblk, hown, hgw⟩ := h.ex
  have c0 := hblk.cell 0
  have c1 := hblk.cell 1
  simp at c0 c1
  have HG := Lib.hid hgw
  obtain ⟨T, hT⟩ : ∃ T, T = total cs := ⟨_, rfl⟩
  obtain ⟨n, hn⟩ : ∃ n, n = xs.length := ⟨_, rfl⟩
  rw [← hT, ← hn] at ht hl
  rw [← hT] at c0 ⊢
  rw [← hn]
  have HT := Lib.hid hT
  have HN := Lib.hid hn
  clear hblk hown hgw h hT hn hx
  have I : decide (0 < lim) = false ∨ (decide (0 < lim) = true ∧ IntKind.i64.wrap (3 + (n : Int)) = 3 + n ∧ IntKind.i64.wrap (lim - (T : Int)) = lim - T ∧ decide (lim - (T : Int) < 3 + n) = false) := by
    by_cases h2 : 0 < lim
    · exact .inr ⟨by simpa using h2, IntWalk.i64_in _ (by omega), IntWalk.i64_in _ (by omega), by simp; omega⟩
    · exact .inl (by simpa using h2)
  go_enter Try.func43, Try.ntmps43
  go_wp2
  rcases I with j0 | ⟨j0, j1, j2, j3⟩
  all_goals go_quiet (fail)
  all_goals
    have h1' : Ar (w.drewN nq) base g b gw lim cs := ⟨H.out.ex, H.out.map, H.out.hg, H.out.hb⟩
    have tw : ∀ w', Turn (w.drewN nq) w' g b gw → Turn w w' g b gw := fun w' ht => ⟨ht.os, ht.tape, ht.output, ht.size, ht.block⟩
    have zw : (w.drewN nq).heap.size = w.heap.size := rfl
    generalize w.drewN nq = w1 at h1' tw zw
    have TW := Lib.hid tw
    have ZW := Lib.hid zw
    clear tw zw c0 c1
  all_goals first | clear j1 j2 j3 | skip
  all_goals
    obtain ⟨A2', c2', hblk, hown, hgw⟩ := h1'.ex
    obtain ⟨D, nn, hm, hh, hsz, hnn⟩ := h1'.map
    rw [← HT.out] at hblk hown hgw
    have c0 := hblk.cell 0
    have c2 := hblk.cell 2
    simp at c0 c2
    have HGW := Lib.hid hgw
    have HO := Lib.hid hown
    have HBL := Lib.hid hblk
    have HM := Lib.hid (And.intro hm (And.intro hh (And.intro hsz hnn)))
    have HB1 := Lib.hid h1'
    have hb0 : base ≤ w1.heap.size := Nat.le_trans h1'.hg (Nat.le_of_lt h1'.glt)
    clear hblk hown hgw hm hh hsz hnn h1' j0
  all_goals rcases ln with _ | _
  all_goals go_wp2
  all_goals first
    | (obtain ⟨hd, hhd⟩ : ∃ hd : Int, hd = 2 * (n : Int) + 1 := ⟨_, rfl⟩
       rw [← hhd]
       have HHD := Lib.hid (show hd = (⟨xs, true, least glue, 0, true⟩ : Cl).head by rw [hhd, HN.out]; simp [Cl.head])
       clear hhd)
    | (obtain ⟨hd, hhd⟩ : ∃ hd : Int, hd = 2 * (n : Int) := ⟨_, rfl⟩
       rw [← hhd]
       have HHD := Lib.hid (show hd = (⟨xs, false, least glue, 0, true⟩ : Cl).head by rw [hhd, HN.out]; simp [Cl.head])
       clear hhd)
  all_goals
    obtain ⟨wa, hwa⟩ : ∃ wa, wa = (w1.alloc (.cells #[.int .i64 hd, .int .i64 (least glue), .int .i64 0] 3)).drew := ⟨_, rfl⟩
    have ha1 : Blk wa g 109 #[.slice A2' T c2', .int .i64 lim, .map (some b)] := by rw [hwa]; exact HBL.out.alloc _
    have ha2 : wa.ownsRow base 3 1 (.slice A2' T c2') T ((wordsOf cs).map (Value.int .i64)) := by rw [hwa]; exact HO.out.alloc _
    have hac : Cells wa (w1.heap.size + 1) (some ⟨w1.heap.size, 0, none⟩) 3 (cellsFn #[.int .i64 hd, .int .i64 (least glue), .int .i64 0]) := by rw [hwa]; exact cells_new_drew w1 _ _
    have has : wa.heap.size = w1.heap.size + 1 := by rw [hwa]; simp
    have hcf : ∀ j, j < 3 → (cellsFn #[.int .i64 hd, .int .i64 (least glue), .int .i64 0] j).oneCell' = true := fun j hj => match j, hj with | 0, _ => rfl | 1, _ => rfl | 2, _ => rfl
    have hba : Below w1.heap.size w1 wa := by rw [hwa]; exact below_drewN ((Below.refl _ _).alloc (Nat.le_refl _) _) 1
    have HA1 := Lib.hid ha1
    have HA2 := Lib.hid ha2
    have HAC := Lib.hid hac
    have HAS := Lib.hid has
    have HCF := Lib.hid hcf
    have HWA := Lib.hid hwa
    have HBA := Lib.hid hba
    clear ha1 ha2 hac has hcf hwa hba
  all_goals have c0a : (w1.alloc (Obj.cells #[Value.int .i64 hd, Value.int .i64 (least glue), Value.int .i64 0] 3)).cell? ⟨g, 0, none⟩ = some (.slice A2' T c2') := (HBL.out.alloc _).cell 0
  all_goals have hwt : w.heap.size ≤ w1.heap.size := by have := ZW.out; omega
  all_goals go_cut [53] (fun v w' => ∃ A3 c3, v = .slice A3 (T + 3) c3 ∧ Blk w' g 109 #[.slice A3 (T + 3) c3, .int .i64 lim, .map (some b)] ∧
    w'.ownsRow base 3 1 (.slice A3 (T + 3) c3) (T + 3) ((wordsOf cs).map (Value.int .i64) ++ [.int .i64 hd, .int .i64 (least glue), .int .i64 0]) ∧ Turn w1 w' g b gw ∧ Later w1 gw (Value.slice A3 (T + 3) c3).ownBlock ∧ w'.ownsMap Try.prog 3 (unitElem (H := Unit)) b nn D)
  all_goals first | (case first =>
    go_region_law (first
      | (rw [← HWA.out]; refine step_append_cells rfl (.tmp 48) (.tmp 52) 32 rfl base 3 i0 (.int .i64 0) 8 Try.underlying32 hi hz0 hz1 hz2 rfl (.slice A2' T c2') T ((wordsOf cs).map (Value.int .i64)) rfl HA2.out (w1.heap.size + 1) (some ⟨w1.heap.size, 0, none⟩) 3 3 (cellsFn #[.int .i64 hd, .int .i64 (least glue), .int .i64 0]) rfl HAC.out HCF.out (by unfold maxLen; omega) (by omega) (by have := HAS.out; omega) ?_; intro v' w3 hown3 hg3 hat3; obtain ⟨A3, c3, hv3, -⟩ := own_slice hown3; subst hv3; have hb3 := HA1.out.grown hg3 (own_blk_ne HA2.out HA1.out (by decide)); have k0 := hb3.cell 0; simp at k0; have kF := hb3.frozen 0; have K0 := Lib.hid k0; have HB3 := Lib.hid hb3; have HO3 := Lib.hid hown3; have HG3 := Lib.hid hg3; have HAT3 := Lib.hid hat3;clear hb3 hown3 hg3 hat3)
      | (go_simp; go_at_call 73; refine (clamped_any _ _).mono ?_; rintro e w2 ⟨rfl, rfl⟩))
    all_goals (go_wp2_with fail; go_meet)
    all_goals
      have hne := own_blk_ne HO3.out HB3.out (by decide)
      have hgw' := HGW.out
      have tb : Turn w1 w3 g b gw := by
        have h2 : Turn wa w3 g b gw := ⟨HG3.out.os, HG3.out.tape, HG3.out.output, HG3.out.size, fun k hk _ _ h3 => HG3.out.block k hk (by rw [hgw']; exact h3)⟩
        exact (Turn.of_below HBA.out).trans h2 (.inl rfl)
      have tb2 : Turn w1 (w3.setCell ⟨g, 0, none⟩ (.slice A3 (T + 3) c3)) g b gw :=
        ⟨tb.os, tb.tape, tb.output, Nat.le_trans tb.size (by simp [World.setCell]), fun k hk h1 h2 h3 => (Below.heap_setCell w3 _ _ k h1).trans (tb.block k hk h1 h2 h3)⟩
      have hma : wa.ownsMap Try.prog 3 (unitElem (H := Unit)) b nn D := by rw [HWA.out]; exact HM.out.1.alloc _
      have hm3 := hma.kept HG3.out (own_map_ne HA2.out hma)
      refine ⟨A3, c3, rfl, HB3.out.set_ 0 _, own_setCell HO3.out _ hne, tb2, ?_, hm3.setCell (fun e => blk_map_ne HB3.out hm3 e.symm) _⟩
      rcases HAT3.out with e | e
      · exact .inl (e.trans hgw')
      · exact .inr ⟨_, e, by have := HAS.out; omega⟩) | skip
  all_goals
    obtain ⟨A3, c3, rfl, hblk, hown, htn, hlt, hmc⟩ := hcut
    have hxc : Cells wc wc.heap.size A n (fun j => .int .i64 (xs.getD j 0)) := by rw [HN.out]; exact HX.out wc (TW.out wc htn)
    have d0 := hblk.cell 0
    have d2 := hblk.cell 2
    simp at d0 d2
    have HBC := Lib.hid hblk
    have HOC := Lib.hid hown
    have HTC := Lib.hid htn
    have HLC := Lib.hid hlt
    have HMC := Lib.hid hmc
    have HXC := Lib.hid hxc
    have hbc : base ≤ wc.heap.size := Nat.le_trans hb0 htn.size
    clear c0 c2 c0a hblk hown htn hlt hmc hxc HA1 HA2 HAC HAS HCF HWA HBA HO HBL HX
    go_wp2_with (at_builtin; refine wpList_append_cells _ rfl _ _ 32 rfl base 3 i0 (.int .i64 0) 8 Try.underlying32 hi hz0 hz1 hz2 rfl (.slice A3 (T + 3) c3) (T + 3) _ rfl HOC.out wc.heap.size A n _ _ rfl HXC.out (fun _ _ => rfl) (by unfold maxLen; omega) (by omega) hbc ?_)
    intro v' w4 hown4 hg4 hat4
    obtain ⟨A4, c4, hv4, -⟩ := own_slice hown4
    subst hv4
    have hb4 := HBC.out.grown hg4 (own_blk_ne HOC.out HBC.out (by decide))
    have hm4 := HMC.out.kept hg4 (own_map_ne HOC.out HMC.out)
    have hgb := blk_map_ne hb4 hm4
    have hm5 := hm4.setCell (a := ⟨g, 0, none⟩) (fun e => hgb e.symm) (.slice A4 (T + 3 + n) c4)
    have ho5 := own_setCell hown4 (.slice A4 (T + 3 + n) c4) (p := ⟨g, 0, none⟩) (own_blk_ne hown4 hb4 (by decide))
    have hb5 := hb4.set_ 0 (.slice A4 (T + 3 + n) c4)
    have k0 := hb4.cell 0
    have kF := hb4.frozen 0
    have k2 := hb5.cell 2
    simp at k0 k2
    have hnn : nn < maxLen := by have h1 := HM.out.2.2.2; have h2 := length_le_total cs; have := HT.out; unfold maxLen; omega
    have HB4 := Lib.hid hb4
    have HG4 := Lib.hid hg4
    have HAT4 := Lib.hid hat4
    have HM5 := Lib.hid hm5
    have HO5 := Lib.hid ho5
    have HB5 := Lib.hid hb5
    clear hb4 hown4 hg4 hat4 hm4 hm5 ho5 hb5 d0 d2
    go_wp2_with (at_mapUpdate; refine wpList_mapUpdate_own _ rfl _ _ _ 107 rfl 3 110 intLaw Try.underlying107 _ b nn D rfl HM5.out hnn _ _ _ rfl rfl (Maps.keyOf_int_mk Try.underlying3 (WalkArith.wf_i64 (by omega))) _ [] unitElem_mk ?_; intro w6 hm6 hg6)
    go_ret2
    have hf : (List.range n).map (fun j => Value.int .i64 (xs.getD j 0)) = xs.map (Value.int .i64) := by rw [HN.out]; exact range_ints xs
    obtain ⟨gw', ha, hl', ht'⟩ := add_close HT.out HN.out HHD.out H.out.hg H.out.hb hgb hf HBC.out HTC.out HLC.out HG4.out HAT4.out HB4.out (by simpa using HO5.out) HM5.out HM.out.2.1 HM.out.2.2.1 HM.out.2.2.2 hm6 hg6
    exact ⟨rfl, ⟨gw', ha, by rcases hl' with e | ⟨k, e, hk⟩; exact .inl e; exact .inr ⟨k, e, by omega⟩⟩, TW.out _ ht'⟩
end
end Go.Proofs.Ytbejjddkndcldaa
