/- A proof out of steps of raw numbers. -/
import Derived.Test.YtdehlikmefpgnaaDoorProof06
import Derived.Deep.RegionLaw
import Derived.IntWalk
namespace Go.Proofs.YtdehlikmefpgnaaDoor
open Go.RowKit
set_option linter.unusedSimpArgs false
set_option linter.unusedVariables false
set_option linter.unnecessarySimpa false

/-- the proof of raw steps -/
def litsOf (xs : List Stp) : List Stp := xs.map fun s => (s.1, s.2.map litOf)
theorem litsOf_right (xs : List Stp) : stpsRight (litsOf xs) = true := by
  unfold stpsRight litsOf stpRight
  simp [List.all_eq_true, litOf_lit]
theorem litsOf_weight : ∀ xs : List Stp, weight (litsOf xs) = weight xs
  | [] => rfl
  | s :: r => by
    show weight ((s.1, s.2.map litOf) :: litsOf r) = _
    rw [weight, weight, litsOf_weight r]
    simp
theorem litsOf_take {xs : List Stp} {k : Nat} (hk : k < xs.length) : litsOf (xs.take (k + 1)) = litsOf (xs.take k) ++ [((xs.getD k stp0).1, (xs.getD k stp0).2.map litOf)] := by
  rw [List.take_succ_eq_append_getElem hk]; unfold litsOf; rw [List.map_append]; simp [List.getD, hk]
theorem litsOf_len (xs : List Stp) : (litsOf xs).length = xs.length := by simp [litsOf]
theorem mapLit_take {ls : List Int} {j : Nat} (hj : j < ls.length) : (ls.take (j + 1)).map litOf = (ls.take j).map litOf ++ [litOf (ls.getD j 0)] := by
  rw [List.take_succ_eq_append_getElem hj, List.map_append]; simp [List.getD, hj]

theorem step_append1' {P : Program} {ops : Array Oper} {o : Oper} {a : Act} {w : World} {K : Act → World → Prop} {Q : Exit → Act → World → Prop} {E : Prop}
    (hg : o.guard = none) (s x : Operand) (t : TypeId) (hop : o.op = Op.call { callee := Callee.builtin Builtin.append, args := #[s, x], argTypes := #[t, t] })
    (base : Nat) (e : TypeId) (i : TypeInfo) (z : Value) (bytes : Nat) (ht : P.underlying t = some (.slice e)) (hi : P.info? e = some i) (hz : i.zero = some z)
    (hsize : i.size = 1) (hby : i.bytes = bytes) (hzs : z.cells.size = 1)
    (v : Value) (n : Nat) (xs : List Value) (hs : a.eval s = v) (hown : w.ownsRow base e 1 v n xs)
    (u : Value) (g : Nat) (hx : a.eval x = .slice (some ⟨g, 0, none⟩) 1 1) (hc : w.cell? ⟨g, 0, none⟩ = some u) (h1 : u.oneCell' = true)
    (h63 : n + 1 ≤ maxLen) (hbytes : (n + 1) * bytes ≤ 140737488355328) (hbase : base ≤ w.heap.size)
    (hK : ∀ v' w', w'.ownsRow base e 1 v' (n + 1) (xs ++ [u]) → w.grownBy w' v.ownBlock → K (a.put o.dst v') w') :
    if Region.wanted o (yielded ops a.tmps) = true then Oper.wp P o a w K Q else E := by
  have hw : Region.wanted o (yielded ops a.tmps) = true := by simp [Region.wanted, hg]
  rw [if_pos hw]
  obtain ⟨v', w', hrun, h2, h3, _, h4⟩ := run_append_own_at (P := P) w base t o.type e i z 1 bytes ht hi hz hsize hby hzs (by decide) v n xs hown ⟨g, 0, none⟩ 1 1 [u] rfl
    (by intro j u' hu; match j, hu with | 0, hu => simp at hu; subst hu; simpa [Addr.add] using hc) (by intro u' hu; simp at hu; subst hu; exact h1) h63 hbytes hbase
  unfold Oper.wp
  simp [execOp, hop, resolve, invoke, builtin, hs, hx, hrun, Result.andThen]
  exact hK v' w' h2 h3

set_option maxRecDepth 100000 in
set_option maxHeartbeats 4000000 in
theorem proof6_any (xs : List Stp) (B c : Nat) (A : Option Addr) (w : World) (h : KSteps .i32 w B A xs) (hB : B ≤ w.heap.size) (hw : weight xs ≤ 400) (hb : ∀ j i, -2147483648 ≤ (xs.getD j stp0).2.getD i 0 ∧ (xs.getD j stp0).2.getD i 0 ≤ 2147483647) :
    Calls Tryd.prog 12 #[.slice A xs.length c] w fun e w' => ∃ (A' : Option Addr) (c' : Nat), e = .returned (.slice A' (litsOf xs).length c') ∧ OwnSteps w' w.heap.size A' c' (litsOf xs) ∧ Below w.heap.size w w' := by
  obtain ⟨i0, hi, hz0, hz1, hz2⟩ := info_parts Tryd.infoStep
  obtain ⟨j0, hj, hy0, hy1, hy2⟩ := info_parts Tryd.infoInt3
  have H := Lib.hid h
  have HBD := Lib.hid hb
  have hl : xs.length ≤ 400 := by have := weight_len xs; omega
  have HX := Lib.hid (show ∀ j, (xs.getD j stp0).2.length ≤ 400 from fun j => by have := weight_each (xs := xs) j; omega)
  clear h hb hw
  go_enter Tryd.func12, Tryd.ntmps12
  go_wp2
  go_loopg [3, 11] (xs.length + 1) (fun gk s i wr => ∃ (k : Nat) (As : Option Addr) (cs : Nat), k ≤ xs.length ∧ gk = xs.length - k + 1 ∧ i = .int .i64 k ∧ s = .slice As (litsOf (xs.take k)).length cs ∧ OwnSteps wr w.heap.size As cs (litsOf (xs.take k)) ∧ Below w.heap.size w wr)
  case atStart => exact ⟨0, none, 0, by omega, by omega, rfl, rfl, OwnSteps.nil_ _ _, Below.refl _ _⟩
  case round =>
    obtain ⟨k, As, cs, hk, rfl, rfl, rfl, hown, hb⟩ := hrel
    obtain ⟨wo, rfl⟩ : ∃ wo : World, wo = wr := ⟨_, rfl⟩
    have HBk := Lib.hid hb
    have hso := hb.size
    by_cases hlt : k < xs.length
    · obtain ⟨b, off, Ak, ck, rfl, hbB, hd, hcell, hint⟩ := (H.out.below (hb.mono hB)).at_ hlt
      have hxk := HX.out k
      have htk := litsOf_take hlt
      have hbk := fun i => HBD.out k i
      have hpl : (litsOf (xs.take k)).length ≤ 400 := by rw [litsOf_len, List.length_take]; omega
      obtain ⟨⟨d, ls⟩, hs⟩ : ∃ s, s = xs.getD k stp0 := ⟨_, rfl⟩
      rw [← hs] at hd hcell hint hxk htk hbk
      clear hs
      simp only at hd hcell hint hxk htk hbk
      generalize litsOf (xs.take k) = ps at hown htk hpl
      have HO := Lib.hid hown
      have HTK := Lib.hid htk
      have HBK := Lib.hid hbk
      have HIN := Lib.hid hint
      clear hown htk hbk hint hb
      go_wp2
      obtain ⟨w1, hw1⟩ : ∃ w1, w1 = (wo.alloc (.cells #[.bool d, .slice Ak ls.length ck] 48)).alloc (.cells #[.bool d, .slice none 0 0] 42) := ⟨_, rfl⟩
      have hb1 : Below wo.heap.size wo w1 := by rw [hw1]; exact ((Below.refl _ _).alloc (Nat.le_refl _) _).alloc (by simp) _
      have hx1 : Blk w1 (wo.heap.size + 1) 42 #[.bool d, .slice none 0 0] := by
        have := Blk.new (wo.alloc (.cells #[.bool d, .slice Ak ls.length ck] 48)) 42 #[.bool d, .slice none 0 0]
        rw [hw1]; simpa using this
      rw [← hw1]
      clear hw1 hd hcell
      have HB1 := Lib.hid hb1
      have HX1 := Lib.hid hx1
      clear hb1 hx1
      go_loopg [21] (ls.length + 1) (fun gk i wr => ∃ (j : Nat) (Al : Option Addr) (cl : Nat), j ≤ ls.length ∧ gk = ls.length - j + 1 ∧ i = .int .i64 j ∧ Blk wr (wo.heap.size + 1) 42 #[.bool d, .slice Al j cl] ∧
        wr.ownsRow wo.heap.size 3 1 (.slice Al j cl) j (((ls.take j).map litOf).map (Value.int .i64)) ∧ Below wo.heap.size wo wr)
      case atStart => exact ⟨0, none, 0, by omega, by omega, rfl, HX1.out, World.ownsRow_nil _ _ _ _, HB1.out⟩
      case round =>
        obtain ⟨j, Al, cl, hjl, rfl, rfl, hx, hown, hb⟩ := hrel
        obtain ⟨wi, rfl⟩ : ∃ wi : World, wi = wr := ⟨_, rfl⟩
        have HXJ := Lib.hid hx
        have HOWN := Lib.hid hown
        have HBj := Lib.hid hb
        have hsi := hb.size
        have hltw := hx.lt
        by_cases hlj : j < ls.length
        · obtain ⟨b2, off2, rfl, hb2, hcj1⟩ := HIN.out.at_ hlj
          have hcj := (hb.cell (p := ⟨b2, off2 + j, none⟩) (by simp; omega)).trans hcj1
          obtain ⟨hb3, hb4⟩ := HBK.out j
          have hmt := mapLit_take hlj
          obtain ⟨l, hl'⟩ : ∃ l, l = ls.getD j 0 := ⟨_, rfl⟩
          rw [← hl'] at hcj hb3 hb4 hmt
          have HMT := Lib.hid hmt
          have c1 := hx.cell 1
          have f1 := hx.frozen
          simp at c1
          have hwr : IntKind.i64.wrap l = l := IntWalk.i64_in l ⟨by omega, by omega⟩
          have LC := Lib.hid (fun w' => litOf_any l w' (by omega) (by omega))
          generalize litOf l = l' at HMT LC
          clear hl' hmt hcj1 hx hown hb
          obtain ⟨wa, hwa⟩ : ∃ wa, wa = (wi.alloc (.cells #[.int .i64 l'] 3)).drew := ⟨_, rfl⟩
          have ha1 : Blk wa (wo.heap.size + 1) 42 #[.bool d, .slice Al j cl] := by rw [hwa]; exact HXJ.out.alloc _
          have ha2 : wa.ownsRow wo.heap.size 3 1 (.slice Al j cl) j (((ls.take j).map litOf).map (Value.int .i64)) := by rw [hwa]; exact HOWN.out.alloc _
          have hac : wa.cell? ⟨wi.heap.size, 0, none⟩ = some (.int .i64 l') := by rw [hwa]; go_cell
          have has : wa.heap.size = wi.heap.size + 1 := by rw [hwa]; simp
          have hba : Below wo.heap.size wo wa := by rw [hwa]; exact below_drewN (HBj.out.alloc hsi _) 1
          have HA1 := Lib.hid ha1
          have HA2 := Lib.hid ha2
          have HAC := Lib.hid hac
          have HAS := Lib.hid has
          have HBA := Lib.hid hba
          have HWA := Lib.hid hwa
          clear ha1 ha2 hac has hba hwa
          go_wp2
          go_region_law (first
            | (rw [← HWA.out]; refine step_append1' rfl (.tmp 26) (.tmp 30) 40 rfl wo.heap.size 3 j0 (.int .i64 0) 8 Tryd.underlying40 hj hy0 hy1 hy2 rfl (.slice Al j cl) j _ rfl HA2.out (.int .i64 l') wi.heap.size rfl HAC.out rfl (by unfold maxLen; omega) (by omega) (by have := HAS.out; omega) ?_; intro v' w3 hown3 hg3; obtain ⟨A3, c3, hv3, -⟩ := own_slice hown3; subst hv3; have hb3 := HA1.out.grown hg3 (own_blk_ne HA2.out HA1.out (by decide)); have d3 := hb3.cell 1; have dF := hb3.frozen 1; simp at d3; have HB3 := Lib.hid hb3; have HO3 := Lib.hid hown3; have HG3 := Lib.hid hg3; clear hb3 hown3 hg3)
            | (go_simp; go_at_call 23; refine (LC.out _).mono ?_; rintro e w2 ⟨rfl, rfl⟩))
          all_goals
            go_wp2_with fail
            go_roundg (ls.length - j)
            case measure => omega
            case rel =>
              have hne := own_blk_ne HO3.out HB3.out (by decide)
              refine ⟨j + 1, A3, c3, by omega, by omega, by go_num, HB3.out.set_ 1 _, ?_, ?_⟩
              · rw [HMT.out, List.map_append]
                exact own_setCell HO3.out _ hne
              · exact (HBA.out.grown HG3.out (by have := HAS.out; omega) (fun g hg => (HA2.out.lt g hg).1)).setCell (by simp) _
        · have htj : ls.take j = ls := List.take_of_length_le (by omega)
          obtain rfl : j = ls.length := by omega
          rw [htj] at hown
          have c0 := hx.cell 0
          have c1 := hx.cell 1
          simp at c0 c1
          have hlm : ls.length = (ls.map litOf).length := by simp
          have hown1 : wi.ownsRow wo.heap.size 3 1 (.slice Al (ls.map litOf).length cl) (ls.map litOf).length ((ls.map litOf).map (Value.int .i64)) := by rw [← hlm]; exact hown
          obtain ⟨vs, ho1, hrows⟩ := HO.out.below hb (Nat.le_refl _)
          have hb0 := HBk.out.trans (hb.mono hso)
          have hr2 := hrows.snoc (d := d) ho1.1 (own_more hown1 hso)
          have HR2 := Lib.hid hr2
          have HO2 := Lib.hid ho1
          have HB0 := Lib.hid hb0
          have hs0 := hb0.size
          have HLM := Lib.hid hlm
          clear hown hx hb hrows ho1 hr2 hb0 hown1 htj hlm
          go_wp2_with (at_builtin; refine wpList_append_el _ rfl _ _ 25 rfl w.heap.size 42 i0 (.agg #[.bool false, .slice none 0 0]) 2 32 Tryd.underlying25 hi hz0 hz1 hz2 rfl (by decide) _ _ _ rfl (HO2.out.alloc _) [.bool d, .slice Al ls.length cl] rfl wi.heap.size rfl (two_cells (Blk.new wi 42 #[.bool d, .slice Al ls.length cl])) (by simp [Value.oneCell']) (by unfold maxLen; omega) (by omega) (by simp; omega) ?_)
          intro v' w4 hown4 hg4 hob4
          have hsl : ∃ A3 c3, v' = .slice A3 (ps.length + 1) c3 := by
            rcases hown4.2 with ⟨_, h⟩ | ⟨g, cap, cur, h, _⟩
            · omega
            · exact ⟨_, _, h⟩
          obtain ⟨A3, c3, rfl⟩ := hsl
          have hrA := HR2.out.below ((Below.refl wi.heap.size wi).alloc (Nat.le_refl _) (.cells #[.bool d, .slice Al ls.length cl] 42)) (Nat.le_refl _)
          have hr4 := hrA.outer (HO2.out.alloc _) (by decide) hg4
          have HB4 := Lib.hid ((HB0.out.alloc (by omega) _).grown hg4 (by simp; omega) (fun g hg => (HO2.out.lt g hg).1))
          have HO4 := Lib.hid hown4
          have HR4 := Lib.hid hr4
          clear hown4 hg4 hob4 hrA hr4 c0 c1
          go_wp2
          go_roundg (xs.length - k)
          case measure => omega
          case rel =>
            refine ⟨k + 1, A3, c3, by omega, by omega, by go_num, ?_, ?_, HB4.out⟩
            · rw [HTK.out]; simp
            · rw [HTK.out]
              refine ⟨_, ?_, HR4.out⟩
              have h9 := HO4.out
              rw [List.length_append, List.length_singleton]
              simpa using h9
    · have htk : xs.take k = xs := List.take_of_length_le (by omega)
      rw [htk] at hown ⊢
      have HO := Lib.hid hown
      clear hown htk
      go_wp2
      go_ret
      exact ⟨As, cs, rfl, HO.out, hb⟩
end Go.Proofs.YtdehlikmefpgnaaDoor
