/- A proof out of bytes. -/
import Derived.Test.YtdehlikmefpgnaaDoorDrat4
namespace Go.Proofs.YtdehlikmefpgnaaDoor
open Go.RowKit
set_option linter.unusedSimpArgs false
set_option linter.unusedVariables false

theorem Tryd.infoStep : (Tryd.prog.info? 42).map (fun i => (i.zero, i.size, i.bytes)) = some (some (.agg #[.bool false, .slice none 0 0]), 2, 32) := by kernel_rfl

/-- steps in rows of one's own, from a block on -/
def OwnSteps (w : World) (base : Nat) (A : Option Addr) (c : Nat) (ps : List Stp) : Prop :=
  ∃ vs, w.ownsRow base 42 2 (.slice A ps.length c) ps.length vs ∧ StpRows w base 3 vs ps
theorem OwnSteps.nil_ (w : World) (base : Nat) : OwnSteps w base none 0 [] := ⟨[], World.ownsRow_nil _ _ _ _, StpRows.nil_⟩
theorem OwnSteps.below {w w' : World} {base B c : Nat} {A : Option Addr} {ps : List Stp} (h : OwnSteps w base A c ps) (hb : Below B w w') (hB : w.heap.size ≤ B) : OwnSteps w' base A c ps := by
  obtain ⟨vs, h1, h2⟩ := h
  exact ⟨vs, own_belowK h1 hb hB, h2.below hb hB⟩
theorem OwnSteps.steps {w : World} {base c : Nat} {A : Option Addr} {ps : List Stp} (h : OwnSteps w base A c ps) : Steps w w.heap.size A ps := by
  obtain ⟨vs, h1, h2⟩ := h
  exact h2.steps h1

/-- what the parser of bytes answers -/
def ParseBin (bs : List UInt8) (w : World) (e : Ending) (w' : World) : Prop :=
  Below w.heap.size w w' ∧ ((∃ (ps : List Stp) (A : Option Addr) (c : Nat), e = .returned (.tuple #[.slice A ps.length c, .int .i64 0]) ∧ BinIs bs (some ps, 0) ∧ OwnSteps w' w.heap.size A c ps) ∨
    (∃ k : Int, e = .returned (.tuple #[.slice none 0 0, .int .i64 k]) ∧ BinIs bs (none, k) ∧ k ≠ 0))

set_option maxRecDepth 100000 in
set_option maxHeartbeats 4000000 in
theorem parseBinary_any (bs : List UInt8) (B c : Nat) (A : Option Addr) (w : World) (h : Bytes w B A bs) (hB : B ≤ w.heap.size) (hc : bs.length ≤ c) (hl : bs.length ≤ 1099511627776) :
    Calls Tryd.prog 16 #[.slice A bs.length c] w (ParseBin bs w) := by
  obtain ⟨i0, hi, hz0, hz1, hz2⟩ := info_parts Tryd.infoStep
  have H := Lib.hid h
  clear h
  go_enter Tryd.func16, Tryd.ntmps16
  go_wp2
  go_loopg [0, 4] (bs.length + 1) (fun gk s t wr => ∃ (ps : List Stp) (r : List UInt8) (As Ar : Option Addr) (cs cr : Nat), s = .slice Ar r.length cr ∧ t = .slice As ps.length cs ∧ r.length < gk ∧ r.length ≤ bs.length ∧ r.length ≤ cr ∧ Bytes wr B Ar r ∧
    stpsRight ps = true ∧ bs = binOf ps ++ r ∧ OwnSteps wr w.heap.size As cs ps ∧ Below w.heap.size w wr)
  case atStart => exact ⟨[], bs, none, A, 0, c, rfl, rfl, by omega, by omega, hc, H.out, rfl, rfl, OwnSteps.nil_ _ _, Below.refl _ _⟩
  case round =>
    obtain ⟨ps, r, As, Ar, cs, cr, rfl, rfl, hgk, hrl, hrc, hby, hps, hbs, hown, hb⟩ := hrel
    obtain ⟨wo, rfl⟩ : ∃ wo : World, wo = wr := ⟨_, rfl⟩
    have hpl : ps.length ≤ 1099511627776 := by
      have h1 := congrArg List.length hbs
      rw [List.length_append] at h1
      have h2 : ps.length ≤ (binOf ps).length := by
        clear h1 hown hbs hps
        induction ps with
        | nil => simp
        | cons p ps ih => rw [binOf_cons, List.length_append]; simp [stpBin]; omega
      omega
    have hs0 := hb.size
    by_cases h0 : 0 < r.length
    · have hne : r ≠ [] := by intro h; rw [h] at h0; simp at h0
      have CS := Lib.hid (cutStep_any r B cr Ar wo hby (by omega) h0 hrc (by omega))
      have HPS := Lib.hid hps
      have HBS := Lib.hid hbs
      have HO := Lib.hid hown
      have HB0 := Lib.hid hb
      have HNE := Lib.hid hne
      clear hby hps hbs hown hb hne
      go_wp2_with fail
      refine CS.out.mono ?_
      rintro e w2 ⟨hb2, hcase⟩
      have HB2 := Lib.hid hb2
      have hs2 := hb2.size
      clear hb2 CS
      rcases hcase with ⟨s, r2, A1, A2, c1, c2, rfl, hst, hown1, hby2, hrc2⟩ | ⟨k, rfl, hst, hk0⟩
      · obtain ⟨hp2, hbs2, hsr, hlt2⟩ := bin_step_ok HPS.out HBS.out hst
        obtain ⟨d, ls⟩ := s
        obtain ⟨vs, ho1, hrows⟩ := HO.out
        have ho2 := own_belowK ho1 HB2.out (Nat.le_refl _)
        have hb02 := HB0.out.trans (HB2.out.mono hs0)
        have hr2 := (hrows.below HB2.out (Nat.le_refl _)).snoc (d := d) ho1.1 (own_more hown1 hs0)
        have HR2 := Lib.hid hr2
        have HO2 := Lib.hid ho2
        have HB02 := Lib.hid hb02
        have HBY2 := Lib.hid hby2
        have HPS2 := Lib.hid hp2
        have HBS2 := Lib.hid hbs2
        have hs02 := hb02.size
        clear hp2 hbs2 hsr hst hown1 hby2 ho1 hrows ho2 hb02 hr2
        have hlt3 : r2.length < r.length := hlt2
        clear hlt2
        have hOA : ∀ o o2, ((w2.alloc o).alloc o2).ownsRow w.heap.size 42 2 (.slice As ps.length cs) ps.length vs := fun o o2 => (HO2.out.alloc o).alloc o2
        go_wp2_with (at_builtin; refine wpList_append_el _ rfl _ _ 25 rfl w.heap.size 42 i0 (.agg #[.bool false, .slice none 0 0]) 2 32 Tryd.underlying25 hi hz0 hz1 hz2 rfl (by decide) _ _ _ rfl (hOA _ _) [.bool d, .slice A1 ls.length c1] rfl (w2.heap.size + 1) rfl (two_cells (by have := Blk.new (w2.alloc (.cells #[.bool d, .slice A1 ls.length c1] 42)) 42 #[.bool d, .slice A1 ls.length c1]; simpa using this)) (by simp [Value.oneCell']) (by unfold maxLen; omega) (by omega) (by simp; omega) ?_)
        intro v' w3 hown3 hg3 hob3
        have hsl : ∃ A3 c3, v' = .slice A3 (ps.length + 1) c3 := by
          rcases hown3.2 with ⟨_, h⟩ | ⟨g, cap, cur, h, _⟩
          · omega
          · exact ⟨_, _, h⟩
        obtain ⟨A3, c3, rfl⟩ := hsl
        have hrA := HR2.out.below ((Below.refl w2.heap.size w2).alloc (Nat.le_refl _) (.cells #[.bool d, .slice A1 ls.length c1] 42) |>.alloc (by simp) (.cells #[.bool d, .slice A1 ls.length c1] 42)) (Nat.le_refl _)
        have hr3 := hrA.outer (hOA _ _) (by decide) hg3
        have HB3 := Lib.hid (((HB02.out.alloc (by omega) _).alloc (by simp; omega) _).grown hg3 (by simp; omega) (fun g hg => (HO2.out.lt g hg).1))
        have HO3 := Lib.hid hown3
        have HR3 := Lib.hid hr3
        clear hown3 hg3 hob3 hrA hr3 hOA
        go_wp2
        go_roundg (r.length)
        case measure => omega
        case rel =>
          exact ⟨ps ++ [(d, ls)], r2, A3, A2, c3, c2, rfl, by simp, by omega, by omega, hrc2, Cells.keep HBY2.out (fun p hp => (HB3.out.cell (p := p) (by omega)).trans (HB0.out.cell (p := p) (by omega)).symm), HPS2.out, HBS2.out, ⟨_, by simpa using HO3.out, HR3.out⟩, HB3.out⟩
      · have hq : (k == 0) = false := by simpa using hk0
        have hq2 : (k != 0) = true := by simpa using hk0
        have HST := Lib.hid hst
        clear hst
        go_wp2
        go_ret2
        refine ⟨(HB0.out.trans (HB2.out.mono hs0)).alloc (by omega) _, Or.inr ⟨k, rfl, ?_, hk0⟩⟩
        have h9 := HST.out
        rcases h9 with _ | ⟨h1, h2⟩ | h1
        · exact bin_step_short HPS.out HBS.out HNE.out (.short h1 h2)
        · exact bin_step_form HPS.out HBS.out HNE.out (.form h1)
    · have hr0 : r = [] := List.eq_nil_of_length_eq_zero (by omega)
      have hbs2 := hbs
      rw [hr0, List.append_nil] at hbs2
      have HPS := Lib.hid hps
      have HBS := Lib.hid hbs2
      have HO := Lib.hid hown
      have HB0 := Lib.hid hb
      clear hby hps hbs hbs2 hown hb hr0
      go_wp2
      go_ret2
      exact ⟨HB0.out, Or.inl ⟨ps, As, cs, rfl, .ok ps HPS.out HBS.out.symm, HO.out⟩⟩
end Go.Proofs.YtdehlikmefpgnaaDoor
