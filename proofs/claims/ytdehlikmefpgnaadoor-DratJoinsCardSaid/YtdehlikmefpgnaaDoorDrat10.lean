/- A proof out of text, whole. -/
import Derived.Test.YtdehlikmefpgnaaDoorDrat9
namespace Go.Proofs.YtdehlikmefpgnaaDoor
open Go.RowKit
set_option linter.unusedSimpArgs false
set_option linter.unusedVariables false
set_option linter.unnecessarySimpa false

set_option maxRecDepth 100000 in
set_option maxHeartbeats 4000000 in
theorem parseText_any (s : List UInt8) (m : Int) (w : World) (hs : s.length ≤ 100000) (hE : EnvN m w) :
    Calls Tryd.prog 15 #[.string ⟨s.toArray⟩] w (ParseTxt s w) := by
  obtain ⟨i0, hi, hz0, hz1, hz2⟩ := info_parts Tryd.infoStep
  have HE := Lib.hid hE
  clear hE
  go_enter Tryd.func15, Tryd.ntmps15
  go_wp2
  go_loopg [0, 4] (s.length + 1) (fun gk q t wr => ∃ (ps : List Stp) (r : List UInt8) (As : Option Addr) (cs : Nat), q = .string ⟨r.toArray⟩ ∧ t = .slice As ps.length cs ∧ r.length < gk ∧ r.length ≤ s.length ∧
    stpsRight ps = true ∧ s = txtOf ps ++ r ∧ OwnSteps wr w.heap.size As cs ps ∧ Below w.heap.size w wr)
  case atStart => exact ⟨[], s, none, 0, rfl, rfl, by omega, by omega, rfl, rfl, OwnSteps.nil_ _ _, Below.refl _ _⟩
  case round =>
    obtain ⟨ps, r, As, cs, rfl, rfl, hgk, hrl, hps, hbs, hown, hb⟩ := hrel
    obtain ⟨wo, rfl⟩ : ∃ wo : World, wo = wr := ⟨_, rfl⟩
    have hpl : ps.length ≤ 100000 := by
      have h1 := congrArg List.length hbs
      rw [List.length_append] at h1
      have h2 : ps.length ≤ (txtOf ps).length := by
        clear h1 hown hbs hps
        induction ps with
        | nil => simp
        | cons p ps ih => rw [txtOf_cons, List.length_append]; simp; omega
      omega
    have hs0 := hb.size
    have HPS := Lib.hid hps
    have HBS := Lib.hid hbs
    have HO := Lib.hid hown
    have HB0 := Lib.hid hb
    have hE1 := HE.out.same hb
    have HC := Lib.hid (Tryd.strings_Cut ⟨r.toArray⟩ ⟨#[10]⟩ m wo (by show r.length < _; omega) hE1.env.max)
    rw [show (⟨r.toArray⟩ : ByteArray).data.toList = r from rfl, show (⟨#[10]⟩ : ByteArray).data.toList = [10] from rfl] at HC
    have hcut := cut_one 10 r
    generalize Lib.cut r [10] = q at HC hcut
    clear hps hbs hown hb hE1
    by_cases hr0 : r = []
    · subst hr0
      have hbs2 := HBS.out
      rw [List.append_nil] at hbs2
      have HBS2 := Lib.hid hbs2
      clear hcut HC hbs2 HBS
      go_wp2
      go_ret2
      exact ⟨HB0.out, Or.inl ⟨ps, As, cs, rfl, .ok ps HPS.out HBS2.out.symm, HO.out⟩⟩
    · obtain ⟨line, rest, ended⟩ := q
      simp only at HC hcut
      have HNE := Lib.hid hr0
      obtain ⟨x, t, rfl⟩ : ∃ x t, r = x :: t := by cases r with | nil => exact absurd rfl hr0 | cons x t => exact ⟨x, t, rfl⟩
      have hwl : line.length ≤ 100000 ∧ rest.length < (x :: t).length := by
        rcases hcut with ⟨a, b, h1, h2, h3⟩ | ⟨h1, h2⟩
        · injection h3 with h3 h4
          injection h4 with h4 h5
          have := congrArg List.length h1
          simp at this hrl ⊢
          rw [h3, h4]; omega
        · injection h2 with h3 h4
          injection h4 with h4 h5
          rw [h3, h4]
          simp at hrl ⊢; omega
      have HCUT := Lib.hid hcut
      clear hcut hr0
      go_wp2_with fail
      refine HC.out.mono ?_
      rintro e w2 ⟨rfl, nq, hw2⟩
      have hb2 : Below w.heap.size w w2 := by rw [hw2]; exact below_drewN HB0.out nq
      have hown2 : OwnSteps w2 w.heap.size As cs ps := by rw [hw2]; exact HO.out.below (below_drewN (Below.refl wo.heap.size wo) nq) (Nat.le_refl _)
      have HPL := Lib.hid (parseLine_any line m w2 hwl.1 (HE.out.same hb2))
      have HB2 := Lib.hid hb2
      have HO2 := Lib.hid hown2
      clear hw2 hb2 hown2 HO HB0 HC
      go_wp2_with fail
      refine HPL.out.mono ?_
      rintro e w3 ⟨hb3, hcase⟩
      have HB3 := Lib.hid hb3
      have hs2 := HB2.out.size
      have hs3 := hb3.size
      clear hb3 HPL
      rcases hcase with ⟨st, A1, c1, rfl, hst, hown1⟩ | ⟨d, A1, n1, c1, rfl, hst⟩
      · cases ended with
        | true =>
          have hcc : (x :: t) = line ++ 10 :: rest := by
            rcases HCUT.out with ⟨a, b, h1, h2, h3⟩ | ⟨h1, h2⟩
            · injection h3 with h3 h4
              injection h4 with h4 _
              rw [h3, h4]; exact h1
            · injection h2 with _ h4
              injection h4 with _ h5
              cases h5
          obtain ⟨hp2, hbs2, hsr⟩ := txt_more HPS.out (show s = txtOf ps ++ (line ++ 10 :: rest) from by rw [← hcc]; exact HBS.out) hst
          obtain ⟨d, ls⟩ := st
          obtain ⟨vs, ho1, hrows⟩ := HO2.out
          have ho2 := own_belowK ho1 HB3.out (Nat.le_refl _)
          have hb02 := HB2.out.trans (HB3.out.mono hs2)
          have hr2 := (hrows.below HB3.out (Nat.le_refl _)).snoc (d := d) ho1.1 (own_more hown1 hs2)
          have HR2 := Lib.hid hr2
          have HO3 := Lib.hid ho2
          have HB02 := Lib.hid hb02
          have HPS2 := Lib.hid hp2
          have HBS2 := Lib.hid hbs2
          have hs02 := hb02.size
          clear hp2 hbs2 hsr hst hown1 ho1 hrows ho2 hb02 hr2 hcc
          have hOA : ∀ o o2, ((w3.alloc o).alloc o2).ownsRow w.heap.size 42 2 (.slice As ps.length cs) ps.length vs := fun o o2 => (HO3.out.alloc o).alloc o2
          go_wp2_with (at_builtin; refine wpList_append_el _ rfl _ _ 25 rfl w.heap.size 42 i0 (.agg #[.bool false, .slice none 0 0]) 2 32 Tryd.underlying25 hi hz0 hz1 hz2 rfl (by decide) _ _ _ rfl (hOA _ _) [.bool d, .slice A1 ls.length c1] rfl (w3.heap.size + 1) rfl (two_cells (by have := Blk.new (w3.alloc (.cells #[.bool d, .slice A1 ls.length c1] 42)) 42 #[.bool d, .slice A1 ls.length c1]; simpa using this)) (by simp [Value.oneCell']) (by unfold maxLen; omega) (by omega) (by simp; omega) ?_)
          intro v' w4 hown4 hg4 hob4
          have hsl : ∃ A3 c3, v' = .slice A3 (ps.length + 1) c3 := by
            rcases hown4.2 with ⟨_, h⟩ | ⟨g, cap, cur, h, _⟩
            · omega
            · exact ⟨_, _, h⟩
          obtain ⟨A3, c3, rfl⟩ := hsl
          have hrA := HR2.out.below ((Below.refl w3.heap.size w3).alloc (Nat.le_refl _) (.cells #[.bool d, .slice A1 ls.length c1] 42) |>.alloc (by simp) (.cells #[.bool d, .slice A1 ls.length c1] 42)) (Nat.le_refl _)
          have hr4 := hrA.outer (hOA _ _) (by decide) hg4
          have HB4 := Lib.hid (((HB02.out.alloc (by omega) _).alloc (by simp; omega) _).grown hg4 (by simp; omega) (fun g hg => (HO3.out.lt g hg).1))
          have HO4 := Lib.hid hown4
          have HR4 := Lib.hid hr4
          clear hown4 hg4 hob4 hrA hr4 hOA
          go_wp2
          go_roundg ((x :: t).length)
          case measure => omega
          case rel => exact ⟨ps ++ [(d, ls)], rest, A3, c3, rfl, by simp, hwl.2, by omega, HPS2.out, HBS2.out, ⟨_, by simpa using HO4.out, HR4.out⟩, HB4.out⟩
        | false =>
          have HF : Hid (TxtIs s (none, 9)) := by
            refine txt_fail HPS.out HBS.out HNE.out (fun y q hy he => ?_)
            rcases HCUT.out with ⟨a, b, h1, h2, h3⟩ | ⟨h1, h2⟩
            · injection h3 with _ h4
              injection h4 with _ h5
              cases h5
            · exact h1 (by rw [he]; simp)
          clear hst hown1
          go_wp2
          go_ret2
          exact ⟨(HB2.out.trans (HB3.out.mono hs2)).alloc (by omega) _, Or.inr ⟨rfl, HF.out⟩⟩
      · have HF : Hid (TxtIs s (none, 9)) := by
          refine txt_fail HPS.out HBS.out HNE.out (fun y q hy he => ?_)
          rcases HCUT.out with ⟨a, b, h1, h2, h3⟩ | ⟨h1, h2⟩
          · injection h3 with h3 _
            rw [h1] at he
            have h6 := (at_first h2 (line_no y) he).1
            rcases hst with _ | h7
            exact h7 y hy (by rw [← h6, h3])
          · exact h1 (by rw [he]; simp)
        clear hst
        cases ended with
        | true =>
          go_wp2
          go_ret2
          exact ⟨(HB2.out.trans (HB3.out.mono hs2)).alloc (by omega) _, Or.inr ⟨rfl, HF.out⟩⟩
        | false =>
          go_wp2
          go_ret2
          exact ⟨(HB2.out.trans (HB3.out.mono hs2)).alloc (by omega) _, Or.inr ⟨rfl, HF.out⟩⟩
end Go.Proofs.YtdehlikmefpgnaaDoor
