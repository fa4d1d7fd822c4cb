/- A word's number, as the statements read it. -/
import Derived.Test.YtnjcegjcaaplgaaGreatDoorNumMath
import Derived.Test.YtnjcegjcaaplgaaGreatDoorFit03
import Derived.Lib.SmallJoins
namespace Go.Proofs.YtnjcegjcaaplgaaGreatDoor
open Go.RowKit
set_option linter.unusedSimpArgs false
set_option linter.unusedVariables false
set_option linter.unnecessarySimpa false

theorem syn_name : Tryz.prog.globalNamed "strconv.ErrSyntax" = some 3 := by kernel_rfl

theorem rng_name : Tryz.prog.globalNamed "strconv.ErrRange" = some 4 := by kernel_rfl

/-- the library's two errors are there -/
structure NumErrs (w : World) : Prop where
  syn : ∃ t p, w.var? Tryz.prog "strconv.ErrSyntax" = some #[.iface t p]
  rng : ∃ t p, w.var? Tryz.prog "strconv.ErrRange" = some #[.iface t p]
  synLt : 3 < w.heap.size
  rngLt : 4 < w.heap.size
theorem NumErrs.same {w w' : World} (h : NumErrs w) (hb : Below w.heap.size w w') : NumErrs w' := by
  obtain ⟨⟨t, p, h1⟩, ⟨t2, p2, h2⟩, h3, h4⟩ := h
  exact ⟨⟨t, p, var?_below hb syn_name h3 h1⟩, ⟨t2, p2, var?_below hb rng_name h4 h2⟩, Nat.lt_of_lt_of_le h3 hb.size, Nat.lt_of_lt_of_le h4 hb.size⟩

theorem atoi_good (s : List UInt8) (v : Int) (w : World) (hs : s.length ≤ 100000) (h : Lib.atoiAll s = .ok v) :
    Calls Tryz.prog 33 #[.string ⟨s.toArray⟩] w fun e w' => e = .returned (.tuple #[.int .i64 v, .nilIface]) ∧ Below w.heap.size w w' :=
  (Tryz.strconv_Atoi_ok ⟨s.toArray⟩ (by show s.toArray.size ≤ _; simp; omega) v h w).mono fun e w' ⟨he, hw⟩ => ⟨he, by
    rcases hw with rfl | ⟨t, rfl⟩
    · exact Below.refl _ _
    · exact Joins.below_bytesWorld _ _ _ _ (Nat.le_refl _)⟩
theorem atoi_bad (s : List UInt8) (w : World) (hs : s.length ≤ 100000) (hX : NumErrs w) (h : ∀ v, Lib.atoiAll s ≠ .ok v) :
    Calls Tryz.prog 33 #[.string ⟨s.toArray⟩] w fun e w' => ∃ (n : Int) (N : Nat), e = .returned (.tuple #[.int .i64 n, .iface 138 (.pointer (some ⟨N, 0, none⟩))]) ∧ Below w.heap.size w w' := by
  have hz : (⟨s.toArray⟩ : ByteArray).size ≤ 281474976710656 := by show s.toArray.size ≤ _; simp; omega
  rcases ha : Lib.atoiAll s with v | _ | _
  · exact absurd ha (h v)
  · obtain ⟨t, p, hv⟩ := hX.syn
    exact (Tryz.strconv_Atoi_syntax_var ⟨s.toArray⟩ hz ⟨h, fun h' => by have h2 : Lib.atoiAll s = .range := h'; rw [ha] at h2; cases h2⟩ t p w hv).mono fun e w' ⟨N, he, _, _, hb⟩ => ⟨0, N, he, hb⟩
  · obtain ⟨t, p, hv⟩ := hX.rng
    exact (Tryz.strconv_Atoi_range_var ⟨s.toArray⟩ hz ha t p w hv).mono fun e w' ⟨N, he, _, _, hb⟩ => ⟨_, N, he, hb⟩

set_option maxRecDepth 100000 in
set_option maxHeartbeats 4000000 in
theorem number_any03 (s : List UInt8) (m : Int) (w : World) (hs : s.length ≤ 100000) (hE : Env m w) (hX : NumErrs w) :
    Calls Tryz.prog 20 #[.string ⟨s.toArray⟩] w fun e w' => e = .returned (.int .i64 (numG s)) ∧ Below w.heap.size w w' := by
  have HE := Lib.hid hE
  by_cases hok : ∃ v, Lib.atoiAll s = .ok v
  · obtain ⟨v, hv⟩ := hok
    have hn := number_ok hv
    have hbd := Lib.atoiAll_bounds hv
    have AG := Lib.hid (atoi_good s v w hs hv)
    have hlen : (⟨s.toArray⟩ : ByteArray).size = s.length := by show s.toArray.size = _; simp
    clear hE hX hv
    by_cases h0 : v < 0
    · rw [if_pos (Or.inl h0)] at hn
      rw [hn]
      clear hn
      go_enter Tryz.func20, Tryz.ntmps20
      go_wp2_with (go_at_call 33; refine AG.out.mono ?_; rintro e w2 ⟨rfl, hb2⟩; have HB2 := Lib.hid hb2; clear hb2)
      go_ret
      exact ⟨rfl, HB2.out⟩
    · by_cases h9 : 9 < s.length
      · rw [if_pos (Or.inr (Or.inl h9))] at hn
        rw [hn]
        clear hn
        go_enter Tryz.func20, Tryz.ntmps20
        go_wp2_with (go_at_call 33; refine AG.out.mono ?_; rintro e w2 ⟨rfl, hb2⟩; have HB2 := Lib.hid hb2; clear hb2)
        go_ret
        exact ⟨rfl, HB2.out⟩
      · have IT := Lib.hid (fun w' (hb : Below w.heap.size w w') => itoa_any v w' hbd.1 hbd.2 (HE.out.same hb).tab)
        by_cases hs2 : Lib.itoa v = s
        · rw [if_neg (by rintro (hc | hc | hc)
                         · exact h0 hc
                         · exact h9 hc
                         · exact hc hs2)] at hn
          rw [hn, ← hs2]
          rw [← hs2] at AG hlen h9
          clear hn hs2
          generalize Lib.itoa v = iv at IT AG hlen h9
          go_enter Tryz.func20, Tryz.ntmps20
          go_wp2_with (first
            | (go_at_call 33; refine AG.out.mono ?_; rintro e w2 ⟨rfl, hb2⟩; have HB2 := Lib.hid hb2; clear hb2)
            | (go_at_call 6; refine (IT.out w2 HB2.out).mono ?_; rintro e w3 ⟨rfl, hb3⟩; have HB3 := Lib.hid (HB2.out.trans (hb3.mono HB2.out.size)); clear hb3))
          go_ret
          exact ⟨rfl, HB3.out⟩
        · rw [if_pos (Or.inr (Or.inr hs2))] at hn
          rw [hn]
          clear hn
          generalize Lib.itoa v = iv at IT hs2
          have hne : (iv == s) = false := beq_false_of_ne hs2
          go_enter Tryz.func20, Tryz.ntmps20
          go_wp2_with (first
            | (go_at_call 33; refine AG.out.mono ?_; rintro e w2 ⟨rfl, hb2⟩; have HB2 := Lib.hid hb2; clear hb2)
            | (go_at_call 6; refine (IT.out w2 HB2.out).mono ?_; rintro e w3 ⟨rfl, hb3⟩; have HB3 := Lib.hid (HB2.out.trans (hb3.mono HB2.out.size)); clear hb3))
          go_ret
          exact ⟨rfl, HB3.out⟩
  · have hbad : ∀ v, Lib.atoiAll s ≠ .ok v := fun v hv => hok ⟨v, hv⟩
    rw [number_bad hbad]
    have AB := Lib.hid (atoi_bad s w hs hX hbad)
    clear hE hX hbad hok
    go_enter Tryz.func20, Tryz.ntmps20
    go_wp2_with (go_at_call 33; refine AB.out.mono ?_; rintro e w2 ⟨n, N, rfl, hb2⟩; have HB2 := Lib.hid hb2; clear hb2)
    go_ret
    exact ⟨rfl, HB2.out⟩
end Go.Proofs.YtnjcegjcaaplgaaGreatDoor
