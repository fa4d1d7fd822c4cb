/- What a statement's world must hold, and what numbers' texts come to there. -/
import Derived.Test.YtdehlikmefpgnaaDoorBldr
import Derived.Lib.ItoaMem
import Derived.Lib.AtoiAllCases
import Derived.Lib.SmallJoins
namespace Go.Proofs.YtdehlikmefpgnaaDoor
open Go.RowKit
set_option linter.unusedSimpArgs false
set_option linter.unusedVariables false
set_option linter.unnecessarySimpa false

/-- what a statement's world must hold: the library's variables that are read -/
structure Env (m : Int) (w : World) : Prop where
  max : w.cell? ⟨0, 0, none⟩ = some (.int .i64 m)
  tab : Tab w
  tabLt : 1 < w.heap.size
theorem Env.maxLt {m : Int} {w : World} (h : Env m w) : 0 < w.heap.size := by
  have := World.block_lt_of_cell? w _ h.max
  simpa using this
theorem Env.below {m : Int} {w w' : World} {B : Nat} (h : Env m w) (hb : Below B w w') (h1 : 0 < B) (h2 : 1 < B) : Env m w' :=
  ⟨(hb.cell (p := ⟨0, 0, none⟩) h1).trans h.max, h.tab.below hb h2, Nat.lt_of_lt_of_le h.tabLt hb.size⟩
theorem Env.same {m : Int} {w w' : World} (h : Env m w) (hb : Below w.heap.size w w') : Env m w' := h.below hb h.maxLt h.tabLt

theorem syn_name : Tryd.prog.globalNamed "strconv.ErrSyntax" = some 2 := by kernel_rfl

theorem rng_name : Tryd.prog.globalNamed "strconv.ErrRange" = some 3 := by kernel_rfl

/-- the library's two errors are there -/
structure NumErrs (w : World) : Prop where
  syn : ∃ t p, w.var? Tryd.prog "strconv.ErrSyntax" = some #[.iface t p]
  rng : ∃ t p, w.var? Tryd.prog "strconv.ErrRange" = some #[.iface t p]
  synLt : 2 < w.heap.size
  rngLt : 3 < w.heap.size
theorem NumErrs.same {w w' : World} (h : NumErrs w) (hb : Below w.heap.size w w') : NumErrs w' := by
  obtain ⟨⟨t, p, h1⟩, ⟨t2, p2, h2⟩, h3, h4⟩ := h
  exact ⟨⟨t, p, var?_below hb syn_name h3 h1⟩, ⟨t2, p2, var?_below hb rng_name h4 h2⟩, Nat.lt_of_lt_of_le h3 hb.size, Nat.lt_of_lt_of_le h4 hb.size⟩

theorem atoi_good (s : List UInt8) (v : Int) (w : World) (hs : s.length ≤ 100000) (h : Lib.atoiAll s = .ok v) :
    Calls Tryd.prog 58 #[.string ⟨s.toArray⟩] w fun e w' => e = .returned (.tuple #[.int .i64 v, .nilIface]) ∧ Below w.heap.size w w' :=
  (Tryd.strconv_Atoi_ok ⟨s.toArray⟩ (by show s.toArray.size ≤ _; simp; omega) v h w).mono fun e w' ⟨he, hw⟩ => ⟨he, by
    rcases hw with rfl | ⟨t, rfl⟩
    · exact Below.refl _ _
    · exact Joins.below_bytesWorld _ _ _ _ (Nat.le_refl _)⟩
theorem atoi_bad (s : List UInt8) (w : World) (hs : s.length ≤ 100000) (hX : NumErrs w) (h : ∀ v, Lib.atoiAll s ≠ .ok v) :
    Calls Tryd.prog 58 #[.string ⟨s.toArray⟩] w fun e w' => ∃ (n : Int) (N : Nat), e = .returned (.tuple #[.int .i64 n, .iface 107 (.pointer (some ⟨N, 0, none⟩))]) ∧ Below w.heap.size w w' := by
  have hz : (⟨s.toArray⟩ : ByteArray).size ≤ 281474976710656 := by show s.toArray.size ≤ _; simp; omega
  rcases ha : Lib.atoiAll s with v | _ | _
  · exact absurd ha (h v)
  · obtain ⟨t, p, hv⟩ := hX.syn
    exact (Tryd.strconv_Atoi_syntax_var ⟨s.toArray⟩ hz ⟨h, fun h' => by have h2 : Lib.atoiAll s = .range := h'; rw [ha] at h2; cases h2⟩ t p w hv).mono fun e w' ⟨N, he, _, _, hb⟩ => ⟨0, N, he, hb⟩
  · obtain ⟨t, p, hv⟩ := hX.rng
    exact (Tryd.strconv_Atoi_range_var ⟨s.toArray⟩ hz ha t p w hv).mono fun e w' ⟨N, he, _, _, hb⟩ => ⟨_, N, he, hb⟩

/-- both -/
structure EnvN (m : Int) (w : World) : Prop where
  env : Env m w
  err : NumErrs w
theorem EnvN.same {m : Int} {w w' : World} (h : EnvN m w) (hb : Below w.heap.size w w') : EnvN m w' := ⟨h.env.same hb, h.err.same hb⟩
theorem EnvN.later {m : Int} {w w' : World} {B : Nat} (h : EnvN m w) (hb : Below B w w') (hB : w.heap.size ≤ B) : EnvN m w' := h.same (hb.mono hB)
end Go.Proofs.YtdehlikmefpgnaaDoor
