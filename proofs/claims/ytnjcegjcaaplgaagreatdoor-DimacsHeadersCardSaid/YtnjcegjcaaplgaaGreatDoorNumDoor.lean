/- The library's two errors of numbers, out of what a row lists. -/
import Derived.Test.YtnjcegjcaaplgaaGreatDoorHandle
import Derived.Test.YtnjcegjcaaplgaaGreatDoorNumber
import Derived.LaidLaws
namespace Go.Proofs.YtnjcegjcaaplgaaGreatDoor
open Go.ChangeShapes Go.WideShapes Go.ChangeAt Go.RowKit
open Go.Joins
set_option linter.unusedVariables false

theorem iface_of_reads {P : Program} {W : World} {name nm : String} {d : DataW Unit} {g : Nat} {t : TypeId} {ms : Array (String × TypeId)} (hg : P.globalNamed name = some g) (hty : (P.globals[g]?).map (·.type) = some t) (ht : P.underlying t = some (.interface ms))
    (h : Lib.VarReads P W name (.iface nm d)) : (∃ u p, W.var? P name = some #[.iface u p]) ∧ g < W.heap.size := by
  obtain ⟨g', t', cs, fuel, p, hg', ht', hvar, hd⟩ := h
  obtain rfl := Option.some.inj (hg.symm.trans hg')
  obtain rfl := Option.some.inj (hty.symm.trans ht')
  obtain ⟨_, u, v, hcs, _, _⟩ := iface_of_trod ht hd
  have hc : cs = #[.iface u v] := by cases cs; simpa using hcs
  subst hc
  refine ⟨⟨u, v, hvar⟩, ?_⟩
  have hc := World.var?_cell hg hvar 0
  have := World.block_lt_of_cell? W ⟨g, 0, none⟩ (u := .iface u v) (by simpa using hc)
  simpa using this
theorem numErrs_of {W : World} {nm nm' : String} {d d' : DataW Unit} (h1 : Lib.VarReads Tryz.prog W "strconv.ErrSyntax" (.iface nm d)) (h2 : Lib.VarReads Tryz.prog W "strconv.ErrRange" (.iface nm' d')) : NumErrs W := by
  obtain ⟨a1, a2⟩ := iface_of_reads syn_name (show (Tryz.prog.globals[3]?).map (·.type) = some 30 by kernel_rfl) Tryz.underlying30 h1
  obtain ⟨b1, b2⟩ := iface_of_reads rng_name (show (Tryz.prog.globals[4]?).map (·.type) = some 30 by kernel_rfl) Tryz.underlying30 h2
  exact ⟨a1, b1, a2, b2⟩
end Go.Proofs.YtnjcegjcaaplgaaGreatDoor
