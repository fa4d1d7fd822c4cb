/- From what a row lists to what a walk needs of its world; a world that holds all that is listed. -/
import Derived.Test.YthcpfaahcncfjaaGreatDoorParseTxt
import Derived.Test.YthcpfaahcncfjaaGreatDoorOpenRaw
import Derived.Test.YthcpfaahcncfjaaGreatDoorRows
import Derived.Deep.DeepHandedRow
import Derived.JoinedCond
import Derived.Lay
import Derived.Lib.LaidTab
import Derived.Lib.LaidU8
import Derived.LaidHandle
import Derived.MakeChecks
import Derived.Shelf.Vars
import Derived.LaidLaws
namespace Go.Proofs.YthcpfaahcncfjaaGreatDoor
open Go.ChangeShapes Go.WideShapes Go.ChangeAt Go.RowKit
open Go.Joins
set_option linter.unusedVariables false

theorem own : ownKnob Tryz.prog.godebug = none := by kernel_rfl
theorem laidOut : laidOutB Tryz.prog = true := by kernel_rfl

/-- a table that is listed, wherever it stands on the list -/
theorem tabIs_of_reads {P : Program} {W : World} {name : String} {k : IntKind} {zs : List Int} {g : Nat} {t e : TypeId} {n : Nat}
    (hg : P.globalNamed name = some g) (hty : (P.globals[g]?).map (·.type) = some t) (ht : P.underlying t = some (.array n e)) (he : P.underlying e = some (.int k)) (hce : P.cellsOf e = 1) (hct : P.cellsOf t = n)
    (h : Lib.VarReads P W name (Lib.tabData k zs)) : Lib.TabIs P W name k zs := by
  obtain ⟨g', t', cs, fuel, p, hg', ht', hvar, hd⟩ := h
  obtain rfl := Option.some.inj (hg.symm.trans hg')
  obtain rfl := Option.some.inj (hty.symm.trans ht')
  unfold Lib.TabIs
  rw [hvar, ← Lib.cells_of_tab ht he hce hct hd]

/-- what the walks need, out of what a row lists and of the world's shape -/
theorem env_of {W : World} (hS : W.ShapedOpen Tryz.prog) (hT : Lib.VarReads Tryz.prog W "internal/strconv.uint64pow10" (Lib.tabData .u64 Lib.pow10Tab)) : ∃ m, Env m W := by
  obtain ⟨m, hm⟩ := Go.Proofs.cell_of_shapedOpen_int (zero := #[.int .i64 0]) (t := 3) hS (g := 0) (of_decide_eq_true (by kernel_rfl)) (by kernel_rfl) rfl (by kernel_rfl) (by kernel_rfl) Tryz.underlying3
  have ht : Tab W := tabIs_of_reads tab_name (show (Tryz.prog.globals[1]?).map (·.type) = some 170 by kernel_rfl) Tryz.underlying170 Tryz.underlying149 (by kernel_rfl) (by kernel_rfl) hT
  refine ⟨m, hm, ht, ?_⟩
  have hc := Lib.TabIs.cell ht tab_name 0 (by decide)
  have := World.block_lt_of_cell? W _ hc
  simpa using this

/-- there is an input that fits, at a world that is written out, of whatever shape is shown -/
theorem witness_row_shaped {H : Type} {enc : TypeId × Value → H} {C : Checked} {os : Os} {f : FuncId} {fn : Func} {s : OpenSpec} {conds : List PathCond} {apart : Bool} {laid : List (String × DataW Unit)} (modest : Bool) (w0 : World) (args : Array Value) (hos : w0.os = os)
    (hsh : (w0.forCall (fun _ _ => 0) ⟨#[], args, []⟩).Shaped C.prog)
    (hok : Input.okWideB C.prog (w0.forCall (fun _ _ => 0) ⟨#[], args, []⟩) f ⟨#[], args, []⟩ = true)
    (hrow : s.preRow enc C.prog fn conds apart laid (w0.forCall (fun _ _ => 0) ⟨#[], args, []⟩).memory args) :
    ∃ (w : World) (tape : Tape) (i : Input), w.os = os ∧ (w.forCall tape i).Shaped C.prog ∧ i.vars = [] ∧ Input.okWide C.prog (w.forCall tape i) .any w.heap.size f i ∧
      s.preRow enc C.prog fn conds apart laid (w.forCall tape i).memory i.args ∧ ({ modest := modest } : Assume).holds C.prog (lone (Frame.enter C.prog f i.args .normal) [] (w.forCall tape i)) :=
  ⟨w0, fun _ _ => 0, ⟨#[], args, []⟩, hos, hsh, (Input.okWide_of_okWideB (base := 0) hok).1, (Input.okWide_of_okWideB hok).2, hrow, by
    simp only [Assume.holds]
    exact ⟨by simp, by simp, fun _ => Modest.zero, by simp, by simp⟩⟩

theorem iface_of_reads {P : Program} {W : World} {name nm : String} {d : DataW Unit} {g : Nat} {t : TypeId} {ms : Array (String × TypeId)} (hg : P.globalNamed name = some g) (hty : (P.globals[g]?).map (·.type) = some t) (ht : P.underlying t = some (.interface ms))
    (h : Lib.VarReads P W name (.iface nm d)) : (∃ u p, W.var? P name = some #[.iface u p]) ∧ g < W.heap.size := by
  obtain ⟨g', t', cs, fuel, p, hg', ht', hvar, hd⟩ := h
  obtain rfl := Option.some.inj (hg.symm.trans hg')
  obtain rfl := Option.some.inj (hty.symm.trans ht')
  obtain ⟨_, u, v, hcs, _, _⟩ := iface_of_trod ht hd
  have hc : cs = #[.iface u v] := by cases cs; simpa using hcs
  subst hc
  refine ⟨⟨u, v, hvar⟩, ?_⟩
  have hc := World.var?_cell hg hvar 0
  have := World.block_lt_of_cell? W ⟨g, 0, none⟩ (u := .iface u v) (by simpa using hc)
  simpa using this
theorem numErrs_of {W : World} {nm nm' : String} {d d' : DataW Unit} (h1 : Lib.VarReads Tryz.prog W "strconv.ErrSyntax" (.iface nm d)) (h2 : Lib.VarReads Tryz.prog W "strconv.ErrRange" (.iface nm' d')) : NumErrs W := by
  obtain ⟨a1, a2⟩ := iface_of_reads syn_name (show (Tryz.prog.globals[2]?).map (·.type) = some 82 by kernel_rfl) Tryz.underlying82 h1
  obtain ⟨b1, b2⟩ := iface_of_reads rng_name (show (Tryz.prog.globals[3]?).map (·.type) = some 82 by kernel_rfl) Tryz.underlying82 h2
  exact ⟨a1, b1, a2, b2⟩
end Go.Proofs.YthcpfaahcncfjaaGreatDoor
