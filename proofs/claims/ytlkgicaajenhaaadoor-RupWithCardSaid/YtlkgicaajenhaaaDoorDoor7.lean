/- A row of numbers that came in, as a list. Raw arguments, as plain numbers. From what a row lists to what a walk needs of its world; a world that holds all that is listed. -/
import Derived.Test.YtlkgicaajenhaaaDoorOpen
import Derived.Test.YtlkgicaajenhaaaDoorOpenRaw
import Derived.Test.YtlkgicaajenhaaaDoorKeys07
import Derived.Test.YtlkgicaajenhaaaDoorRows
import Derived.Deep.DeepHandedRow
import Derived.JoinedCond
import Derived.Lay
import Derived.Lib.LaidTab
import Derived.Lib.LaidU8
import Derived.LaidHandle
import Derived.MakeChecks
import Derived.Shelf.Vars
import Derived.LaidLaws
namespace Go.Proofs.YtlkgicaajenhaaaDoor
open Go.ChangeShapes Go.WideShapes Go.ChangeAt Go.RowKit Go.Deep
set_option linter.unusedVariables false

theorem kints_of {H : Type} {enc : TypeId × Value → H} {P : Program} {W : World} {t e : TypeId} {k : IntKind} {r : Reach} {base : Nat} {v : Value} {d : DataW H} {p : List MemPlace}
    (ht : P.underlying t = some (.slice e)) (he : P.underlying e = some (.int k)) (hc : P.cellsOf e = 1) (hv : Value.okWide P W r base t v)
    (h : DataW.Trod enc P W 0 (fun _ => true) true t v d p) : ∃ (A : Option Addr) (c : Nat) (ns : List Int), v = .slice A ns.length c ∧ ns.length ≤ 9223372036854775807 ∧ (∀ j, (Lit.int k (ns.getD j 0)).wf = true) ∧ KInts k W W.heap.size A ns := by
  obtain ⟨a, len, cap, z, rfl, h1, h2, h3, h4⟩ := isInts_of ht he hc hv h
  have hg : ∀ j, j < len → ((List.range len).map z).getD j 0 = z j := fun j hj => by simp [List.getD, hj]
  have hl : ((List.range len).map z).length = len := by simp
  have hmx : maxLen = 9223372036854775807 := by decide
  refine ⟨a, cap, (List.range len).map z, by rw [hl], by rw [hl]; omega, fun j => ?_, fun hp => ?_⟩
  · rcases Nat.lt_or_ge j len with hj | hj
    · rw [hg j hj]; exact h3 j (by omega)
    · rw [List.getD, List.getElem?_eq_none (by rw [hl]; exact hj)]; exact wf_zero k
  · rw [hl] at hp
    obtain ⟨b, off, e, hb, hcl⟩ := h4 (by omega)
    exact ⟨b, off, e, hb, fun j hj => by rw [hl] at hj; rw [hcl j (by omega)]; simp only [hg j hj]⟩
theorem kints_cap {H : Type} {enc : TypeId × Value → H} {P : Program} {W : World} {t e : TypeId} {k : IntKind} {r : Reach} {base : Nat} {v : Value} {d : DataW H} {p : List MemPlace}
    (ht : P.underlying t = some (.slice e)) (he : P.underlying e = some (.int k)) (hc : P.cellsOf e = 1) (hv : Value.okWide P W r base t v)
    (h : DataW.Trod enc P W 0 (fun _ => true) true t v d p) : ∃ (A : Option Addr) (c : Nat) (ns : List Int), v = .slice A ns.length c ∧ ns.length ≤ c ∧ ns.length ≤ 9223372036854775807 ∧ (∀ j, (Lit.int k (ns.getD j 0)).wf = true) ∧ KInts k W W.heap.size A ns := by
  obtain ⟨A, c, ns, hv', h1, h2, h3⟩ := kints_of ht he hc hv h
  obtain ⟨a, len, cap, z, hv2, h4, _⟩ := isInts_of ht he hc hv h
  rw [hv'] at hv2
  injection hv2 with _ e2 e3
  exact ⟨A, c, ns, hv', by omega, h1, h2, h3⟩
end Go.Proofs.YtlkgicaajenhaaaDoor

namespace Go.Proofs.YtlkgicaajenhaaaDoor
open Go.ChangeShapes Go.WideShapes Go.ChangeAt Go.RowKit Go.Deep
set_option linter.unusedVariables false

theorem raw_nat7 {u : Int} (h : (Lit.int .u8 u).wf = true) : ∃ v : Nat, u = v ∧ v ≤ 255 := by
  have := bounds_u8 h
  exact ⟨u.toNat, by omega, by omega⟩
theorem raw_rows7 {nss : List (List Int)} (m : ∀ j, (nss.getD j []).length * 2 ≤ 140737488351232) (h : ∀ j i, (Lit.int .i16 ((nss.getD j []).getD i 0)).wf = true) :
    (∀ j, (nss.getD j []).length ≤ 140737488355328) ∧ ∀ j k, -32768 ≤ (nss.getD j []).getD k 0 ∧ (nss.getD j []).getD k 0 ≤ 32767 :=
  ⟨fun j => by have := m j; omega, fun j k => by have := bounds_i16 (h j k); omega⟩
theorem raw_ints7 {ns : List Int} (h : ∀ j, (Lit.int .i16 (ns.getD j 0)).wf = true) : ∀ k, -32768 ≤ ns.getD k 0 ∧ ns.getD k 0 ≤ 32767 := fun k => by have := bounds_i16 (h k); omega

/-- a slice of numbers that came in, and how much there may be of it -/
theorem isSz7_of {H : Type} {enc : TypeId × Value → H} {P : Program} {W : World} {t e : TypeId} {k : IntKind} {r : Reach} {base bytes : Nat} {v : Value} {d : DataW H} {p : List MemPlace}
    (ht : P.underlying t = some (.slice e)) (he : P.underlying e = some (.int k)) (hc : P.cellsOf e = 1) (hby : P.bytesOf e = bytes) (hv : Value.okWide P W r base t v)
    (h : DataW.Trod enc P W 0 (fun _ => true) true t v d p) (hs : Sz P t d) : ∃ a len cap z, v = .slice a len cap ∧ IsInts k W a len cap z ∧ cap * bytes ≤ 140737488351232 := by
  obtain ⟨a, len, cap, z, rfl, hi⟩ := isInts_of ht he hc hv h
  refine ⟨a, len, cap, z, rfl, hi, ?_⟩
  obtain ⟨fuel, hf⟩ := h
  rcases open_ints ht he hc hf with ⟨hcs, hx⟩ | ⟨x, l, c, zs, hcs, hb, hl, hm, hz, hx, hcell, hwz⟩
  · simp [Value.cells] at hcs
    obtain ⟨rfl, rfl, rfl⟩ := hcs
    simp
  · simp [Value.cells] at hcs
    obtain ⟨rfl, rfl, rfl⟩ := hcs
    simp only [if_true] at hz
    simp only [Prod.mk.injEq] at hx
    obtain ⟨rfl, rfl⟩ := hx
    have := (sz_slice hs ht).1
    rw [hby, show reachBytes = 140737488351232 by decide] at this
    simp only [lits, List.length_map, List.length_take, List.length_drop, hz] at this
    rw [show min len cap + (cap - len) = cap by omega] at this
    exact this
theorem kints7_of {H : Type} {enc : TypeId × Value → H} {P : Program} {W : World} {t e : TypeId} {r : Reach} {base : Nat} {v : Value} {d : DataW H} {p : List MemPlace}
    (ht : P.underlying t = some (.slice e)) (he : P.underlying e = some (.int .i16)) (hc : P.cellsOf e = 1) (hby : P.bytesOf e = 2) (hv : Value.okWide P W r base t v)
    (h : DataW.Trod enc P W 0 (fun _ => true) true t v d p) (hs : Sz P t d) : ∃ (A : Option Addr) (c : Nat) (ns : List Int), v = .slice A ns.length c ∧ ns.length ≤ 70368744175616 ∧ (∀ j, (Lit.int .i16 (ns.getD j 0)).wf = true) ∧ KInts .i16 W W.heap.size A ns := by
  obtain ⟨A, c, ns, rfl, h1, h2, h3⟩ := kints_of ht he hc hv h
  obtain ⟨a, len, cap, z, hv2, h4, h5⟩ := isSz7_of ht he hc hby hv h hs
  have h6 := h4.1
  injection hv2 with _ e2 e3
  exact ⟨A, c, ns, rfl, by omega, h2, h3⟩
end Go.Proofs.YtlkgicaajenhaaaDoor

namespace Go.Proofs.YtlkgicaajenhaaaDoor
open Go.ChangeShapes Go.WideShapes Go.ChangeAt Go.RowKit
open Go.Joins
set_option linter.unusedVariables false

theorem own : ownKnob Tryd.prog.godebug = none := by kernel_rfl
theorem laidOut : laidOutB Tryd.prog = true := by kernel_rfl

/-- a table that is listed, wherever it stands on the list -/
theorem tabIs_of_reads {P : Program} {W : World} {name : String} {k : IntKind} {zs : List Int} {g : Nat} {t e : TypeId} {n : Nat}
    (hg : P.globalNamed name = some g) (hty : (P.globals[g]?).map (·.type) = some t) (ht : P.underlying t = some (.array n e)) (he : P.underlying e = some (.int k)) (hce : P.cellsOf e = 1) (hct : P.cellsOf t = n)
    (h : Lib.VarReads P W name (Lib.tabData k zs)) : Lib.TabIs P W name k zs := by
  obtain ⟨g', t', cs, fuel, p, hg', ht', hvar, hd⟩ := h
  obtain rfl := Option.some.inj (hg.symm.trans hg')
  obtain rfl := Option.some.inj (hty.symm.trans ht')
  unfold Lib.TabIs
  rw [hvar, ← Lib.cells_of_tab ht he hce hct hd]

theorem tab_name7 : Tryd.prog.globalNamed "internal/strconv.uint64pow10" = some 0 := by kernel_rfl
/-- what the walks need, out of what a row lists and of the world's shape -/
theorem env_of {W : World} (hS : W.ShapedOpen Tryd.prog) (hT : Lib.VarReads Tryd.prog W "internal/strconv.uint64pow10" (Lib.tabData .u64 Lib.pow10Tab)) : ∃ m : Nat, m = 0 ∧ Tab7 W :=
  ⟨0, rfl, tabIs_of_reads tab_name7 (show (Tryd.prog.globals[0]?).map (·.type) = some 119 by kernel_rfl) Tryd.underlying119 Tryd.underlying101 (by kernel_rfl) (by kernel_rfl) hT⟩

/-- there is an input that fits, at a world that is written out, of whatever shape is shown -/
theorem witness_row_shaped {H : Type} {enc : TypeId × Value → H} {C : Checked} {os : Os} {f : FuncId} {fn : Func} {s : OpenSpec} {conds : List PathCond} {apart : Bool} {laid : List (String × DataW Unit)} (modest : Bool) (w0 : World) (args : Array Value) (hos : w0.os = os)
    (hsh : (w0.forCall (fun _ _ => 0) ⟨#[], args, []⟩).Shaped C.prog)
    (hok : Input.okWideB C.prog (w0.forCall (fun _ _ => 0) ⟨#[], args, []⟩) f ⟨#[], args, []⟩ = true)
    (hrow : s.preRow enc C.prog fn conds apart laid (w0.forCall (fun _ _ => 0) ⟨#[], args, []⟩).memory args) :
    ∃ (w : World) (tape : Tape) (i : Input), w.os = os ∧ (w.forCall tape i).Shaped C.prog ∧ i.vars = [] ∧ Input.okWide C.prog (w.forCall tape i) .any w.heap.size f i ∧
      s.preRow enc C.prog fn conds apart laid (w.forCall tape i).memory i.args ∧ ({ modest := modest } : Assume).holds C.prog (lone (Frame.enter C.prog f i.args .normal) [] (w.forCall tape i)) :=
  ⟨w0, fun _ _ => 0, ⟨#[], args, []⟩, hos, hsh, (Input.okWide_of_okWideB (base := 0) hok).1, (Input.okWide_of_okWideB hok).2, hrow, by
    simp only [Assume.holds]
    exact ⟨by simp, by simp, fun _ => Modest.zero, by simp, by simp⟩⟩

end Go.Proofs.YtlkgicaajenhaaaDoor
