/- errors.Is and errors.As at faults of a text: Go's own text of both is walked, over the model's entries for internal/reflectlite. -/
import Derived.Test.YteolgfakhkeedaaDoorParse2
import Derived.Test.YteolgfakhkeedaaDoorBuilder
import Derived.LaidEql
import Derived.Stop.Asserts
import Derived.RowKitTokens
namespace Go.Proofs.YteolgfakhkeedaaDoor
open Go.RowKit Go.Extern.Stop Go.Stop Go.Extern
set_option linter.unusedSimpArgs false
set_option linter.unusedVariables false
set_option linter.unnecessarySimpa false

section
variable {P : Program} (w : World)
theorem run_equalIn_iface_int (d : Nat) {ti tn : TypeId} {ms : Array (String × TypeId)} {i : TypeInfo} {k : IntKind} (a b : Int)
    (hi : P.underlying ti = some (.interface ms)) (hn : P.underlying tn = some (.int k)) (hinfo : P.info? tn = some i) (hcomp : i.comparable = true) :
    (Op.equalIn (d + 2) ti (.iface tn (.int k a)) (.iface tn (.int k b))).run P w = .ok (a == b) w := by
  simp [Op.equalIn, run_underlying hi, run_underlying hn, typeInfo, hinfo, hcomp]
/-- equality of two interface values of one integer type -/
theorem run_eql_iface_int {ti tn : TypeId} {ms : Array (String × TypeId)} {i : TypeInfo} {k : IntKind} (a b : Int)
    (hi : P.underlying ti = some (.interface ms)) (hn : P.underlying tn = some (.int k)) (hinfo : P.info? tn = some i) (hcomp : i.comparable = true) :
    (binOp .eql ti (.iface tn (.int k a)) (.iface tn (.int k b))).run P w = .ok (.bool (a == b)) w := by
  simp only [binOp]
  simp [Op.equal, Op.maxDepth, run_equalIn_iface_int w 9998 a b hi hn hinfo hcomp]
end

theorem Tryd.eTypeOf (v : Value) (w : World) : (Extern.ReflectliteType.typeOf #[.iface 44 v]).run Tryd.prog w = .ok (.iface 89 (.agg #[.pointer (some ⟨7, 44, none⟩)])) w := by kernel_rfl

theorem Tryd.eComparable (w : World) : (callFunc 100 #[.agg #[.pointer (some ⟨7, 44, none⟩)]]).run Tryd.prog w = .ok (.value (.bool true)) w := by
  rw [@run_callFunc_extern Tryd.prog 100 _ (Extern.ReflectliteType.method fun t => do Extern.Rtype.noPackHeld "Comparable" t; pure (.bool (← typeInfo t).comparable)) Tryd.func100 (by kernel_rfl) (by kernel_rfl) (by kernel_rfl) (by kernel_rfl)]
  kernel_rfl

theorem Tryd.eMethodComparable (v : Value) (w : World) : (Go.method 275 89 v "Comparable").run Tryd.prog w = .ok (100, v) w := by kernel_rfl

theorem Tryd.eComp : (Tryd.prog.info? 44).map (·.comparable) = some true := by kernel_rfl

theorem Tryd.fNoIs (v : Value) (xT : TypeId) (w : World) : (Instr.typeAssert (.iface 46 v) xT 101 true).run Tryd.prog w = .ok (.tuple #[.nilIface, .bool false]) w := run_typeAssert_lacksB Tryd.underlying101 (by kernel_rfl) (by kernel_rfl) v xT w

theorem Tryd.fUnwrap (v : Value) (xT : TypeId) (w : World) : (Instr.typeAssert (.iface 46 v) xT 96 true).run Tryd.prog w = .ok (.tuple #[.iface 46 v, .bool true]) w := run_typeAssert_hasB Tryd.underlying96 (by kernel_rfl) v xT w

theorem Tryd.fMethodUnwrap (v : Value) (w : World) : (Go.method 275 46 v "Unwrap").run Tryd.prog w = .ok (93, v) w := by kernel_rfl

theorem Tryd.eNoIs (v : Value) (xT : TypeId) (w : World) : (Instr.typeAssert (.iface 44 v) xT 101 true).run Tryd.prog w = .ok (.tuple #[.nilIface, .bool false]) w := run_typeAssert_lacksB Tryd.underlying101 (by kernel_rfl) (by kernel_rfl) v xT w

theorem Tryd.eNoUnwrap (v : Value) (xT : TypeId) (w : World) : (Instr.typeAssert (.iface 44 v) xT 96 true).run Tryd.prog w = .ok (.tuple #[.nilIface, .bool false]) w := run_typeAssert_lacksB Tryd.underlying96 (by kernel_rfl) (by kernel_rfl) v xT w

theorem Tryd.eNoUnwraps (v : Value) (xT : TypeId) (w : World) : (Instr.typeAssert (.iface 44 v) xT 98 true).run Tryd.prog w = .ok (.tuple #[.nilIface, .bool false]) w := run_typeAssert_lacksB Tryd.underlying98 (by kernel_rfl) (by kernel_rfl) v xT w

/-- a fault unwraps to its number -/
theorem unwrap_any (g : Nat) (line n : Int) (w : World) (h : Blk w g 50 #[.int .i64 line, .int .i64 n]) :
    Calls Tryd.prog 93 #[.pointer (some ⟨g, 0, none⟩)] w fun e w' => e = .returned (.iface 44 (.int .i64 n)) ∧ w = w' := by
  have c1 := h.cell 1
  simp at c1
  clear h
  go_enter Tryd.func93, Tryd.ntmps93
  go_wp2
  go_ret
  exact ⟨rfl, rfl⟩

set_option maxHeartbeats 1000000 in
theorem is_fault (g : Nat) (line n m : Int) (w : World) (h : Blk w g 50 #[.int .i64 line, .int .i64 n]) :
    Calls Tryd.prog 16 #[.iface 46 (.pointer (some ⟨g, 0, none⟩)), .iface 44 (.int .i64 m)] w fun e w' => e = .returned (.bool (n == m)) ∧ w = w' := by
  have HB := Lib.hid h
  clear h
  obtain ⟨i, hi, hcmp⟩ := Option.map_eq_some_iff.1 Tryd.eComp
  have h8 := @run_callFunc_extern Tryd.prog 29 _ Extern.ReflectliteType.typeOf Tryd.func29 (by kernel_rfl) (by kernel_rfl) (by kernel_rfl) (by kernel_rfl)
  have tT := Tryd.eTypeOf
  have cT := Tryd.eComparable
  have mR := Tryd.eMethodComparable
  have a1 := Tryd.fNoIs
  have a2 := Tryd.fUnwrap
  have a3 := Tryd.fMethodUnwrap
  have a4 := Tryd.eNoIs
  have a5 := Tryd.eNoUnwrap
  have a6 := Tryd.eNoUnwraps
  have hty := run_eql_iface_types (P := Tryd.prog) 46 44 (.pointer (some ⟨g, 0, none⟩)) (.int .i64 m) Tryd.underlying33 (by decide) w
  have heq := run_eql_iface_int (P := Tryd.prog) w n m Tryd.underlying33 Tryd.underlying44 hi hcmp
  rcases hb : (n == m) with _ | _
  · rw [hb] at heq
    clear hb
    go_enter Tryd.func16, Tryd.ntmps16
    go_wp2
    refine wp_loop_rounds 2 ?_
    rw [rounds_succ]
    go_wp2_with (go_at_call 93; refine (unwrap_any g line n _ HB.out).mono ?_; rintro e w' ⟨rfl, rfl⟩)
    rw [rounds_succ]
    go_wp2
    go_ret
    exact ⟨rfl, rfl⟩
  · rw [hb] at heq
    clear hb
    go_enter Tryd.func16, Tryd.ntmps16
    go_wp2
    refine wp_loop_rounds 2 ?_
    rw [rounds_succ]
    go_wp2_with (go_at_call 93; refine (unwrap_any g line n _ HB.out).mono ?_; rintro e w' ⟨rfl, rfl⟩)
    rw [rounds_succ]
    go_wp2
    go_ret
    exact ⟨rfl, rfl⟩
end Go.Proofs.YteolgfakhkeedaaDoor
