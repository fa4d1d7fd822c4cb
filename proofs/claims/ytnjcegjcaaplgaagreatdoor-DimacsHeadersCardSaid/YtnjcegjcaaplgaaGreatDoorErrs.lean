/- errors.Is and errors.As at faults of a text: Go's own text of both is walked, over the model's entries for internal/reflectlite. -/
import Derived.Test.YtnjcegjcaaplgaaGreatDoorParse2
import Derived.Test.YtnjcegjcaaplgaaGreatDoorBuilder
import Derived.LaidEql
import Derived.Stop.Asserts
import Derived.RowKitTokens
namespace Go.Proofs.YtnjcegjcaaplgaaGreatDoor
open Go.RowKit Go.Extern.Stop Go.Stop Go.Extern
set_option linter.unusedSimpArgs false
set_option linter.unusedVariables false
set_option linter.unnecessarySimpa false

section
variable {P : Program} (w : World)
theorem run_equalIn_iface_int (d : Nat) {ti tn : TypeId} {ms : Array (String × TypeId)} {i : TypeInfo} {k : IntKind} (a b : Int)
    (hi : P.underlying ti = some (.interface ms)) (hn : P.underlying tn = some (.int k)) (hinfo : P.info? tn = some i) (hcomp : i.comparable = true) :
    (Op.equalIn (d + 2) ti (.iface tn (.int k a)) (.iface tn (.int k b))).run P w = .ok (a == b) w := by
  simp [Op.equalIn, run_underlying hi, run_underlying hn, typeInfo, hinfo, hcomp]
/-- equality of two interface values of one integer type -/
theorem run_eql_iface_int {ti tn : TypeId} {ms : Array (String × TypeId)} {i : TypeInfo} {k : IntKind} (a b : Int)
    (hi : P.underlying ti = some (.interface ms)) (hn : P.underlying tn = some (.int k)) (hinfo : P.info? tn = some i) (hcomp : i.comparable = true) :
    (binOp .eql ti (.iface tn (.int k a)) (.iface tn (.int k b))).run P w = .ok (.bool (a == b)) w := by
  simp only [binOp]
  simp [Op.equal, Op.maxDepth, run_equalIn_iface_int w 9998 a b hi hn hinfo hcomp]
end

theorem Tryz.eTypeOf (v : Value) (w : World) : (Extern.ReflectliteType.typeOf #[.iface 35 v]).run Tryz.prog w = .ok (.iface 83 (.agg #[.pointer (some ⟨9, 35, none⟩)])) w := by kernel_rfl

theorem Tryz.eComparable (w : World) : (callFunc 110 #[.agg #[.pointer (some ⟨9, 35, none⟩)]]).run Tryz.prog w = .ok (.value (.bool true)) w := by
  rw [@run_callFunc_extern Tryz.prog 110 _ (Extern.ReflectliteType.method fun t => do Extern.Rtype.noPackHeld "Comparable" t; pure (.bool (← typeInfo t).comparable)) Tryz.func110 (by kernel_rfl) (by kernel_rfl) (by kernel_rfl) (by kernel_rfl)]
  kernel_rfl

theorem Tryz.eMethodComparable (v : Value) (w : World) : (Go.method 289 83 v "Comparable").run Tryz.prog w = .ok (110, v) w := by kernel_rfl

theorem Tryz.eComp : (Tryz.prog.info? 35).map (·.comparable) = some true := by kernel_rfl

theorem Tryz.fNoIs (v : Value) (xT : TypeId) (w : World) : (Instr.typeAssert (.iface 38 v) xT 85 true).run Tryz.prog w = .ok (.tuple #[.nilIface, .bool false]) w := run_typeAssert_lacksB Tryz.underlying85 (by kernel_rfl) (by kernel_rfl) v xT w

theorem Tryz.fUnwrap (v : Value) (xT : TypeId) (w : World) : (Instr.typeAssert (.iface 38 v) xT 88 true).run Tryz.prog w = .ok (.tuple #[.iface 38 v, .bool true]) w := run_typeAssert_hasB Tryz.underlying88 (by kernel_rfl) v xT w

theorem Tryz.fMethodUnwrap (v : Value) (w : World) : (Go.method 289 38 v "Unwrap").run Tryz.prog w = .ok (103, v) w := by kernel_rfl

theorem Tryz.eNoIs (v : Value) (xT : TypeId) (w : World) : (Instr.typeAssert (.iface 35 v) xT 85 true).run Tryz.prog w = .ok (.tuple #[.nilIface, .bool false]) w := run_typeAssert_lacksB Tryz.underlying85 (by kernel_rfl) (by kernel_rfl) v xT w

theorem Tryz.eNoUnwrap (v : Value) (xT : TypeId) (w : World) : (Instr.typeAssert (.iface 35 v) xT 88 true).run Tryz.prog w = .ok (.tuple #[.nilIface, .bool false]) w := run_typeAssert_lacksB Tryz.underlying88 (by kernel_rfl) (by kernel_rfl) v xT w

theorem Tryz.eNoUnwraps (v : Value) (xT : TypeId) (w : World) : (Instr.typeAssert (.iface 35 v) xT 90 true).run Tryz.prog w = .ok (.tuple #[.nilIface, .bool false]) w := run_typeAssert_lacksB Tryz.underlying90 (by kernel_rfl) (by kernel_rfl) v xT w

/-- a fault unwraps to its number -/
theorem unwrap_any (g : Nat) (line n : Int) (w : World) (h : Blk w g 43 #[.int .i64 line, .int .i64 n]) :
    Calls Tryz.prog 103 #[.pointer (some ⟨g, 0, none⟩)] w fun e w' => e = .returned (.iface 35 (.int .i64 n)) ∧ w = w' := by
  have c1 := h.cell 1
  simp at c1
  clear h
  go_enter Tryz.func103, Tryz.ntmps103
  go_wp2
  go_ret
  exact ⟨rfl, rfl⟩

set_option maxHeartbeats 1000000 in
theorem is_fault (g : Nat) (line n m : Int) (w : World) (h : Blk w g 43 #[.int .i64 line, .int .i64 n]) :
    Calls Tryz.prog 7 #[.iface 38 (.pointer (some ⟨g, 0, none⟩)), .iface 35 (.int .i64 m)] w fun e w' => e = .returned (.bool (n == m)) ∧ w = w' := by
  have HB := Lib.hid h
  clear h
  obtain ⟨i, hi, hcmp⟩ := Option.map_eq_some_iff.1 Tryz.eComp
  have h8 := @run_callFunc_extern Tryz.prog 17 _ Extern.ReflectliteType.typeOf Tryz.func17 (by kernel_rfl) (by kernel_rfl) (by kernel_rfl) (by kernel_rfl)
  have tT := Tryz.eTypeOf
  have cT := Tryz.eComparable
  have mR := Tryz.eMethodComparable
  have a1 := Tryz.fNoIs
  have a2 := Tryz.fUnwrap
  have a3 := Tryz.fMethodUnwrap
  have a4 := Tryz.eNoIs
  have a5 := Tryz.eNoUnwrap
  have a6 := Tryz.eNoUnwraps
  have hty := run_eql_iface_types (P := Tryz.prog) 38 35 (.pointer (some ⟨g, 0, none⟩)) (.int .i64 m) Tryz.underlying30 (by decide) w
  have heq := run_eql_iface_int (P := Tryz.prog) w n m Tryz.underlying30 Tryz.underlying35 hi hcmp
  rcases hb : (n == m) with _ | _
  · rw [hb] at heq
    clear hb
    go_enter Tryz.func7, Tryz.ntmps7
    go_wp2
    refine wp_loop_rounds 2 ?_
    rw [rounds_succ]
    go_wp2_with (go_at_call 103; refine (unwrap_any g line n _ HB.out).mono ?_; rintro e w' ⟨rfl, rfl⟩)
    rw [rounds_succ]
    go_wp2
    go_ret
    exact ⟨rfl, rfl⟩
  · rw [hb] at heq
    clear hb
    go_enter Tryz.func7, Tryz.ntmps7
    go_wp2
    refine wp_loop_rounds 2 ?_
    rw [rounds_succ]
    go_wp2_with (go_at_call 103; refine (unwrap_any g line n _ HB.out).mono ?_; rintro e w' ⟨rfl, rfl⟩)
    rw [rounds_succ]
    go_wp2
    go_ret
    exact ⟨rfl, rfl⟩
end Go.Proofs.YtnjcegjcaaplgaaGreatDoor
