/- errors.As at a fault of a text, and what a fault says. -/
import Derived.Test.YteolgfakhkeedaaDoorErrs
namespace Go.Proofs.YteolgfakhkeedaaDoor
open Go.RowKit Go.Extern.Stop Go.Stop Go.Extern
set_option linter.unusedSimpArgs false
set_option linter.unusedVariables false
set_option linter.unnecessarySimpa false

theorem Tryd.valueOfPP (t : Addr) (w : World) : (callFunc 25 #[.iface 48 (.pointer (some t))]).run Tryd.prog w
    = .ok (.value (.agg #[.pointer (some ⟨7, 48, none⟩), .pointer (some ⟨w.heap.size, 0, none⟩), .int .u64 150])) (w.alloc (.cells #[.pointer (some t)] 48)) := by
  rw [@run_callFunc_extern Tryd.prog 25 _ (fun args => ReflectliteValue.unpack (args.getD 0 (.tuple #[]))) Tryd.func25 (by kernel_rfl) (by kernel_rfl) (by kernel_rfl) (by kernel_rfl)]
  kernel_rfl

theorem Tryd.valueOfP (t : Addr) (w : World) : (callFunc 25 #[.iface 46 (.pointer (some t))]).run Tryd.prog w
    = .ok (.value (.agg #[.pointer (some ⟨7, 46, none⟩), .pointer (some ⟨w.heap.size, 0, none⟩), .int .u64 150])) (w.alloc (.cells #[.pointer (some t)] 46)) := by
  rw [@run_callFunc_extern Tryd.prog 25 _ (fun args => ReflectliteValue.unpack (args.getD 0 (.tuple #[]))) Tryd.func25 (by kernel_rfl) (by kernel_rfl) (by kernel_rfl) (by kernel_rfl)]
  kernel_rfl

theorem Tryd.typePP (a : Addr) (w : World) : (callFunc 26 #[.agg #[.pointer (some ⟨7, 48, none⟩), .pointer (some a), .int .u64 150]]).run Tryd.prog w
    = .ok (.value (.iface 89 (.agg #[.pointer (some ⟨7, 48, none⟩)]))) w := by
  rw [@run_callFunc_extern Tryd.prog 26 _ (ReflectliteValue.methodAny (ReflectliteValue.valueError "reflectlite.Value.Type" 0) (fun t _ _ _ => ReflectliteType.toType t)) Tryd.func26 (by kernel_rfl) (by kernel_rfl) (by kernel_rfl) (by kernel_rfl)]
  kernel_rfl

theorem Tryd.methodKind (h : Value) (w : World) : (Go.method 275 89 (.agg #[h]) "Kind").run Tryd.prog w = .ok (88, h) w := by kernel_rfl

theorem Tryd.kindPP (w : World) : (callFunc 88 #[.pointer (some ⟨7, 48, none⟩)]).run Tryd.prog w = .ok (.value (.int .u8 22)) w := by
  rw [@run_callFunc_extern Tryd.prog 88 _ (ReflectliteType.abiMethod fun t => do pure (.int .u8 (← Rtype.kind t))) Tryd.func88 (by kernel_rfl) (by kernel_rfl) (by kernel_rfl) (by kernel_rfl)]
  kernel_rfl

theorem Tryd.kindP (w : World) : (callFunc 88 #[.pointer (some ⟨7, 46, none⟩)]).run Tryd.prog w = .ok (.value (.int .u8 22)) w := by
  rw [@run_callFunc_extern Tryd.prog 88 _ (ReflectliteType.abiMethod fun t => do pure (.int .u8 (← Rtype.kind t))) Tryd.func88 (by kernel_rfl) (by kernel_rfl) (by kernel_rfl) (by kernel_rfl)]
  kernel_rfl

/-- a method of a Value whose parts are known -/
theorem method_run {P : Program} {w : World} (z : Sem Value) (f : TypeId → Addr → Nat → Nat → Sem Value) (v : Value) (r : TypeId × Addr × Nat) (h : (ReflectliteValue.parts v).run P w = .ok (some r) w) :
    (ReflectliteValue.method z f #[v]).run P w = (f r.1 r.2.1 r.2.2 (r.2.2 % 32)).run P w := by
  delta ReflectliteValue.method
  show (Sem.run P (ReflectliteValue.parts v >>= _) w) = _
  rw [Sem.run_bind, h]
  rfl

theorem Tryd.partsPP (a : Addr) (w : World) : (ReflectliteValue.parts (.agg #[.pointer (some ⟨7, 48, none⟩), .pointer (some a), .int .u64 150])).run Tryd.prog w = .ok (some (48, a, 150)) w := by kernel_rfl

theorem Tryd.isNilPP (a p : Addr) (W : World) (ha : W.cell? a = some (.pointer (some p))) :
    (callFunc 27 #[.agg #[.pointer (some ⟨7, 48, none⟩), .pointer (some a), .int .u64 150]]).run Tryd.prog W = .ok (.value (.bool false)) W := by
  rw [@run_callFunc_extern Tryd.prog 27 _ (ReflectliteValue.method (ReflectliteValue.valueError "reflectlite.Value.IsNil" 0) ReflectliteValue.isNil) Tryd.func27 (by kernel_rfl) (by kernel_rfl) (by kernel_rfl) (by kernel_rfl), method_run _ _ _ _ (Tryd.partsPP a W)]
  simp [ReflectliteValue.isNil, loadVar, isAgg, underlying, Tryd.underlying48, ha, Result.andThen]

theorem Tryd.methodElem (h : Value) (w : World) : (Go.method 275 89 (.agg #[h]) "Elem").run Tryd.prog w = .ok (101, .agg #[h]) w := by kernel_rfl

theorem Tryd.methodImplements (h : Value) (w : World) : (Go.method 275 89 (.agg #[h]) "Implements").run Tryd.prog w = .ok (102, .agg #[h]) w := by kernel_rfl

theorem Tryd.methodAssignableTo (h : Value) (w : World) : (Go.method 275 89 (.agg #[h]) "AssignableTo").run Tryd.prog w = .ok (99, .agg #[h]) w := by kernel_rfl

theorem Tryd.elemPP (w : World) : (callFunc 101 #[.agg #[.pointer (some ⟨7, 48, none⟩)]]).run Tryd.prog w = .ok (.value (.iface 89 (.agg #[.pointer (some ⟨7, 46, none⟩)]))) w := by
  rw [@run_callFunc_extern Tryd.prog 101 _ (ReflectliteType.method ReflectliteType.elem) Tryd.func101 (by kernel_rfl) (by kernel_rfl) (by kernel_rfl) (by kernel_rfl)]
  kernel_rfl

theorem Tryd.implementsP (w : World) : (callFunc 102 #[.agg #[.pointer (some ⟨7, 46, none⟩)], .iface 89 (.agg #[.pointer (some ⟨7, 33, none⟩)])]).run Tryd.prog w = .ok (.value (.bool true)) w := by
  rw [@run_callFunc_extern Tryd.prog 102 _ (ReflectliteType.relation "Implements" ReflectliteType.implements_) Tryd.func102 (by kernel_rfl) (by kernel_rfl) (by kernel_rfl) (by kernel_rfl)]
  kernel_rfl

theorem Tryd.typeOfP (v : Value) (w : World) : (callFunc 29 #[.iface 46 v]).run Tryd.prog w = .ok (.value (.iface 89 (.agg #[.pointer (some ⟨7, 46, none⟩)]))) w := by
  rw [@run_callFunc_extern Tryd.prog 29 _ ReflectliteType.typeOf Tryd.func29 (by kernel_rfl) (by kernel_rfl) (by kernel_rfl) (by kernel_rfl)]
  kernel_rfl

theorem Tryd.assignableP (w : World) : (callFunc 99 #[.agg #[.pointer (some ⟨7, 46, none⟩)], .iface 89 (.agg #[.pointer (some ⟨7, 46, none⟩)])]).run Tryd.prog w = .ok (.value (.bool true)) w := by
  rw [@run_callFunc_extern Tryd.prog 99 _ (ReflectliteType.relation "AssignableTo" ReflectliteType.assignableTo) Tryd.func99 (by kernel_rfl) (by kernel_rfl) (by kernel_rfl) (by kernel_rfl)]
  kernel_rfl

theorem Tryd.elemOfPP (w : World) : (Rtype.elem? 48).run Tryd.prog w = .ok (some 46) w := by kernel_rfl

theorem Tryd.mkP (p : Addr) (w : World) : (ReflectliteValue.mk 46 p ReflectliteValue.flagAddr).run Tryd.prog w = .ok (.agg #[.pointer (some ⟨7, 46, none⟩), .pointer (some p), .int .u64 406]) w := by kernel_rfl

theorem Tryd.elemVPP (a p : Addr) (W : World) (ha : W.cell? a = some (.pointer (some p))) :
    (callFunc 37 #[.agg #[.pointer (some ⟨7, 48, none⟩), .pointer (some a), .int .u64 150]]).run Tryd.prog W
      = .ok (.value (.agg #[.pointer (some ⟨7, 46, none⟩), .pointer (some p), .int .u64 406])) W := by
  rw [@run_callFunc_extern Tryd.prog 37 _ (ReflectliteValue.method (ReflectliteValue.valueError "reflectlite.Value.Elem" 0) ReflectliteValue.elem) Tryd.func37 (by kernel_rfl) (by kernel_rfl) (by kernel_rfl) (by kernel_rfl), method_run _ _ _ _ (Tryd.partsPP a W)]
  simp [ReflectliteValue.elem, loadVar, isAgg, underlying, Tryd.underlying48, ha, Result.andThen, Tryd.elemOfPP, Tryd.mkP]
end Go.Proofs.YteolgfakhkeedaaDoor
