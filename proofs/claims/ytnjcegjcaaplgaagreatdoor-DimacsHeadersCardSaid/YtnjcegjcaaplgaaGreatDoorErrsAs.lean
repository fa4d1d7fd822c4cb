/- errors.As at a fault of a text, and what a fault says. -/
import Derived.Test.YtnjcegjcaaplgaaGreatDoorErrs
namespace Go.Proofs.YtnjcegjcaaplgaaGreatDoor
open Go.RowKit Go.Extern.Stop Go.Stop Go.Extern
set_option linter.unusedSimpArgs false
set_option linter.unusedVariables false
set_option linter.unnecessarySimpa false

theorem Tryz.valueOfPP (t : Addr) (w : World) : (callFunc 21 #[.iface 41 (.pointer (some t))]).run Tryz.prog w
    = .ok (.value (.agg #[.pointer (some ⟨9, 41, none⟩), .pointer (some ⟨w.heap.size, 0, none⟩), .int .u64 150])) (w.alloc (.cells #[.pointer (some t)] 41)) := by
  rw [@run_callFunc_extern Tryz.prog 21 _ (fun args => ReflectliteValue.unpack (args.getD 0 (.tuple #[]))) Tryz.func21 (by kernel_rfl) (by kernel_rfl) (by kernel_rfl) (by kernel_rfl)]
  kernel_rfl

theorem Tryz.valueOfP (t : Addr) (w : World) : (callFunc 21 #[.iface 38 (.pointer (some t))]).run Tryz.prog w
    = .ok (.value (.agg #[.pointer (some ⟨9, 38, none⟩), .pointer (some ⟨w.heap.size, 0, none⟩), .int .u64 150])) (w.alloc (.cells #[.pointer (some t)] 38)) := by
  rw [@run_callFunc_extern Tryz.prog 21 _ (fun args => ReflectliteValue.unpack (args.getD 0 (.tuple #[]))) Tryz.func21 (by kernel_rfl) (by kernel_rfl) (by kernel_rfl) (by kernel_rfl)]
  kernel_rfl

theorem Tryz.typePP (a : Addr) (w : World) : (callFunc 22 #[.agg #[.pointer (some ⟨9, 41, none⟩), .pointer (some a), .int .u64 150]]).run Tryz.prog w
    = .ok (.value (.iface 83 (.agg #[.pointer (some ⟨9, 41, none⟩)]))) w := by
  rw [@run_callFunc_extern Tryz.prog 22 _ (ReflectliteValue.methodAny (ReflectliteValue.valueError "reflectlite.Value.Type" 0) (fun t _ _ _ => ReflectliteType.toType t)) Tryz.func22 (by kernel_rfl) (by kernel_rfl) (by kernel_rfl) (by kernel_rfl)]
  kernel_rfl

theorem Tryz.methodKind (h : Value) (w : World) : (Go.method 289 83 (.agg #[h]) "Kind").run Tryz.prog w = .ok (98, h) w := by kernel_rfl

theorem Tryz.kindPP (w : World) : (callFunc 98 #[.pointer (some ⟨9, 41, none⟩)]).run Tryz.prog w = .ok (.value (.int .u8 22)) w := by
  rw [@run_callFunc_extern Tryz.prog 98 _ (ReflectliteType.abiMethod fun t => do pure (.int .u8 (← Rtype.kind t))) Tryz.func98 (by kernel_rfl) (by kernel_rfl) (by kernel_rfl) (by kernel_rfl)]
  kernel_rfl

theorem Tryz.kindP (w : World) : (callFunc 98 #[.pointer (some ⟨9, 38, none⟩)]).run Tryz.prog w = .ok (.value (.int .u8 22)) w := by
  rw [@run_callFunc_extern Tryz.prog 98 _ (ReflectliteType.abiMethod fun t => do pure (.int .u8 (← Rtype.kind t))) Tryz.func98 (by kernel_rfl) (by kernel_rfl) (by kernel_rfl) (by kernel_rfl)]
  kernel_rfl

/-- a method of a Value whose parts are known -/
theorem method_run {P : Program} {w : World} (z : Sem Value) (f : TypeId → Addr → Nat → Nat → Sem Value) (v : Value) (r : TypeId × Addr × Nat) (h : (ReflectliteValue.parts v).run P w = .ok (some r) w) :
    (ReflectliteValue.method z f #[v]).run P w = (f r.1 r.2.1 r.2.2 (r.2.2 % 32)).run P w := by
  delta ReflectliteValue.method
  show (Sem.run P (ReflectliteValue.parts v >>= _) w) = _
  rw [Sem.run_bind, h]
  rfl

theorem Tryz.partsPP (a : Addr) (w : World) : (ReflectliteValue.parts (.agg #[.pointer (some ⟨9, 41, none⟩), .pointer (some a), .int .u64 150])).run Tryz.prog w = .ok (some (41, a, 150)) w := by kernel_rfl

theorem Tryz.isNilPP (a p : Addr) (W : World) (ha : W.cell? a = some (.pointer (some p))) :
    (callFunc 23 #[.agg #[.pointer (some ⟨9, 41, none⟩), .pointer (some a), .int .u64 150]]).run Tryz.prog W = .ok (.value (.bool false)) W := by
  rw [@run_callFunc_extern Tryz.prog 23 _ (ReflectliteValue.method (ReflectliteValue.valueError "reflectlite.Value.IsNil" 0) ReflectliteValue.isNil) Tryz.func23 (by kernel_rfl) (by kernel_rfl) (by kernel_rfl) (by kernel_rfl), method_run _ _ _ _ (Tryz.partsPP a W)]
  simp [ReflectliteValue.isNil, loadVar, isAgg, underlying, Tryz.underlying41, ha, Result.andThen]

theorem Tryz.methodElem (h : Value) (w : World) : (Go.method 289 83 (.agg #[h]) "Elem").run Tryz.prog w = .ok (111, .agg #[h]) w := by kernel_rfl

theorem Tryz.methodImplements (h : Value) (w : World) : (Go.method 289 83 (.agg #[h]) "Implements").run Tryz.prog w = .ok (112, .agg #[h]) w := by kernel_rfl

theorem Tryz.methodAssignableTo (h : Value) (w : World) : (Go.method 289 83 (.agg #[h]) "AssignableTo").run Tryz.prog w = .ok (109, .agg #[h]) w := by kernel_rfl

theorem Tryz.elemPP (w : World) : (callFunc 111 #[.agg #[.pointer (some ⟨9, 41, none⟩)]]).run Tryz.prog w = .ok (.value (.iface 83 (.agg #[.pointer (some ⟨9, 38, none⟩)]))) w := by
  rw [@run_callFunc_extern Tryz.prog 111 _ (ReflectliteType.method ReflectliteType.elem) Tryz.func111 (by kernel_rfl) (by kernel_rfl) (by kernel_rfl) (by kernel_rfl)]
  kernel_rfl

theorem Tryz.implementsP (w : World) : (callFunc 112 #[.agg #[.pointer (some ⟨9, 38, none⟩)], .iface 83 (.agg #[.pointer (some ⟨9, 30, none⟩)])]).run Tryz.prog w = .ok (.value (.bool true)) w := by
  rw [@run_callFunc_extern Tryz.prog 112 _ (ReflectliteType.relation "Implements" ReflectliteType.implements_) Tryz.func112 (by kernel_rfl) (by kernel_rfl) (by kernel_rfl) (by kernel_rfl)]
  kernel_rfl

theorem Tryz.typeOfP (v : Value) (w : World) : (callFunc 17 #[.iface 38 v]).run Tryz.prog w = .ok (.value (.iface 83 (.agg #[.pointer (some ⟨9, 38, none⟩)]))) w := by
  rw [@run_callFunc_extern Tryz.prog 17 _ ReflectliteType.typeOf Tryz.func17 (by kernel_rfl) (by kernel_rfl) (by kernel_rfl) (by kernel_rfl)]
  kernel_rfl

theorem Tryz.assignableP (w : World) : (callFunc 109 #[.agg #[.pointer (some ⟨9, 38, none⟩)], .iface 83 (.agg #[.pointer (some ⟨9, 38, none⟩)])]).run Tryz.prog w = .ok (.value (.bool true)) w := by
  rw [@run_callFunc_extern Tryz.prog 109 _ (ReflectliteType.relation "AssignableTo" ReflectliteType.assignableTo) Tryz.func109 (by kernel_rfl) (by kernel_rfl) (by kernel_rfl) (by kernel_rfl)]
  kernel_rfl

theorem Tryz.elemOfPP (w : World) : (Rtype.elem? 41).run Tryz.prog w = .ok (some 38) w := by kernel_rfl

theorem Tryz.mkP (p : Addr) (w : World) : (ReflectliteValue.mk 38 p ReflectliteValue.flagAddr).run Tryz.prog w = .ok (.agg #[.pointer (some ⟨9, 38, none⟩), .pointer (some p), .int .u64 406]) w := by kernel_rfl

theorem Tryz.elemVPP (a p : Addr) (W : World) (ha : W.cell? a = some (.pointer (some p))) :
    (callFunc 34 #[.agg #[.pointer (some ⟨9, 41, none⟩), .pointer (some a), .int .u64 150]]).run Tryz.prog W
      = .ok (.value (.agg #[.pointer (some ⟨9, 38, none⟩), .pointer (some p), .int .u64 406])) W := by
  rw [@run_callFunc_extern Tryz.prog 34 _ (ReflectliteValue.method (ReflectliteValue.valueError "reflectlite.Value.Elem" 0) ReflectliteValue.elem) Tryz.func34 (by kernel_rfl) (by kernel_rfl) (by kernel_rfl) (by kernel_rfl), method_run _ _ _ _ (Tryz.partsPP a W)]
  simp [ReflectliteValue.elem, loadVar, isAgg, underlying, Tryz.underlying41, ha, Result.andThen, Tryz.elemOfPP, Tryz.mkP]
end Go.Proofs.YtnjcegjcaaplgaaGreatDoor
