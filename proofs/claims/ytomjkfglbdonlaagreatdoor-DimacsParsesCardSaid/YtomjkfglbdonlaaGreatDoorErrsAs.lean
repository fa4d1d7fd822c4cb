/- errors.As at a fault of a text, and what a fault says. -/
import Derived.Test.YtomjkfglbdonlaaGreatDoorErrs
namespace Go.Proofs.YtomjkfglbdonlaaGreatDoor
open Go.RowKit Go.Extern.Stop Go.Stop Go.Extern
set_option linter.unusedSimpArgs false
set_option linter.unusedVariables false
set_option linter.unnecessarySimpa false

theorem Tryz.valueOfPP (t : Addr) (w : World) : (callFunc 26 #[.iface 36 (.pointer (some t))]).run Tryz.prog w
    = .ok (.value (.agg #[.pointer (some ⟨9, 36, none⟩), .pointer (some ⟨w.heap.size, 0, none⟩), .int .u64 150])) (w.alloc (.cells #[.pointer (some t)] 36)) := by
  rw [@run_callFunc_extern Tryz.prog 26 _ (fun args => ReflectliteValue.unpack (args.getD 0 (.tuple #[]))) Tryz.func26 (by kernel_rfl) (by kernel_rfl) (by kernel_rfl) (by kernel_rfl)]
  kernel_rfl

theorem Tryz.valueOfP (t : Addr) (w : World) : (callFunc 26 #[.iface 34 (.pointer (some t))]).run Tryz.prog w
    = .ok (.value (.agg #[.pointer (some ⟨9, 34, none⟩), .pointer (some ⟨w.heap.size, 0, none⟩), .int .u64 150])) (w.alloc (.cells #[.pointer (some t)] 34)) := by
  rw [@run_callFunc_extern Tryz.prog 26 _ (fun args => ReflectliteValue.unpack (args.getD 0 (.tuple #[]))) Tryz.func26 (by kernel_rfl) (by kernel_rfl) (by kernel_rfl) (by kernel_rfl)]
  kernel_rfl

theorem Tryz.typePP (a : Addr) (w : World) : (callFunc 27 #[.agg #[.pointer (some ⟨9, 36, none⟩), .pointer (some a), .int .u64 150]]).run Tryz.prog w
    = .ok (.value (.iface 93 (.agg #[.pointer (some ⟨9, 36, none⟩)]))) w := by
  rw [@run_callFunc_extern Tryz.prog 27 _ (ReflectliteValue.methodAny (ReflectliteValue.valueError "reflectlite.Value.Type" 0) (fun t _ _ _ => ReflectliteType.toType t)) Tryz.func27 (by kernel_rfl) (by kernel_rfl) (by kernel_rfl) (by kernel_rfl)]
  kernel_rfl

theorem Tryz.methodKind (h : Value) (w : World) : (Go.method 296 93 (.agg #[h]) "Kind").run Tryz.prog w = .ok (106, h) w := by kernel_rfl

theorem Tryz.kindPP (w : World) : (callFunc 106 #[.pointer (some ⟨9, 36, none⟩)]).run Tryz.prog w = .ok (.value (.int .u8 22)) w := by
  rw [@run_callFunc_extern Tryz.prog 106 _ (ReflectliteType.abiMethod fun t => do pure (.int .u8 (← Rtype.kind t))) Tryz.func106 (by kernel_rfl) (by kernel_rfl) (by kernel_rfl) (by kernel_rfl)]
  kernel_rfl

theorem Tryz.kindP (w : World) : (callFunc 106 #[.pointer (some ⟨9, 34, none⟩)]).run Tryz.prog w = .ok (.value (.int .u8 22)) w := by
  rw [@run_callFunc_extern Tryz.prog 106 _ (ReflectliteType.abiMethod fun t => do pure (.int .u8 (← Rtype.kind t))) Tryz.func106 (by kernel_rfl) (by kernel_rfl) (by kernel_rfl) (by kernel_rfl)]
  kernel_rfl

/-- a method of a Value whose parts are known -/
theorem method_run {P : Program} {w : World} (z : Sem Value) (f : TypeId → Addr → Nat → Nat → Sem Value) (v : Value) (r : TypeId × Addr × Nat) (h : (ReflectliteValue.parts v).run P w = .ok (some r) w) :
    (ReflectliteValue.method z f #[v]).run P w = (f r.1 r.2.1 r.2.2 (r.2.2 % 32)).run P w := by
  delta ReflectliteValue.method
  show (Sem.run P (ReflectliteValue.parts v >>= _) w) = _
  rw [Sem.run_bind, h]
  rfl

theorem Tryz.partsPP (a : Addr) (w : World) : (ReflectliteValue.parts (.agg #[.pointer (some ⟨9, 36, none⟩), .pointer (some a), .int .u64 150])).run Tryz.prog w = .ok (some (36, a, 150)) w := by kernel_rfl

theorem Tryz.isNilPP (a p : Addr) (W : World) (ha : W.cell? a = some (.pointer (some p))) :
    (callFunc 28 #[.agg #[.pointer (some ⟨9, 36, none⟩), .pointer (some a), .int .u64 150]]).run Tryz.prog W = .ok (.value (.bool false)) W := by
  rw [@run_callFunc_extern Tryz.prog 28 _ (ReflectliteValue.method (ReflectliteValue.valueError "reflectlite.Value.IsNil" 0) ReflectliteValue.isNil) Tryz.func28 (by kernel_rfl) (by kernel_rfl) (by kernel_rfl) (by kernel_rfl), method_run _ _ _ _ (Tryz.partsPP a W)]
  simp [ReflectliteValue.isNil, loadVar, isAgg, underlying, Tryz.underlying36, ha, Result.andThen]

theorem Tryz.methodElem (h : Value) (w : World) : (Go.method 296 93 (.agg #[h]) "Elem").run Tryz.prog w = .ok (116, .agg #[h]) w := by kernel_rfl

theorem Tryz.methodImplements (h : Value) (w : World) : (Go.method 296 93 (.agg #[h]) "Implements").run Tryz.prog w = .ok (117, .agg #[h]) w := by kernel_rfl

theorem Tryz.methodAssignableTo (h : Value) (w : World) : (Go.method 296 93 (.agg #[h]) "AssignableTo").run Tryz.prog w = .ok (114, .agg #[h]) w := by kernel_rfl

theorem Tryz.elemPP (w : World) : (callFunc 116 #[.agg #[.pointer (some ⟨9, 36, none⟩)]]).run Tryz.prog w = .ok (.value (.iface 93 (.agg #[.pointer (some ⟨9, 34, none⟩)]))) w := by
  rw [@run_callFunc_extern Tryz.prog 116 _ (ReflectliteType.method ReflectliteType.elem) Tryz.func116 (by kernel_rfl) (by kernel_rfl) (by kernel_rfl) (by kernel_rfl)]
  kernel_rfl

theorem Tryz.implementsP (w : World) : (callFunc 117 #[.agg #[.pointer (some ⟨9, 34, none⟩)], .iface 93 (.agg #[.pointer (some ⟨9, 30, none⟩)])]).run Tryz.prog w = .ok (.value (.bool true)) w := by
  rw [@run_callFunc_extern Tryz.prog 117 _ (ReflectliteType.relation "Implements" ReflectliteType.implements_) Tryz.func117 (by kernel_rfl) (by kernel_rfl) (by kernel_rfl) (by kernel_rfl)]
  kernel_rfl

theorem Tryz.typeOfP (v : Value) (w : World) : (callFunc 30 #[.iface 34 v]).run Tryz.prog w = .ok (.value (.iface 93 (.agg #[.pointer (some ⟨9, 34, none⟩)]))) w := by
  rw [@run_callFunc_extern Tryz.prog 30 _ ReflectliteType.typeOf Tryz.func30 (by kernel_rfl) (by kernel_rfl) (by kernel_rfl) (by kernel_rfl)]
  kernel_rfl

theorem Tryz.assignableP (w : World) : (callFunc 114 #[.agg #[.pointer (some ⟨9, 34, none⟩)], .iface 93 (.agg #[.pointer (some ⟨9, 34, none⟩)])]).run Tryz.prog w = .ok (.value (.bool true)) w := by
  rw [@run_callFunc_extern Tryz.prog 114 _ (ReflectliteType.relation "AssignableTo" ReflectliteType.assignableTo) Tryz.func114 (by kernel_rfl) (by kernel_rfl) (by kernel_rfl) (by kernel_rfl)]
  kernel_rfl

theorem Tryz.elemOfPP (w : World) : (Rtype.elem? 36).run Tryz.prog w = .ok (some 34) w := by kernel_rfl

theorem Tryz.mkP (p : Addr) (w : World) : (ReflectliteValue.mk 34 p ReflectliteValue.flagAddr).run Tryz.prog w = .ok (.agg #[.pointer (some ⟨9, 34, none⟩), .pointer (some p), .int .u64 406]) w := by kernel_rfl

theorem Tryz.elemVPP (a p : Addr) (W : World) (ha : W.cell? a = some (.pointer (some p))) :
    (callFunc 41 #[.agg #[.pointer (some ⟨9, 36, none⟩), .pointer (some a), .int .u64 150]]).run Tryz.prog W
      = .ok (.value (.agg #[.pointer (some ⟨9, 34, none⟩), .pointer (some p), .int .u64 406])) W := by
  rw [@run_callFunc_extern Tryz.prog 41 _ (ReflectliteValue.method (ReflectliteValue.valueError "reflectlite.Value.Elem" 0) ReflectliteValue.elem) Tryz.func41 (by kernel_rfl) (by kernel_rfl) (by kernel_rfl) (by kernel_rfl), method_run _ _ _ _ (Tryz.partsPP a W)]
  simp [ReflectliteValue.elem, loadVar, isAgg, underlying, Tryz.underlying36, ha, Result.andThen, Tryz.elemOfPP, Tryz.mkP]
end Go.Proofs.YtomjkfglbdonlaaGreatDoor
