import Derived.Test.YtidomoibhjgkjaaDoorRows
import Derived.WalkKit
import Derived.LaidEql
import Derived.LaidEqlPtr
import Derived.Stop.Asserts
import Derived.RowKitTokens
import Derived.Lib.Hide
/-
  Closed facts on the entries that errors.As and errors.Is come to, at the types of this program: which Value a target is, which type is assignable to which, which methods an error has.
-/
namespace Go.Proofs.YtidomoibhjgkjaaDoor
open Go.RowKit Go.Extern.Stop Go.Stop Go.Extern

theorem extValueOf (args : Array Value) (w : World) : (callFunc 54 args).run Tryd.prog w = (((fun args => ReflectliteValue.unpack (args.getD 0 (.tuple #[]))) args).run Tryd.prog w).andThen fun v w => .ok (.value v) w :=
  @run_callFunc_extern Tryd.prog 54 _ (fun args => ReflectliteValue.unpack (args.getD 0 (.tuple #[]))) Tryd.func54 (by kernel_rfl) (by kernel_rfl) (by kernel_rfl) (by kernel_rfl) args w
theorem extType (args : Array Value) (w : World) : (callFunc 55 args).run Tryd.prog w = (((ReflectliteValue.methodAny (ReflectliteValue.valueError "reflectlite.Value.Type" 0) (fun t _ _ _ => ReflectliteType.toType t)) args).run Tryd.prog w).andThen fun v w => .ok (.value v) w :=
  @run_callFunc_extern Tryd.prog 55 _ (ReflectliteValue.methodAny (ReflectliteValue.valueError "reflectlite.Value.Type" 0) (fun t _ _ _ => ReflectliteType.toType t)) Tryd.func55 (by kernel_rfl) (by kernel_rfl) (by kernel_rfl) (by kernel_rfl) args w
theorem extIsNil (args : Array Value) (w : World) : (callFunc 56 args).run Tryd.prog w = (((ReflectliteValue.method (ReflectliteValue.valueError "reflectlite.Value.IsNil" 0) ReflectliteValue.isNil) args).run Tryd.prog w).andThen fun v w => .ok (.value v) w :=
  @run_callFunc_extern Tryd.prog 56 _ (ReflectliteValue.method (ReflectliteValue.valueError "reflectlite.Value.IsNil" 0) ReflectliteValue.isNil) Tryd.func56 (by kernel_rfl) (by kernel_rfl) (by kernel_rfl) (by kernel_rfl) args w
theorem extTypeOf (args : Array Value) (w : World) : (callFunc 66 args).run Tryd.prog w = (((ReflectliteType.typeOf) args).run Tryd.prog w).andThen fun v w => .ok (.value v) w :=
  @run_callFunc_extern Tryd.prog 66 _ (ReflectliteType.typeOf) Tryd.func66 (by kernel_rfl) (by kernel_rfl) (by kernel_rfl) (by kernel_rfl) args w
theorem extElemV (args : Array Value) (w : World) : (callFunc 68 args).run Tryd.prog w = (((ReflectliteValue.method (ReflectliteValue.valueError "reflectlite.Value.Elem" 0) ReflectliteValue.elem) args).run Tryd.prog w).andThen fun v w => .ok (.value v) w :=
  @run_callFunc_extern Tryd.prog 68 _ (ReflectliteValue.method (ReflectliteValue.valueError "reflectlite.Value.Elem" 0) ReflectliteValue.elem) Tryd.func68 (by kernel_rfl) (by kernel_rfl) (by kernel_rfl) (by kernel_rfl) args w
theorem extSet (args : Array Value) (w : World) : (callFunc 69 args).run Tryd.prog w = (((ReflectliteValue.set) args).run Tryd.prog w).andThen fun v w => .ok (.value v) w :=
  @run_callFunc_extern Tryd.prog 69 _ (ReflectliteValue.set) Tryd.func69 (by kernel_rfl) (by kernel_rfl) (by kernel_rfl) (by kernel_rfl) args w
theorem extKind (args : Array Value) (w : World) : (callFunc 95 args).run Tryd.prog w = (((ReflectliteType.abiMethod fun t => do pure (.int .u8 (← Rtype.kind t))) args).run Tryd.prog w).andThen fun v w => .ok (.value v) w :=
  @run_callFunc_extern Tryd.prog 95 _ (ReflectliteType.abiMethod fun t => do pure (.int .u8 (← Rtype.kind t))) Tryd.func95 (by kernel_rfl) (by kernel_rfl) (by kernel_rfl) (by kernel_rfl) args w
theorem extElemR (args : Array Value) (w : World) : (callFunc 105 args).run Tryd.prog w = (((ReflectliteType.method ReflectliteType.elem) args).run Tryd.prog w).andThen fun v w => .ok (.value v) w :=
  @run_callFunc_extern Tryd.prog 105 _ (ReflectliteType.method ReflectliteType.elem) Tryd.func105 (by kernel_rfl) (by kernel_rfl) (by kernel_rfl) (by kernel_rfl) args w
theorem extImplements (args : Array Value) (w : World) : (callFunc 106 args).run Tryd.prog w = (((ReflectliteType.relation "Implements" ReflectliteType.implements_) args).run Tryd.prog w).andThen fun v w => .ok (.value v) w :=
  @run_callFunc_extern Tryd.prog 106 _ (ReflectliteType.relation "Implements" ReflectliteType.implements_) Tryd.func106 (by kernel_rfl) (by kernel_rfl) (by kernel_rfl) (by kernel_rfl) args w
theorem extAssignableTo (args : Array Value) (w : World) : (callFunc 103 args).run Tryd.prog w = (((ReflectliteType.relation "AssignableTo" ReflectliteType.assignableTo) args).run Tryd.prog w).andThen fun v w => .ok (.value v) w :=
  @run_callFunc_extern Tryd.prog 103 _ (ReflectliteType.relation "AssignableTo" ReflectliteType.assignableTo) Tryd.func103 (by kernel_rfl) (by kernel_rfl) (by kernel_rfl) (by kernel_rfl) args w
/-! ### the target of kind E -/
theorem valueOfTE (t : Addr) (w : World) : (callFunc 54 #[.iface 60 (.pointer (some t))]).run Tryd.prog w = .ok (.value (.agg #[.pointer (some ⟨1, 60, none⟩), .pointer (some ⟨w.heap.size, 0, none⟩), .int .u64 150])) (w.alloc (.cells #[.pointer (some t)] 60)) := by rw [extValueOf]; kernel_rfl
theorem typeTE (a : Addr) (w : World) : (callFunc 55 #[.agg #[.pointer (some ⟨1, 60, none⟩), .pointer (some a), .int .u64 150]]).run Tryd.prog w = .ok (.value (.iface 104 (.agg #[.pointer (some ⟨1, 60, none⟩)]))) (w) := by rw [extType]; kernel_rfl
theorem kindTE (w : World) : (callFunc 95 #[.pointer (some ⟨1, 60, none⟩)]).run Tryd.prog w = .ok (.value (.int .u8 22)) (w) := by rw [extKind]; kernel_rfl
theorem kindE (w : World) : (callFunc 95 #[.pointer (some ⟨1, 25, none⟩)]).run Tryd.prog w = .ok (.value (.int .u8 2)) (w) := by rw [extKind]; kernel_rfl
theorem partsTE (a : Addr) (w : World) : (ReflectliteValue.parts (.agg #[.pointer (some ⟨1, 60, none⟩), .pointer (some a), .int .u64 150])).run Tryd.prog w = .ok (some (60, a, 150)) w := by kernel_rfl
theorem isNilTE (a p : Addr) (w : World) (ha : w.cell? a = some (.pointer (some p))) : (callFunc 56 #[.agg #[.pointer (some ⟨1, 60, none⟩), .pointer (some a), .int .u64 150]]).run Tryd.prog w = .ok (.value (.bool false)) w := by
  rw [extIsNil]
  show (Sem.run Tryd.prog (bind (ReflectliteValue.parts (.agg #[.pointer (some ⟨1, 60, none⟩), .pointer (some a), .int .u64 150])) _) w).andThen _ = _
  simp only [Sem.run_bind, partsTE, Result.andThen]
  simp [ReflectliteValue.isNil, loadVar, isAgg, underlying, Tryd.underlying60, ha, Result.andThen]
theorem elemTE (w : World) : (callFunc 105 #[.agg #[.pointer (some ⟨1, 60, none⟩)]]).run Tryd.prog w = .ok (.value (.iface 104 (.agg #[.pointer (some ⟨1, 25, none⟩)]))) (w) := by rw [extElemR]; kernel_rfl
theorem implementsE (w : World) : (callFunc 106 #[.agg #[.pointer (some ⟨1, 25, none⟩)], .iface 104 (.agg #[.pointer (some ⟨1, 37, none⟩)])]).run Tryd.prog w = .ok (.value (.bool true)) (w) := by rw [extImplements]; kernel_rfl
theorem elemOfTE (w : World) : (Rtype.elem? 60).run Tryd.prog w = .ok (some 25) w := by kernel_rfl
theorem mkE (p : Addr) (w : World) : (ReflectliteValue.mk 25 p ReflectliteValue.flagAddr).run Tryd.prog w = .ok (.agg #[.pointer (some ⟨1, 25, none⟩), .pointer (some p), .int .u64 386]) w := by kernel_rfl
theorem elemVE (a p : Addr) (w : World) (ha : w.cell? a = some (.pointer (some p))) : (callFunc 68 #[.agg #[.pointer (some ⟨1, 60, none⟩), .pointer (some a), .int .u64 150]]).run Tryd.prog w = .ok (.value (.agg #[.pointer (some ⟨1, 25, none⟩), .pointer (some p), .int .u64 386])) w := by
  rw [extElemV]
  show (Sem.run Tryd.prog (bind (ReflectliteValue.parts (.agg #[.pointer (some ⟨1, 60, none⟩), .pointer (some a), .int .u64 150])) _) w).andThen _ = _
  simp only [Sem.run_bind, partsTE, Result.andThen]
  simp [ReflectliteValue.elem, loadVar, isAgg, underlying, Tryd.underlying60, ha, Result.andThen, elemOfTE, mkE]
theorem partsAE (a : Addr) (w : World) : (ReflectliteValue.parts (.agg #[.pointer (some ⟨1, 25, none⟩), .pointer (some a), .int .u64 386])).run Tryd.prog w = .ok (some (25, a, 386)) w := by kernel_rfl
theorem partsE (a : Addr) (w : World) : (ReflectliteValue.parts (.agg #[.pointer (some ⟨1, 25, none⟩), .pointer (some a), .int .u64 130])).run Tryd.prog w = .ok (some (25, a, 130)) w := by kernel_rfl
theorem directE (w : World) : (Rtype.directlyAssignable 25 25).run Tryd.prog w = .ok true w := by kernel_rfl
theorem typeOfE (v : Value) (w : World) : (callFunc 66 #[.iface 25 v]).run Tryd.prog w = .ok (.value (.iface 104 (.agg #[.pointer (some ⟨1, 25, none⟩)]))) (w) := by rw [extTypeOf]; kernel_rfl
theorem valueOfE (n : Int) (w : World) : (callFunc 54 #[.iface 25 (.int .i64 n)]).run Tryd.prog w = .ok (.value (.agg #[.pointer (some ⟨1, 25, none⟩), .pointer (some ⟨w.heap.size, 0, none⟩), .int .u64 130])) (w.alloc (.cells #[.int .i64 n] 25)) := by rw [extValueOf]; kernel_rfl
theorem setE (t b : Nat) (n : Int) (o1 : Value) (w : World) (hb : w.cell? ⟨b, 0, none⟩ = some (.int .i64 n)) (ht : w.cell? ⟨t, 0, none⟩ = some o1) (hf : w.frozen? ⟨t, 0, none⟩ = false) :
    (callFunc 69 #[.agg #[.pointer (some ⟨1, 25, none⟩), .pointer (some ⟨t, 0, none⟩), .int .u64 386], .agg #[.pointer (some ⟨1, 25, none⟩), .pointer (some ⟨b, 0, none⟩), .int .u64 130]]).run Tryd.prog w = .ok (.value (.tuple #[])) (w.setCell ⟨t, 0, none⟩ (.int .i64 n)) := by
  rw [extSet]
  show (Sem.run Tryd.prog (bind (ReflectliteValue.parts (.agg #[.pointer (some ⟨1, 25, none⟩), .pointer (some ⟨t, 0, none⟩), .int .u64 386])) (fun _ => bind (ReflectliteValue.parts (.agg #[.pointer (some ⟨1, 25, none⟩), .pointer (some ⟨b, 0, none⟩), .int .u64 130])) _)) w).andThen _ = _
  simp only [Sem.run_bind, partsAE, partsE, Result.andThen]
  simp [ReflectliteValue.flagAddr, loadVar, isAgg, underlying, Tryd.underlying25, Result.andThen, directE, storeVar, go_sem, hb, ht, hf]
theorem assignEE (w : World) : (callFunc 103 #[.agg #[.pointer (some ⟨1, 25, none⟩)], .iface 104 (.agg #[.pointer (some ⟨1, 25, none⟩)])]).run Tryd.prog w = .ok (.value (.bool true)) (w) := by rw [extAssignableTo]; kernel_rfl
theorem assignPE (w : World) : (callFunc 103 #[.agg #[.pointer (some ⟨1, 124, none⟩)], .iface 104 (.agg #[.pointer (some ⟨1, 25, none⟩)])]).run Tryd.prog w = .ok (.value (.bool false)) (w) := by rw [extAssignableTo]; kernel_rfl
theorem kindP (w : World) : (callFunc 95 #[.pointer (some ⟨1, 124, none⟩)]).run Tryd.prog w = .ok (.value (.int .u8 22)) (w) := by rw [extKind]; kernel_rfl
theorem implementsP (w : World) : (callFunc 106 #[.agg #[.pointer (some ⟨1, 124, none⟩)], .iface 104 (.agg #[.pointer (some ⟨1, 37, none⟩)])]).run Tryd.prog w = .ok (.value (.bool true)) (w) := by rw [extImplements]; kernel_rfl
theorem mkP (p : Addr) (w : World) : (ReflectliteValue.mk 124 p ReflectliteValue.flagAddr).run Tryd.prog w = .ok (.agg #[.pointer (some ⟨1, 124, none⟩), .pointer (some p), .int .u64 406]) w := by kernel_rfl
theorem partsAP (a : Addr) (w : World) : (ReflectliteValue.parts (.agg #[.pointer (some ⟨1, 124, none⟩), .pointer (some a), .int .u64 406])).run Tryd.prog w = .ok (some (124, a, 406)) w := by kernel_rfl
theorem partsP (a : Addr) (w : World) : (ReflectliteValue.parts (.agg #[.pointer (some ⟨1, 124, none⟩), .pointer (some a), .int .u64 150])).run Tryd.prog w = .ok (some (124, a, 150)) w := by kernel_rfl
theorem directP (w : World) : (Rtype.directlyAssignable 124 124).run Tryd.prog w = .ok true w := by kernel_rfl
theorem typeOfP (v : Value) (w : World) : (callFunc 66 #[.iface 124 v]).run Tryd.prog w = .ok (.value (.iface 104 (.agg #[.pointer (some ⟨1, 124, none⟩)]))) (w) := by rw [extTypeOf]; kernel_rfl
theorem valueOfP (e : Addr) (w : World) : (callFunc 54 #[.iface 124 (.pointer (some e))]).run Tryd.prog w = .ok (.value (.agg #[.pointer (some ⟨1, 124, none⟩), .pointer (some ⟨w.heap.size, 0, none⟩), .int .u64 150])) (w.alloc (.cells #[.pointer (some e)] 124)) := by rw [extValueOf]; kernel_rfl
theorem setP (t b : Nat) (e : Addr) (o1 : Value) (w : World) (hb : w.cell? ⟨b, 0, none⟩ = some (.pointer (some e))) (ht : w.cell? ⟨t, 0, none⟩ = some o1) (hf : w.frozen? ⟨t, 0, none⟩ = false) :
    (callFunc 69 #[.agg #[.pointer (some ⟨1, 124, none⟩), .pointer (some ⟨t, 0, none⟩), .int .u64 406], .agg #[.pointer (some ⟨1, 124, none⟩), .pointer (some ⟨b, 0, none⟩), .int .u64 150]]).run Tryd.prog w = .ok (.value (.tuple #[])) (w.setCell ⟨t, 0, none⟩ (.pointer (some e))) := by
  rw [extSet]
  show (Sem.run Tryd.prog (bind (ReflectliteValue.parts (.agg #[.pointer (some ⟨1, 124, none⟩), .pointer (some ⟨t, 0, none⟩), .int .u64 406])) (fun _ => bind (ReflectliteValue.parts (.agg #[.pointer (some ⟨1, 124, none⟩), .pointer (some ⟨b, 0, none⟩), .int .u64 150])) _)) w).andThen _ = _
  simp only [Sem.run_bind, partsAP, partsP, Result.andThen]
  simp [ReflectliteValue.flagAddr, loadVar, isAgg, underlying, Tryd.underlying124, Result.andThen, directP, storeVar, go_sem, hb, ht, hf]
theorem assignEP (w : World) : (callFunc 103 #[.agg #[.pointer (some ⟨1, 25, none⟩)], .iface 104 (.agg #[.pointer (some ⟨1, 124, none⟩)])]).run Tryd.prog w = .ok (.value (.bool false)) (w) := by rw [extAssignableTo]; kernel_rfl
theorem assignPP (w : World) : (callFunc 103 #[.agg #[.pointer (some ⟨1, 124, none⟩)], .iface 104 (.agg #[.pointer (some ⟨1, 124, none⟩)])]).run Tryd.prog w = .ok (.value (.bool true)) (w) := by rw [extAssignableTo]; kernel_rfl
/-! ### methods -/
theorem methodKind (h : Value) (w : World) : (Go.method 257 104 (.agg #[h]) "Kind").run Tryd.prog w = .ok (95, h) w := by kernel_rfl
theorem methodElem (h : Value) (w : World) : (Go.method 257 104 (.agg #[h]) "Elem").run Tryd.prog w = .ok (105, .agg #[h]) w := by kernel_rfl
theorem methodImplements (h : Value) (w : World) : (Go.method 257 104 (.agg #[h]) "Implements").run Tryd.prog w = .ok (106, .agg #[h]) w := by kernel_rfl
theorem methodAssignableTo (h : Value) (w : World) : (Go.method 257 104 (.agg #[h]) "AssignableTo").run Tryd.prog w = .ok (103, .agg #[h]) w := by kernel_rfl
theorem methodComparable (h : Value) (w : World) : (Go.method 257 104 (.agg #[h]) "Comparable").run Tryd.prog w = .ok (104, .agg #[h]) w := by kernel_rfl
theorem methodUnwrap (a : Addr) (w : World) : (Go.method 257 124 (.pointer (some a)) "Unwrap").run Tryd.prog w = .ok (114, .pointer (some a)) w := by kernel_rfl
theorem comparableE (w : World) : (callFunc 104 #[.agg #[.pointer (some ⟨1, 25, none⟩)]]).run Tryd.prog w = .ok (.value (.bool true)) (w) := by kernel_rfl
/-! ### which interfaces an error has -/
theorem noAsE (v : Value) (xT : TypeId) (w : World) : (Instr.typeAssert (.iface 25 v) xT 108 true).run Tryd.prog w = .ok (.tuple #[.nilIface, .bool false]) w := run_typeAssert_lacksB Tryd.underlying108 (by kernel_rfl) (by kernel_rfl) v xT w
theorem noU1E (v : Value) (xT : TypeId) (w : World) : (Instr.typeAssert (.iface 25 v) xT 111 true).run Tryd.prog w = .ok (.tuple #[.nilIface, .bool false]) w := run_typeAssert_lacksB Tryd.underlying111 (by kernel_rfl) (by kernel_rfl) v xT w
theorem noU2E (v : Value) (xT : TypeId) (w : World) : (Instr.typeAssert (.iface 25 v) xT 113 true).run Tryd.prog w = .ok (.tuple #[.nilIface, .bool false]) w := run_typeAssert_lacksB Tryd.underlying113 (by kernel_rfl) (by kernel_rfl) v xT w
theorem noIsE (v : Value) (xT : TypeId) (w : World) : (Instr.typeAssert (.iface 25 v) xT 118 true).run Tryd.prog w = .ok (.tuple #[.nilIface, .bool false]) w := run_typeAssert_lacksB Tryd.underlying118 (by kernel_rfl) (by kernel_rfl) v xT w
theorem noAsP (v : Value) (xT : TypeId) (w : World) : (Instr.typeAssert (.iface 124 v) xT 108 true).run Tryd.prog w = .ok (.tuple #[.nilIface, .bool false]) w := run_typeAssert_lacksB Tryd.underlying108 (by kernel_rfl) (by kernel_rfl) v xT w
theorem hasU1P (v : Value) (xT : TypeId) (w : World) : (Instr.typeAssert (.iface 124 v) xT 111 true).run Tryd.prog w = .ok (.tuple #[.iface 124 v, .bool true]) w := run_typeAssert_hasB Tryd.underlying111 (by kernel_rfl) v xT w
theorem noU2P (v : Value) (xT : TypeId) (w : World) : (Instr.typeAssert (.iface 124 v) xT 113 true).run Tryd.prog w = .ok (.tuple #[.nilIface, .bool false]) w := run_typeAssert_lacksB Tryd.underlying113 (by kernel_rfl) (by kernel_rfl) v xT w
theorem noIsP (v : Value) (xT : TypeId) (w : World) : (Instr.typeAssert (.iface 124 v) xT 118 true).run Tryd.prog w = .ok (.tuple #[.nilIface, .bool false]) w := run_typeAssert_lacksB Tryd.underlying118 (by kernel_rfl) (by kernel_rfl) v xT w
end Go.Proofs.YtidomoibhjgkjaaDoor
