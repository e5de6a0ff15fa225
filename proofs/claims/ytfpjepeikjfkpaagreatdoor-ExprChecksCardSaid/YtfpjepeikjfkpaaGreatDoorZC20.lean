import Derived.Test.YtfpjepeikjfkpaaGreatDoorRows
import Derived.WalkKit
import Derived.LaidEql
import Derived.LaidEqlPtr
import Derived.Stop.Asserts
import Derived.RowKitTokens
import Derived.Lib.Hide
/-
  Closed facts on the entries that errors.As and errors.Is come to, at the types of this program: which Value a target is, which type is assignable to which, which methods an error has.
-/
namespace Go.Proofs.YtfpjepeikjfkpaaGreatDoor
open Go.RowKit Go.Extern.Stop Go.Stop Go.Extern

theorem extValueOf (args : Array Value) (w : World) : (callFunc 71 args).run Tryz.prog w = (((fun args => ReflectliteValue.unpack (args.getD 0 (.tuple #[]))) args).run Tryz.prog w).andThen fun v w => .ok (.value v) w :=
  @run_callFunc_extern Tryz.prog 71 _ (fun args => ReflectliteValue.unpack (args.getD 0 (.tuple #[]))) Tryz.func71 (by kernel_rfl) (by kernel_rfl) (by kernel_rfl) (by kernel_rfl) args w
theorem extType (args : Array Value) (w : World) : (callFunc 72 args).run Tryz.prog w = (((ReflectliteValue.methodAny (ReflectliteValue.valueError "reflectlite.Value.Type" 0) (fun t _ _ _ => ReflectliteType.toType t)) args).run Tryz.prog w).andThen fun v w => .ok (.value v) w :=
  @run_callFunc_extern Tryz.prog 72 _ (ReflectliteValue.methodAny (ReflectliteValue.valueError "reflectlite.Value.Type" 0) (fun t _ _ _ => ReflectliteType.toType t)) Tryz.func72 (by kernel_rfl) (by kernel_rfl) (by kernel_rfl) (by kernel_rfl) args w
theorem extIsNil (args : Array Value) (w : World) : (callFunc 73 args).run Tryz.prog w = (((ReflectliteValue.method (ReflectliteValue.valueError "reflectlite.Value.IsNil" 0) ReflectliteValue.isNil) args).run Tryz.prog w).andThen fun v w => .ok (.value v) w :=
  @run_callFunc_extern Tryz.prog 73 _ (ReflectliteValue.method (ReflectliteValue.valueError "reflectlite.Value.IsNil" 0) ReflectliteValue.isNil) Tryz.func73 (by kernel_rfl) (by kernel_rfl) (by kernel_rfl) (by kernel_rfl) args w
theorem extTypeOf (args : Array Value) (w : World) : (callFunc 111 args).run Tryz.prog w = (((ReflectliteType.typeOf) args).run Tryz.prog w).andThen fun v w => .ok (.value v) w :=
  @run_callFunc_extern Tryz.prog 111 _ (ReflectliteType.typeOf) Tryz.func111 (by kernel_rfl) (by kernel_rfl) (by kernel_rfl) (by kernel_rfl) args w
theorem extElemV (args : Array Value) (w : World) : (callFunc 112 args).run Tryz.prog w = (((ReflectliteValue.method (ReflectliteValue.valueError "reflectlite.Value.Elem" 0) ReflectliteValue.elem) args).run Tryz.prog w).andThen fun v w => .ok (.value v) w :=
  @run_callFunc_extern Tryz.prog 112 _ (ReflectliteValue.method (ReflectliteValue.valueError "reflectlite.Value.Elem" 0) ReflectliteValue.elem) Tryz.func112 (by kernel_rfl) (by kernel_rfl) (by kernel_rfl) (by kernel_rfl) args w
theorem extSet (args : Array Value) (w : World) : (callFunc 113 args).run Tryz.prog w = (((ReflectliteValue.set) args).run Tryz.prog w).andThen fun v w => .ok (.value v) w :=
  @run_callFunc_extern Tryz.prog 113 _ (ReflectliteValue.set) Tryz.func113 (by kernel_rfl) (by kernel_rfl) (by kernel_rfl) (by kernel_rfl) args w
theorem extKind (args : Array Value) (w : World) : (callFunc 171 args).run Tryz.prog w = (((ReflectliteType.abiMethod fun t => do pure (.int .u8 (← Rtype.kind t))) args).run Tryz.prog w).andThen fun v w => .ok (.value v) w :=
  @run_callFunc_extern Tryz.prog 171 _ (ReflectliteType.abiMethod fun t => do pure (.int .u8 (← Rtype.kind t))) Tryz.func171 (by kernel_rfl) (by kernel_rfl) (by kernel_rfl) (by kernel_rfl) args w
theorem extElemR (args : Array Value) (w : World) : (callFunc 183 args).run Tryz.prog w = (((ReflectliteType.method ReflectliteType.elem) args).run Tryz.prog w).andThen fun v w => .ok (.value v) w :=
  @run_callFunc_extern Tryz.prog 183 _ (ReflectliteType.method ReflectliteType.elem) Tryz.func183 (by kernel_rfl) (by kernel_rfl) (by kernel_rfl) (by kernel_rfl) args w
theorem extImplements (args : Array Value) (w : World) : (callFunc 184 args).run Tryz.prog w = (((ReflectliteType.relation "Implements" ReflectliteType.implements_) args).run Tryz.prog w).andThen fun v w => .ok (.value v) w :=
  @run_callFunc_extern Tryz.prog 184 _ (ReflectliteType.relation "Implements" ReflectliteType.implements_) Tryz.func184 (by kernel_rfl) (by kernel_rfl) (by kernel_rfl) (by kernel_rfl) args w
theorem extAssignableTo (args : Array Value) (w : World) : (callFunc 181 args).run Tryz.prog w = (((ReflectliteType.relation "AssignableTo" ReflectliteType.assignableTo) args).run Tryz.prog w).andThen fun v w => .ok (.value v) w :=
  @run_callFunc_extern Tryz.prog 181 _ (ReflectliteType.relation "AssignableTo" ReflectliteType.assignableTo) Tryz.func181 (by kernel_rfl) (by kernel_rfl) (by kernel_rfl) (by kernel_rfl) args w
/-! ### the target of kind E -/
theorem valueOfTE (t : Addr) (w : World) : (callFunc 71 #[.iface 71 (.pointer (some t))]).run Tryz.prog w = .ok (.value (.agg #[.pointer (some ⟨8, 71, none⟩), .pointer (some ⟨w.heap.size, 0, none⟩), .int .u64 150])) (w.alloc (.cells #[.pointer (some t)] 71)) := by rw [extValueOf]; kernel_rfl
theorem typeTE (a : Addr) (w : World) : (callFunc 72 #[.agg #[.pointer (some ⟨8, 71, none⟩), .pointer (some a), .int .u64 150]]).run Tryz.prog w = .ok (.value (.iface 136 (.agg #[.pointer (some ⟨8, 71, none⟩)]))) (w) := by rw [extType]; kernel_rfl
theorem kindTE (w : World) : (callFunc 171 #[.pointer (some ⟨8, 71, none⟩)]).run Tryz.prog w = .ok (.value (.int .u8 22)) (w) := by rw [extKind]; kernel_rfl
theorem kindE (w : World) : (callFunc 171 #[.pointer (some ⟨8, 25, none⟩)]).run Tryz.prog w = .ok (.value (.int .u8 2)) (w) := by rw [extKind]; kernel_rfl
theorem partsTE (a : Addr) (w : World) : (ReflectliteValue.parts (.agg #[.pointer (some ⟨8, 71, none⟩), .pointer (some a), .int .u64 150])).run Tryz.prog w = .ok (some (71, a, 150)) w := by kernel_rfl
theorem isNilTE (a p : Addr) (w : World) (ha : w.cell? a = some (.pointer (some p))) : (callFunc 73 #[.agg #[.pointer (some ⟨8, 71, none⟩), .pointer (some a), .int .u64 150]]).run Tryz.prog w = .ok (.value (.bool false)) w := by
  rw [extIsNil]
  show (Sem.run Tryz.prog (bind (ReflectliteValue.parts (.agg #[.pointer (some ⟨8, 71, none⟩), .pointer (some a), .int .u64 150])) _) w).andThen _ = _
  simp only [Sem.run_bind, partsTE, Result.andThen]
  simp [ReflectliteValue.isNil, loadVar, isAgg, underlying, Tryz.underlying71, ha, Result.andThen]
theorem elemTE (w : World) : (callFunc 183 #[.agg #[.pointer (some ⟨8, 71, none⟩)]]).run Tryz.prog w = .ok (.value (.iface 136 (.agg #[.pointer (some ⟨8, 25, none⟩)]))) (w) := by rw [extElemR]; kernel_rfl
theorem implementsE (w : World) : (callFunc 184 #[.agg #[.pointer (some ⟨8, 25, none⟩)], .iface 136 (.agg #[.pointer (some ⟨8, 34, none⟩)])]).run Tryz.prog w = .ok (.value (.bool true)) (w) := by rw [extImplements]; kernel_rfl
theorem elemOfTE (w : World) : (Rtype.elem? 71).run Tryz.prog w = .ok (some 25) w := by kernel_rfl
theorem mkE (p : Addr) (w : World) : (ReflectliteValue.mk 25 p ReflectliteValue.flagAddr).run Tryz.prog w = .ok (.agg #[.pointer (some ⟨8, 25, none⟩), .pointer (some p), .int .u64 386]) w := by kernel_rfl
theorem elemVE (a p : Addr) (w : World) (ha : w.cell? a = some (.pointer (some p))) : (callFunc 112 #[.agg #[.pointer (some ⟨8, 71, none⟩), .pointer (some a), .int .u64 150]]).run Tryz.prog w = .ok (.value (.agg #[.pointer (some ⟨8, 25, none⟩), .pointer (some p), .int .u64 386])) w := by
  rw [extElemV]
  show (Sem.run Tryz.prog (bind (ReflectliteValue.parts (.agg #[.pointer (some ⟨8, 71, none⟩), .pointer (some a), .int .u64 150])) _) w).andThen _ = _
  simp only [Sem.run_bind, partsTE, Result.andThen]
  simp [ReflectliteValue.elem, loadVar, isAgg, underlying, Tryz.underlying71, ha, Result.andThen, elemOfTE, mkE]
theorem partsAE (a : Addr) (w : World) : (ReflectliteValue.parts (.agg #[.pointer (some ⟨8, 25, none⟩), .pointer (some a), .int .u64 386])).run Tryz.prog w = .ok (some (25, a, 386)) w := by kernel_rfl
theorem partsE (a : Addr) (w : World) : (ReflectliteValue.parts (.agg #[.pointer (some ⟨8, 25, none⟩), .pointer (some a), .int .u64 130])).run Tryz.prog w = .ok (some (25, a, 130)) w := by kernel_rfl
theorem directE (w : World) : (Rtype.directlyAssignable 25 25).run Tryz.prog w = .ok true w := by kernel_rfl
theorem typeOfE (v : Value) (w : World) : (callFunc 111 #[.iface 25 v]).run Tryz.prog w = .ok (.value (.iface 136 (.agg #[.pointer (some ⟨8, 25, none⟩)]))) (w) := by rw [extTypeOf]; kernel_rfl
theorem valueOfE (n : Int) (w : World) : (callFunc 71 #[.iface 25 (.int .i64 n)]).run Tryz.prog w = .ok (.value (.agg #[.pointer (some ⟨8, 25, none⟩), .pointer (some ⟨w.heap.size, 0, none⟩), .int .u64 130])) (w.alloc (.cells #[.int .i64 n] 25)) := by rw [extValueOf]; kernel_rfl
theorem setE (t b : Nat) (n : Int) (o1 : Value) (w : World) (hb : w.cell? ⟨b, 0, none⟩ = some (.int .i64 n)) (ht : w.cell? ⟨t, 0, none⟩ = some o1) (hf : w.frozen? ⟨t, 0, none⟩ = false) :
    (callFunc 113 #[.agg #[.pointer (some ⟨8, 25, none⟩), .pointer (some ⟨t, 0, none⟩), .int .u64 386], .agg #[.pointer (some ⟨8, 25, none⟩), .pointer (some ⟨b, 0, none⟩), .int .u64 130]]).run Tryz.prog w = .ok (.value (.tuple #[])) (w.setCell ⟨t, 0, none⟩ (.int .i64 n)) := by
  rw [extSet]
  show (Sem.run Tryz.prog (bind (ReflectliteValue.parts (.agg #[.pointer (some ⟨8, 25, none⟩), .pointer (some ⟨t, 0, none⟩), .int .u64 386])) (fun _ => bind (ReflectliteValue.parts (.agg #[.pointer (some ⟨8, 25, none⟩), .pointer (some ⟨b, 0, none⟩), .int .u64 130])) _)) w).andThen _ = _
  simp only [Sem.run_bind, partsAE, partsE, Result.andThen]
  simp [ReflectliteValue.flagAddr, loadVar, isAgg, underlying, Tryz.underlying25, Result.andThen, directE, storeVar, go_sem, hb, ht, hf]
theorem assignEE (w : World) : (callFunc 181 #[.agg #[.pointer (some ⟨8, 25, none⟩)], .iface 136 (.agg #[.pointer (some ⟨8, 25, none⟩)])]).run Tryz.prog w = .ok (.value (.bool true)) (w) := by rw [extAssignableTo]; kernel_rfl
theorem assignPE (w : World) : (callFunc 181 #[.agg #[.pointer (some ⟨8, 90, none⟩)], .iface 136 (.agg #[.pointer (some ⟨8, 25, none⟩)])]).run Tryz.prog w = .ok (.value (.bool false)) (w) := by rw [extAssignableTo]; kernel_rfl
/-! ### the target of kind P -/
theorem valueOfTP (t : Addr) (w : World) : (callFunc 71 #[.iface 106 (.pointer (some t))]).run Tryz.prog w = .ok (.value (.agg #[.pointer (some ⟨8, 106, none⟩), .pointer (some ⟨w.heap.size, 0, none⟩), .int .u64 150])) (w.alloc (.cells #[.pointer (some t)] 106)) := by rw [extValueOf]; kernel_rfl
theorem typeTP (a : Addr) (w : World) : (callFunc 72 #[.agg #[.pointer (some ⟨8, 106, none⟩), .pointer (some a), .int .u64 150]]).run Tryz.prog w = .ok (.value (.iface 136 (.agg #[.pointer (some ⟨8, 106, none⟩)]))) (w) := by rw [extType]; kernel_rfl
theorem kindTP (w : World) : (callFunc 171 #[.pointer (some ⟨8, 106, none⟩)]).run Tryz.prog w = .ok (.value (.int .u8 22)) (w) := by rw [extKind]; kernel_rfl
theorem kindP (w : World) : (callFunc 171 #[.pointer (some ⟨8, 90, none⟩)]).run Tryz.prog w = .ok (.value (.int .u8 22)) (w) := by rw [extKind]; kernel_rfl
theorem partsTP (a : Addr) (w : World) : (ReflectliteValue.parts (.agg #[.pointer (some ⟨8, 106, none⟩), .pointer (some a), .int .u64 150])).run Tryz.prog w = .ok (some (106, a, 150)) w := by kernel_rfl
theorem isNilTP (a p : Addr) (w : World) (ha : w.cell? a = some (.pointer (some p))) : (callFunc 73 #[.agg #[.pointer (some ⟨8, 106, none⟩), .pointer (some a), .int .u64 150]]).run Tryz.prog w = .ok (.value (.bool false)) w := by
  rw [extIsNil]
  show (Sem.run Tryz.prog (bind (ReflectliteValue.parts (.agg #[.pointer (some ⟨8, 106, none⟩), .pointer (some a), .int .u64 150])) _) w).andThen _ = _
  simp only [Sem.run_bind, partsTP, Result.andThen]
  simp [ReflectliteValue.isNil, loadVar, isAgg, underlying, Tryz.underlying106, ha, Result.andThen]
theorem elemTP (w : World) : (callFunc 183 #[.agg #[.pointer (some ⟨8, 106, none⟩)]]).run Tryz.prog w = .ok (.value (.iface 136 (.agg #[.pointer (some ⟨8, 90, none⟩)]))) (w) := by rw [extElemR]; kernel_rfl
theorem implementsP (w : World) : (callFunc 184 #[.agg #[.pointer (some ⟨8, 90, none⟩)], .iface 136 (.agg #[.pointer (some ⟨8, 34, none⟩)])]).run Tryz.prog w = .ok (.value (.bool true)) (w) := by rw [extImplements]; kernel_rfl
theorem elemOfTP (w : World) : (Rtype.elem? 106).run Tryz.prog w = .ok (some 90) w := by kernel_rfl
theorem mkP (p : Addr) (w : World) : (ReflectliteValue.mk 90 p ReflectliteValue.flagAddr).run Tryz.prog w = .ok (.agg #[.pointer (some ⟨8, 90, none⟩), .pointer (some p), .int .u64 406]) w := by kernel_rfl
theorem elemVP (a p : Addr) (w : World) (ha : w.cell? a = some (.pointer (some p))) : (callFunc 112 #[.agg #[.pointer (some ⟨8, 106, none⟩), .pointer (some a), .int .u64 150]]).run Tryz.prog w = .ok (.value (.agg #[.pointer (some ⟨8, 90, none⟩), .pointer (some p), .int .u64 406])) w := by
  rw [extElemV]
  show (Sem.run Tryz.prog (bind (ReflectliteValue.parts (.agg #[.pointer (some ⟨8, 106, none⟩), .pointer (some a), .int .u64 150])) _) w).andThen _ = _
  simp only [Sem.run_bind, partsTP, Result.andThen]
  simp [ReflectliteValue.elem, loadVar, isAgg, underlying, Tryz.underlying106, ha, Result.andThen, elemOfTP, mkP]
theorem partsAP (a : Addr) (w : World) : (ReflectliteValue.parts (.agg #[.pointer (some ⟨8, 90, none⟩), .pointer (some a), .int .u64 406])).run Tryz.prog w = .ok (some (90, a, 406)) w := by kernel_rfl
theorem partsP (a : Addr) (w : World) : (ReflectliteValue.parts (.agg #[.pointer (some ⟨8, 90, none⟩), .pointer (some a), .int .u64 150])).run Tryz.prog w = .ok (some (90, a, 150)) w := by kernel_rfl
theorem directP (w : World) : (Rtype.directlyAssignable 90 90).run Tryz.prog w = .ok true w := by kernel_rfl
theorem typeOfP (v : Value) (w : World) : (callFunc 111 #[.iface 90 v]).run Tryz.prog w = .ok (.value (.iface 136 (.agg #[.pointer (some ⟨8, 90, none⟩)]))) (w) := by rw [extTypeOf]; kernel_rfl
theorem valueOfP (e : Addr) (w : World) : (callFunc 71 #[.iface 90 (.pointer (some e))]).run Tryz.prog w = .ok (.value (.agg #[.pointer (some ⟨8, 90, none⟩), .pointer (some ⟨w.heap.size, 0, none⟩), .int .u64 150])) (w.alloc (.cells #[.pointer (some e)] 90)) := by rw [extValueOf]; kernel_rfl
theorem setP (t b : Nat) (e : Addr) (o1 : Value) (w : World) (hb : w.cell? ⟨b, 0, none⟩ = some (.pointer (some e))) (ht : w.cell? ⟨t, 0, none⟩ = some o1) (hf : w.frozen? ⟨t, 0, none⟩ = false) :
    (callFunc 113 #[.agg #[.pointer (some ⟨8, 90, none⟩), .pointer (some ⟨t, 0, none⟩), .int .u64 406], .agg #[.pointer (some ⟨8, 90, none⟩), .pointer (some ⟨b, 0, none⟩), .int .u64 150]]).run Tryz.prog w = .ok (.value (.tuple #[])) (w.setCell ⟨t, 0, none⟩ (.pointer (some e))) := by
  rw [extSet]
  show (Sem.run Tryz.prog (bind (ReflectliteValue.parts (.agg #[.pointer (some ⟨8, 90, none⟩), .pointer (some ⟨t, 0, none⟩), .int .u64 406])) (fun _ => bind (ReflectliteValue.parts (.agg #[.pointer (some ⟨8, 90, none⟩), .pointer (some ⟨b, 0, none⟩), .int .u64 150])) _)) w).andThen _ = _
  simp only [Sem.run_bind, partsAP, partsP, Result.andThen]
  simp [ReflectliteValue.flagAddr, loadVar, isAgg, underlying, Tryz.underlying90, Result.andThen, directP, storeVar, go_sem, hb, ht, hf]
theorem assignEP (w : World) : (callFunc 181 #[.agg #[.pointer (some ⟨8, 25, none⟩)], .iface 136 (.agg #[.pointer (some ⟨8, 90, none⟩)])]).run Tryz.prog w = .ok (.value (.bool false)) (w) := by rw [extAssignableTo]; kernel_rfl
theorem assignPP (w : World) : (callFunc 181 #[.agg #[.pointer (some ⟨8, 90, none⟩)], .iface 136 (.agg #[.pointer (some ⟨8, 90, none⟩)])]).run Tryz.prog w = .ok (.value (.bool true)) (w) := by rw [extAssignableTo]; kernel_rfl
/-! ### methods -/
theorem methodKind (h : Value) (w : World) : (Go.method 321 136 (.agg #[h]) "Kind").run Tryz.prog w = .ok (171, h) w := by kernel_rfl
theorem methodElem (h : Value) (w : World) : (Go.method 321 136 (.agg #[h]) "Elem").run Tryz.prog w = .ok (183, .agg #[h]) w := by kernel_rfl
theorem methodImplements (h : Value) (w : World) : (Go.method 321 136 (.agg #[h]) "Implements").run Tryz.prog w = .ok (184, .agg #[h]) w := by kernel_rfl
theorem methodAssignableTo (h : Value) (w : World) : (Go.method 321 136 (.agg #[h]) "AssignableTo").run Tryz.prog w = .ok (181, .agg #[h]) w := by kernel_rfl
theorem methodComparable (h : Value) (w : World) : (Go.method 321 136 (.agg #[h]) "Comparable").run Tryz.prog w = .ok (182, .agg #[h]) w := by kernel_rfl
theorem methodUnwrap (a : Addr) (w : World) : (Go.method 321 90 (.pointer (some a)) "Unwrap").run Tryz.prog w = .ok (176, .pointer (some a)) w := by kernel_rfl
theorem comparableE (w : World) : (callFunc 182 #[.agg #[.pointer (some ⟨8, 25, none⟩)]]).run Tryz.prog w = .ok (.value (.bool true)) (w) := by kernel_rfl
/-! ### which interfaces an error has -/
theorem noAsE (v : Value) (xT : TypeId) (w : World) : (Instr.typeAssert (.iface 25 v) xT 141 true).run Tryz.prog w = .ok (.tuple #[.nilIface, .bool false]) w := run_typeAssert_lacksB Tryz.underlying141 (by kernel_rfl) (by kernel_rfl) v xT w
theorem noU1E (v : Value) (xT : TypeId) (w : World) : (Instr.typeAssert (.iface 25 v) xT 144 true).run Tryz.prog w = .ok (.tuple #[.nilIface, .bool false]) w := run_typeAssert_lacksB Tryz.underlying144 (by kernel_rfl) (by kernel_rfl) v xT w
theorem noU2E (v : Value) (xT : TypeId) (w : World) : (Instr.typeAssert (.iface 25 v) xT 146 true).run Tryz.prog w = .ok (.tuple #[.nilIface, .bool false]) w := run_typeAssert_lacksB Tryz.underlying146 (by kernel_rfl) (by kernel_rfl) v xT w
theorem noAsP (v : Value) (xT : TypeId) (w : World) : (Instr.typeAssert (.iface 90 v) xT 141 true).run Tryz.prog w = .ok (.tuple #[.nilIface, .bool false]) w := run_typeAssert_lacksB Tryz.underlying141 (by kernel_rfl) (by kernel_rfl) v xT w
theorem hasU1P (v : Value) (xT : TypeId) (w : World) : (Instr.typeAssert (.iface 90 v) xT 144 true).run Tryz.prog w = .ok (.tuple #[.iface 90 v, .bool true]) w := run_typeAssert_hasB Tryz.underlying144 (by kernel_rfl) v xT w
theorem noU2P (v : Value) (xT : TypeId) (w : World) : (Instr.typeAssert (.iface 90 v) xT 146 true).run Tryz.prog w = .ok (.tuple #[.nilIface, .bool false]) w := run_typeAssert_lacksB Tryz.underlying146 (by kernel_rfl) (by kernel_rfl) v xT w
end Go.Proofs.YtfpjepeikjfkpaaGreatDoor
