import Derived.Test.YtidomoibhjgkjaaGreatDoorRows
import Derived.WalkKit
import Derived.LaidEql
import Derived.LaidEqlPtr
import Derived.Stop.Asserts
import Derived.RowKitTokens
import Derived.Lib.Hide
/-
  Closed facts on the entries that errors.As and errors.Is come to, at the types of this program: which Value a target is, which type is assignable to which, which methods an error has.
-/
namespace Go.Proofs.YtidomoibhjgkjaaGreatDoor
open Go.RowKit Go.Extern.Stop Go.Stop Go.Extern

theorem extValueOf (args : Array Value) (w : World) : (callFunc 70 args).run Tryz.prog w = (((fun args => ReflectliteValue.unpack (args.getD 0 (.tuple #[]))) args).run Tryz.prog w).andThen fun v w => .ok (.value v) w :=
  @run_callFunc_extern Tryz.prog 70 _ (fun args => ReflectliteValue.unpack (args.getD 0 (.tuple #[]))) Tryz.func70 (by kernel_rfl) (by kernel_rfl) (by kernel_rfl) (by kernel_rfl) args w
theorem extType (args : Array Value) (w : World) : (callFunc 71 args).run Tryz.prog w = (((ReflectliteValue.methodAny (ReflectliteValue.valueError "reflectlite.Value.Type" 0) (fun t _ _ _ => ReflectliteType.toType t)) args).run Tryz.prog w).andThen fun v w => .ok (.value v) w :=
  @run_callFunc_extern Tryz.prog 71 _ (ReflectliteValue.methodAny (ReflectliteValue.valueError "reflectlite.Value.Type" 0) (fun t _ _ _ => ReflectliteType.toType t)) Tryz.func71 (by kernel_rfl) (by kernel_rfl) (by kernel_rfl) (by kernel_rfl) args w
theorem extIsNil (args : Array Value) (w : World) : (callFunc 72 args).run Tryz.prog w = (((ReflectliteValue.method (ReflectliteValue.valueError "reflectlite.Value.IsNil" 0) ReflectliteValue.isNil) args).run Tryz.prog w).andThen fun v w => .ok (.value v) w :=
  @run_callFunc_extern Tryz.prog 72 _ (ReflectliteValue.method (ReflectliteValue.valueError "reflectlite.Value.IsNil" 0) ReflectliteValue.isNil) Tryz.func72 (by kernel_rfl) (by kernel_rfl) (by kernel_rfl) (by kernel_rfl) args w
theorem extTypeOf (args : Array Value) (w : World) : (callFunc 87 args).run Tryz.prog w = (((ReflectliteType.typeOf) args).run Tryz.prog w).andThen fun v w => .ok (.value v) w :=
  @run_callFunc_extern Tryz.prog 87 _ (ReflectliteType.typeOf) Tryz.func87 (by kernel_rfl) (by kernel_rfl) (by kernel_rfl) (by kernel_rfl) args w
theorem extElemV (args : Array Value) (w : World) : (callFunc 108 args).run Tryz.prog w = (((ReflectliteValue.method (ReflectliteValue.valueError "reflectlite.Value.Elem" 0) ReflectliteValue.elem) args).run Tryz.prog w).andThen fun v w => .ok (.value v) w :=
  @run_callFunc_extern Tryz.prog 108 _ (ReflectliteValue.method (ReflectliteValue.valueError "reflectlite.Value.Elem" 0) ReflectliteValue.elem) Tryz.func108 (by kernel_rfl) (by kernel_rfl) (by kernel_rfl) (by kernel_rfl) args w
theorem extSet (args : Array Value) (w : World) : (callFunc 109 args).run Tryz.prog w = (((ReflectliteValue.set) args).run Tryz.prog w).andThen fun v w => .ok (.value v) w :=
  @run_callFunc_extern Tryz.prog 109 _ (ReflectliteValue.set) Tryz.func109 (by kernel_rfl) (by kernel_rfl) (by kernel_rfl) (by kernel_rfl) args w
theorem extKind (args : Array Value) (w : World) : (callFunc 162 args).run Tryz.prog w = (((ReflectliteType.abiMethod fun t => do pure (.int .u8 (← Rtype.kind t))) args).run Tryz.prog w).andThen fun v w => .ok (.value v) w :=
  @run_callFunc_extern Tryz.prog 162 _ (ReflectliteType.abiMethod fun t => do pure (.int .u8 (← Rtype.kind t))) Tryz.func162 (by kernel_rfl) (by kernel_rfl) (by kernel_rfl) (by kernel_rfl) args w
theorem extElemR (args : Array Value) (w : World) : (callFunc 176 args).run Tryz.prog w = (((ReflectliteType.method ReflectliteType.elem) args).run Tryz.prog w).andThen fun v w => .ok (.value v) w :=
  @run_callFunc_extern Tryz.prog 176 _ (ReflectliteType.method ReflectliteType.elem) Tryz.func176 (by kernel_rfl) (by kernel_rfl) (by kernel_rfl) (by kernel_rfl) args w
theorem extImplements (args : Array Value) (w : World) : (callFunc 177 args).run Tryz.prog w = (((ReflectliteType.relation "Implements" ReflectliteType.implements_) args).run Tryz.prog w).andThen fun v w => .ok (.value v) w :=
  @run_callFunc_extern Tryz.prog 177 _ (ReflectliteType.relation "Implements" ReflectliteType.implements_) Tryz.func177 (by kernel_rfl) (by kernel_rfl) (by kernel_rfl) (by kernel_rfl) args w
theorem extAssignableTo (args : Array Value) (w : World) : (callFunc 174 args).run Tryz.prog w = (((ReflectliteType.relation "AssignableTo" ReflectliteType.assignableTo) args).run Tryz.prog w).andThen fun v w => .ok (.value v) w :=
  @run_callFunc_extern Tryz.prog 174 _ (ReflectliteType.relation "AssignableTo" ReflectliteType.assignableTo) Tryz.func174 (by kernel_rfl) (by kernel_rfl) (by kernel_rfl) (by kernel_rfl) args w
/-! ### the target of kind E -/
theorem valueOfTE (t : Addr) (w : World) : (callFunc 70 #[.iface 80 (.pointer (some t))]).run Tryz.prog w = .ok (.value (.agg #[.pointer (some ⟨5, 80, none⟩), .pointer (some ⟨w.heap.size, 0, none⟩), .int .u64 150])) (w.alloc (.cells #[.pointer (some t)] 80)) := by rw [extValueOf]; kernel_rfl
theorem typeTE (a : Addr) (w : World) : (callFunc 71 #[.agg #[.pointer (some ⟨5, 80, none⟩), .pointer (some a), .int .u64 150]]).run Tryz.prog w = .ok (.value (.iface 156 (.agg #[.pointer (some ⟨5, 80, none⟩)]))) (w) := by rw [extType]; kernel_rfl
theorem kindTE (w : World) : (callFunc 162 #[.pointer (some ⟨5, 80, none⟩)]).run Tryz.prog w = .ok (.value (.int .u8 22)) (w) := by rw [extKind]; kernel_rfl
theorem kindE (w : World) : (callFunc 162 #[.pointer (some ⟨5, 33, none⟩)]).run Tryz.prog w = .ok (.value (.int .u8 2)) (w) := by rw [extKind]; kernel_rfl
theorem partsTE (a : Addr) (w : World) : (ReflectliteValue.parts (.agg #[.pointer (some ⟨5, 80, none⟩), .pointer (some a), .int .u64 150])).run Tryz.prog w = .ok (some (80, a, 150)) w := by kernel_rfl
theorem isNilTE (a p : Addr) (w : World) (ha : w.cell? a = some (.pointer (some p))) : (callFunc 72 #[.agg #[.pointer (some ⟨5, 80, none⟩), .pointer (some a), .int .u64 150]]).run Tryz.prog w = .ok (.value (.bool false)) w := by
  rw [extIsNil]
  show (Sem.run Tryz.prog (bind (ReflectliteValue.parts (.agg #[.pointer (some ⟨5, 80, none⟩), .pointer (some a), .int .u64 150])) _) w).andThen _ = _
  simp only [Sem.run_bind, partsTE, Result.andThen]
  simp [ReflectliteValue.isNil, loadVar, isAgg, underlying, Tryz.underlying80, ha, Result.andThen]
theorem elemTE (w : World) : (callFunc 176 #[.agg #[.pointer (some ⟨5, 80, none⟩)]]).run Tryz.prog w = .ok (.value (.iface 156 (.agg #[.pointer (some ⟨5, 33, none⟩)]))) (w) := by rw [extElemR]; kernel_rfl
theorem implementsE (w : World) : (callFunc 177 #[.agg #[.pointer (some ⟨5, 33, none⟩)], .iface 156 (.agg #[.pointer (some ⟨5, 29, none⟩)])]).run Tryz.prog w = .ok (.value (.bool true)) (w) := by rw [extImplements]; kernel_rfl
theorem elemOfTE (w : World) : (Rtype.elem? 80).run Tryz.prog w = .ok (some 33) w := by kernel_rfl
theorem mkE (p : Addr) (w : World) : (ReflectliteValue.mk 33 p ReflectliteValue.flagAddr).run Tryz.prog w = .ok (.agg #[.pointer (some ⟨5, 33, none⟩), .pointer (some p), .int .u64 386]) w := by kernel_rfl
theorem elemVE (a p : Addr) (w : World) (ha : w.cell? a = some (.pointer (some p))) : (callFunc 108 #[.agg #[.pointer (some ⟨5, 80, none⟩), .pointer (some a), .int .u64 150]]).run Tryz.prog w = .ok (.value (.agg #[.pointer (some ⟨5, 33, none⟩), .pointer (some p), .int .u64 386])) w := by
  rw [extElemV]
  show (Sem.run Tryz.prog (bind (ReflectliteValue.parts (.agg #[.pointer (some ⟨5, 80, none⟩), .pointer (some a), .int .u64 150])) _) w).andThen _ = _
  simp only [Sem.run_bind, partsTE, Result.andThen]
  simp [ReflectliteValue.elem, loadVar, isAgg, underlying, Tryz.underlying80, ha, Result.andThen, elemOfTE, mkE]
theorem partsAE (a : Addr) (w : World) : (ReflectliteValue.parts (.agg #[.pointer (some ⟨5, 33, none⟩), .pointer (some a), .int .u64 386])).run Tryz.prog w = .ok (some (33, a, 386)) w := by kernel_rfl
theorem partsE (a : Addr) (w : World) : (ReflectliteValue.parts (.agg #[.pointer (some ⟨5, 33, none⟩), .pointer (some a), .int .u64 130])).run Tryz.prog w = .ok (some (33, a, 130)) w := by kernel_rfl
theorem directE (w : World) : (Rtype.directlyAssignable 33 33).run Tryz.prog w = .ok true w := by kernel_rfl
theorem typeOfE (v : Value) (w : World) : (callFunc 87 #[.iface 33 v]).run Tryz.prog w = .ok (.value (.iface 156 (.agg #[.pointer (some ⟨5, 33, none⟩)]))) (w) := by rw [extTypeOf]; kernel_rfl
theorem valueOfE (n : Int) (w : World) : (callFunc 70 #[.iface 33 (.int .i64 n)]).run Tryz.prog w = .ok (.value (.agg #[.pointer (some ⟨5, 33, none⟩), .pointer (some ⟨w.heap.size, 0, none⟩), .int .u64 130])) (w.alloc (.cells #[.int .i64 n] 33)) := by rw [extValueOf]; kernel_rfl
theorem setE (t b : Nat) (n : Int) (o1 : Value) (w : World) (hb : w.cell? ⟨b, 0, none⟩ = some (.int .i64 n)) (ht : w.cell? ⟨t, 0, none⟩ = some o1) (hf : w.frozen? ⟨t, 0, none⟩ = false) :
    (callFunc 109 #[.agg #[.pointer (some ⟨5, 33, none⟩), .pointer (some ⟨t, 0, none⟩), .int .u64 386], .agg #[.pointer (some ⟨5, 33, none⟩), .pointer (some ⟨b, 0, none⟩), .int .u64 130]]).run Tryz.prog w = .ok (.value (.tuple #[])) (w.setCell ⟨t, 0, none⟩ (.int .i64 n)) := by
  rw [extSet]
  show (Sem.run Tryz.prog (bind (ReflectliteValue.parts (.agg #[.pointer (some ⟨5, 33, none⟩), .pointer (some ⟨t, 0, none⟩), .int .u64 386])) (fun _ => bind (ReflectliteValue.parts (.agg #[.pointer (some ⟨5, 33, none⟩), .pointer (some ⟨b, 0, none⟩), .int .u64 130])) _)) w).andThen _ = _
  simp only [Sem.run_bind, partsAE, partsE, Result.andThen]
  simp [ReflectliteValue.flagAddr, loadVar, isAgg, underlying, Tryz.underlying33, Result.andThen, directE, storeVar, go_sem, hb, ht, hf]
theorem assignEE (w : World) : (callFunc 174 #[.agg #[.pointer (some ⟨5, 33, none⟩)], .iface 156 (.agg #[.pointer (some ⟨5, 33, none⟩)])]).run Tryz.prog w = .ok (.value (.bool true)) (w) := by rw [extAssignableTo]; kernel_rfl
theorem assignNE (w : World) : (callFunc 174 #[.agg #[.pointer (some ⟨5, 35, none⟩)], .iface 156 (.agg #[.pointer (some ⟨5, 33, none⟩)])]).run Tryz.prog w = .ok (.value (.bool false)) (w) := by rw [extAssignableTo]; kernel_rfl
theorem assignPE (w : World) : (callFunc 174 #[.agg #[.pointer (some ⟨5, 117, none⟩)], .iface 156 (.agg #[.pointer (some ⟨5, 33, none⟩)])]).run Tryz.prog w = .ok (.value (.bool false)) (w) := by rw [extAssignableTo]; kernel_rfl
/-! ### the target of kind N -/
theorem valueOfTN (t : Addr) (w : World) : (callFunc 70 #[.iface 96 (.pointer (some t))]).run Tryz.prog w = .ok (.value (.agg #[.pointer (some ⟨5, 96, none⟩), .pointer (some ⟨w.heap.size, 0, none⟩), .int .u64 150])) (w.alloc (.cells #[.pointer (some t)] 96)) := by rw [extValueOf]; kernel_rfl
theorem typeTN (a : Addr) (w : World) : (callFunc 71 #[.agg #[.pointer (some ⟨5, 96, none⟩), .pointer (some a), .int .u64 150]]).run Tryz.prog w = .ok (.value (.iface 156 (.agg #[.pointer (some ⟨5, 96, none⟩)]))) (w) := by rw [extType]; kernel_rfl
theorem kindTN (w : World) : (callFunc 162 #[.pointer (some ⟨5, 96, none⟩)]).run Tryz.prog w = .ok (.value (.int .u8 22)) (w) := by rw [extKind]; kernel_rfl
theorem kindN (w : World) : (callFunc 162 #[.pointer (some ⟨5, 35, none⟩)]).run Tryz.prog w = .ok (.value (.int .u8 25)) (w) := by rw [extKind]; kernel_rfl
theorem partsTN (a : Addr) (w : World) : (ReflectliteValue.parts (.agg #[.pointer (some ⟨5, 96, none⟩), .pointer (some a), .int .u64 150])).run Tryz.prog w = .ok (some (96, a, 150)) w := by kernel_rfl
theorem isNilTN (a p : Addr) (w : World) (ha : w.cell? a = some (.pointer (some p))) : (callFunc 72 #[.agg #[.pointer (some ⟨5, 96, none⟩), .pointer (some a), .int .u64 150]]).run Tryz.prog w = .ok (.value (.bool false)) w := by
  rw [extIsNil]
  show (Sem.run Tryz.prog (bind (ReflectliteValue.parts (.agg #[.pointer (some ⟨5, 96, none⟩), .pointer (some a), .int .u64 150])) _) w).andThen _ = _
  simp only [Sem.run_bind, partsTN, Result.andThen]
  simp [ReflectliteValue.isNil, loadVar, isAgg, underlying, Tryz.underlying96, ha, Result.andThen]
theorem elemTN (w : World) : (callFunc 176 #[.agg #[.pointer (some ⟨5, 96, none⟩)]]).run Tryz.prog w = .ok (.value (.iface 156 (.agg #[.pointer (some ⟨5, 35, none⟩)]))) (w) := by rw [extElemR]; kernel_rfl
theorem implementsN (w : World) : (callFunc 177 #[.agg #[.pointer (some ⟨5, 35, none⟩)], .iface 156 (.agg #[.pointer (some ⟨5, 29, none⟩)])]).run Tryz.prog w = .ok (.value (.bool true)) (w) := by rw [extImplements]; kernel_rfl
theorem elemOfTN (w : World) : (Rtype.elem? 96).run Tryz.prog w = .ok (some 35) w := by kernel_rfl
theorem mkN (p : Addr) (w : World) : (ReflectliteValue.mk 35 p ReflectliteValue.flagAddr).run Tryz.prog w = .ok (.agg #[.pointer (some ⟨5, 35, none⟩), .pointer (some p), .int .u64 409]) w := by kernel_rfl
theorem elemVN (a p : Addr) (w : World) (ha : w.cell? a = some (.pointer (some p))) : (callFunc 108 #[.agg #[.pointer (some ⟨5, 96, none⟩), .pointer (some a), .int .u64 150]]).run Tryz.prog w = .ok (.value (.agg #[.pointer (some ⟨5, 35, none⟩), .pointer (some p), .int .u64 409])) w := by
  rw [extElemV]
  show (Sem.run Tryz.prog (bind (ReflectliteValue.parts (.agg #[.pointer (some ⟨5, 96, none⟩), .pointer (some a), .int .u64 150])) _) w).andThen _ = _
  simp only [Sem.run_bind, partsTN, Result.andThen]
  simp [ReflectliteValue.elem, loadVar, isAgg, underlying, Tryz.underlying96, ha, Result.andThen, elemOfTN, mkN]
theorem partsAN (a : Addr) (w : World) : (ReflectliteValue.parts (.agg #[.pointer (some ⟨5, 35, none⟩), .pointer (some a), .int .u64 409])).run Tryz.prog w = .ok (some (35, a, 409)) w := by kernel_rfl
theorem partsN (a : Addr) (w : World) : (ReflectliteValue.parts (.agg #[.pointer (some ⟨5, 35, none⟩), .pointer (some a), .int .u64 153])).run Tryz.prog w = .ok (some (35, a, 153)) w := by kernel_rfl
theorem directN (w : World) : (Rtype.directlyAssignable 35 35).run Tryz.prog w = .ok true w := by kernel_rfl
theorem typeOfN (v : Value) (w : World) : (callFunc 87 #[.iface 35 v]).run Tryz.prog w = .ok (.value (.iface 156 (.agg #[.pointer (some ⟨5, 35, none⟩)]))) (w) := by rw [extTypeOf]; kernel_rfl
theorem valueOfN (x y : ByteArray) (w : World) : (callFunc 70 #[.iface 35 (.agg #[.string x, .string y])]).run Tryz.prog w = .ok (.value (.agg #[.pointer (some ⟨5, 35, none⟩), .pointer (some ⟨w.heap.size, 0, none⟩), .int .u64 153])) (w.alloc (.cells #[.string x, .string y] 35)) := by rw [extValueOf]; kernel_rfl
theorem setN (t b : Nat) (x y : ByteArray) (o1 o2 : Value) (w : World) (hb : w.cell? ⟨b, 0, none⟩ = some (.string x)) (hb' : w.cell? ⟨b, 1, none⟩ = some (.string y)) (ht : w.cell? ⟨t, 0, none⟩ = some o1) (ht' : w.cell? ⟨t, 1, none⟩ = some o2) (hf : w.frozen? ⟨t, 0, none⟩ = false) (hf' : w.frozen? ⟨t, 1, none⟩ = false) :
    (callFunc 109 #[.agg #[.pointer (some ⟨5, 35, none⟩), .pointer (some ⟨t, 0, none⟩), .int .u64 409], .agg #[.pointer (some ⟨5, 35, none⟩), .pointer (some ⟨b, 0, none⟩), .int .u64 153]]).run Tryz.prog w = .ok (.value (.tuple #[])) ((w.setCell ⟨t, 0, none⟩ (.string x)).setCell ⟨t, 1, none⟩ (.string y)) := by
  rw [extSet]
  show (Sem.run Tryz.prog (bind (ReflectliteValue.parts (.agg #[.pointer (some ⟨5, 35, none⟩), .pointer (some ⟨t, 0, none⟩), .int .u64 409])) (fun _ => bind (ReflectliteValue.parts (.agg #[.pointer (some ⟨5, 35, none⟩), .pointer (some ⟨b, 0, none⟩), .int .u64 153])) _)) w).andThen _ = _
  simp only [Sem.run_bind, partsAN, partsN, Result.andThen]
  simp [ReflectliteValue.flagAddr, loadVar, isAgg, underlying, Tryz.underlying35, Result.andThen, directN, storeVar, go_sem, hb, ht, hf, hb', ht', hf']
theorem assignEN (w : World) : (callFunc 174 #[.agg #[.pointer (some ⟨5, 33, none⟩)], .iface 156 (.agg #[.pointer (some ⟨5, 35, none⟩)])]).run Tryz.prog w = .ok (.value (.bool false)) (w) := by rw [extAssignableTo]; kernel_rfl
theorem assignNN (w : World) : (callFunc 174 #[.agg #[.pointer (some ⟨5, 35, none⟩)], .iface 156 (.agg #[.pointer (some ⟨5, 35, none⟩)])]).run Tryz.prog w = .ok (.value (.bool true)) (w) := by rw [extAssignableTo]; kernel_rfl
theorem assignPN (w : World) : (callFunc 174 #[.agg #[.pointer (some ⟨5, 117, none⟩)], .iface 156 (.agg #[.pointer (some ⟨5, 35, none⟩)])]).run Tryz.prog w = .ok (.value (.bool false)) (w) := by rw [extAssignableTo]; kernel_rfl
/-! ### the target of kind P -/
theorem valueOfTP (t : Addr) (w : World) : (callFunc 70 #[.iface 118 (.pointer (some t))]).run Tryz.prog w = .ok (.value (.agg #[.pointer (some ⟨5, 118, none⟩), .pointer (some ⟨w.heap.size, 0, none⟩), .int .u64 150])) (w.alloc (.cells #[.pointer (some t)] 118)) := by rw [extValueOf]; kernel_rfl
theorem typeTP (a : Addr) (w : World) : (callFunc 71 #[.agg #[.pointer (some ⟨5, 118, none⟩), .pointer (some a), .int .u64 150]]).run Tryz.prog w = .ok (.value (.iface 156 (.agg #[.pointer (some ⟨5, 118, none⟩)]))) (w) := by rw [extType]; kernel_rfl
theorem kindTP (w : World) : (callFunc 162 #[.pointer (some ⟨5, 118, none⟩)]).run Tryz.prog w = .ok (.value (.int .u8 22)) (w) := by rw [extKind]; kernel_rfl
theorem kindP (w : World) : (callFunc 162 #[.pointer (some ⟨5, 117, none⟩)]).run Tryz.prog w = .ok (.value (.int .u8 22)) (w) := by rw [extKind]; kernel_rfl
theorem partsTP (a : Addr) (w : World) : (ReflectliteValue.parts (.agg #[.pointer (some ⟨5, 118, none⟩), .pointer (some a), .int .u64 150])).run Tryz.prog w = .ok (some (118, a, 150)) w := by kernel_rfl
theorem isNilTP (a p : Addr) (w : World) (ha : w.cell? a = some (.pointer (some p))) : (callFunc 72 #[.agg #[.pointer (some ⟨5, 118, none⟩), .pointer (some a), .int .u64 150]]).run Tryz.prog w = .ok (.value (.bool false)) w := by
  rw [extIsNil]
  show (Sem.run Tryz.prog (bind (ReflectliteValue.parts (.agg #[.pointer (some ⟨5, 118, none⟩), .pointer (some a), .int .u64 150])) _) w).andThen _ = _
  simp only [Sem.run_bind, partsTP, Result.andThen]
  simp [ReflectliteValue.isNil, loadVar, isAgg, underlying, Tryz.underlying118, ha, Result.andThen]
theorem elemTP (w : World) : (callFunc 176 #[.agg #[.pointer (some ⟨5, 118, none⟩)]]).run Tryz.prog w = .ok (.value (.iface 156 (.agg #[.pointer (some ⟨5, 117, none⟩)]))) (w) := by rw [extElemR]; kernel_rfl
theorem implementsP (w : World) : (callFunc 177 #[.agg #[.pointer (some ⟨5, 117, none⟩)], .iface 156 (.agg #[.pointer (some ⟨5, 29, none⟩)])]).run Tryz.prog w = .ok (.value (.bool true)) (w) := by rw [extImplements]; kernel_rfl
theorem elemOfTP (w : World) : (Rtype.elem? 118).run Tryz.prog w = .ok (some 117) w := by kernel_rfl
theorem mkP (p : Addr) (w : World) : (ReflectliteValue.mk 117 p ReflectliteValue.flagAddr).run Tryz.prog w = .ok (.agg #[.pointer (some ⟨5, 117, none⟩), .pointer (some p), .int .u64 406]) w := by kernel_rfl
theorem elemVP (a p : Addr) (w : World) (ha : w.cell? a = some (.pointer (some p))) : (callFunc 108 #[.agg #[.pointer (some ⟨5, 118, none⟩), .pointer (some a), .int .u64 150]]).run Tryz.prog w = .ok (.value (.agg #[.pointer (some ⟨5, 117, none⟩), .pointer (some p), .int .u64 406])) w := by
  rw [extElemV]
  show (Sem.run Tryz.prog (bind (ReflectliteValue.parts (.agg #[.pointer (some ⟨5, 118, none⟩), .pointer (some a), .int .u64 150])) _) w).andThen _ = _
  simp only [Sem.run_bind, partsTP, Result.andThen]
  simp [ReflectliteValue.elem, loadVar, isAgg, underlying, Tryz.underlying118, ha, Result.andThen, elemOfTP, mkP]
theorem partsAP (a : Addr) (w : World) : (ReflectliteValue.parts (.agg #[.pointer (some ⟨5, 117, none⟩), .pointer (some a), .int .u64 406])).run Tryz.prog w = .ok (some (117, a, 406)) w := by kernel_rfl
theorem partsP (a : Addr) (w : World) : (ReflectliteValue.parts (.agg #[.pointer (some ⟨5, 117, none⟩), .pointer (some a), .int .u64 150])).run Tryz.prog w = .ok (some (117, a, 150)) w := by kernel_rfl
theorem directP (w : World) : (Rtype.directlyAssignable 117 117).run Tryz.prog w = .ok true w := by kernel_rfl
theorem typeOfP (v : Value) (w : World) : (callFunc 87 #[.iface 117 v]).run Tryz.prog w = .ok (.value (.iface 156 (.agg #[.pointer (some ⟨5, 117, none⟩)]))) (w) := by rw [extTypeOf]; kernel_rfl
theorem valueOfP (e : Addr) (w : World) : (callFunc 70 #[.iface 117 (.pointer (some e))]).run Tryz.prog w = .ok (.value (.agg #[.pointer (some ⟨5, 117, none⟩), .pointer (some ⟨w.heap.size, 0, none⟩), .int .u64 150])) (w.alloc (.cells #[.pointer (some e)] 117)) := by rw [extValueOf]; kernel_rfl
theorem setP (t b : Nat) (e : Addr) (o1 : Value) (w : World) (hb : w.cell? ⟨b, 0, none⟩ = some (.pointer (some e))) (ht : w.cell? ⟨t, 0, none⟩ = some o1) (hf : w.frozen? ⟨t, 0, none⟩ = false) :
    (callFunc 109 #[.agg #[.pointer (some ⟨5, 117, none⟩), .pointer (some ⟨t, 0, none⟩), .int .u64 406], .agg #[.pointer (some ⟨5, 117, none⟩), .pointer (some ⟨b, 0, none⟩), .int .u64 150]]).run Tryz.prog w = .ok (.value (.tuple #[])) (w.setCell ⟨t, 0, none⟩ (.pointer (some e))) := by
  rw [extSet]
  show (Sem.run Tryz.prog (bind (ReflectliteValue.parts (.agg #[.pointer (some ⟨5, 117, none⟩), .pointer (some ⟨t, 0, none⟩), .int .u64 406])) (fun _ => bind (ReflectliteValue.parts (.agg #[.pointer (some ⟨5, 117, none⟩), .pointer (some ⟨b, 0, none⟩), .int .u64 150])) _)) w).andThen _ = _
  simp only [Sem.run_bind, partsAP, partsP, Result.andThen]
  simp [ReflectliteValue.flagAddr, loadVar, isAgg, underlying, Tryz.underlying117, Result.andThen, directP, storeVar, go_sem, hb, ht, hf]
theorem assignEP (w : World) : (callFunc 174 #[.agg #[.pointer (some ⟨5, 33, none⟩)], .iface 156 (.agg #[.pointer (some ⟨5, 117, none⟩)])]).run Tryz.prog w = .ok (.value (.bool false)) (w) := by rw [extAssignableTo]; kernel_rfl
theorem assignNP (w : World) : (callFunc 174 #[.agg #[.pointer (some ⟨5, 35, none⟩)], .iface 156 (.agg #[.pointer (some ⟨5, 117, none⟩)])]).run Tryz.prog w = .ok (.value (.bool false)) (w) := by rw [extAssignableTo]; kernel_rfl
theorem assignPP (w : World) : (callFunc 174 #[.agg #[.pointer (some ⟨5, 117, none⟩)], .iface 156 (.agg #[.pointer (some ⟨5, 117, none⟩)])]).run Tryz.prog w = .ok (.value (.bool true)) (w) := by rw [extAssignableTo]; kernel_rfl
/-! ### methods -/
theorem methodKind (h : Value) (w : World) : (Go.method 327 156 (.agg #[h]) "Kind").run Tryz.prog w = .ok (162, h) w := by kernel_rfl
theorem methodElem (h : Value) (w : World) : (Go.method 327 156 (.agg #[h]) "Elem").run Tryz.prog w = .ok (176, .agg #[h]) w := by kernel_rfl
theorem methodImplements (h : Value) (w : World) : (Go.method 327 156 (.agg #[h]) "Implements").run Tryz.prog w = .ok (177, .agg #[h]) w := by kernel_rfl
theorem methodAssignableTo (h : Value) (w : World) : (Go.method 327 156 (.agg #[h]) "AssignableTo").run Tryz.prog w = .ok (174, .agg #[h]) w := by kernel_rfl
theorem methodComparable (h : Value) (w : World) : (Go.method 327 156 (.agg #[h]) "Comparable").run Tryz.prog w = .ok (175, .agg #[h]) w := by kernel_rfl
theorem methodUnwrap (a : Addr) (w : World) : (Go.method 327 117 (.pointer (some a)) "Unwrap").run Tryz.prog w = .ok (171, .pointer (some a)) w := by kernel_rfl
theorem comparableE (w : World) : (callFunc 175 #[.agg #[.pointer (some ⟨5, 33, none⟩)]]).run Tryz.prog w = .ok (.value (.bool true)) (w) := by kernel_rfl
/-! ### which interfaces an error has -/
theorem noAsE (v : Value) (xT : TypeId) (w : World) : (Instr.typeAssert (.iface 33 v) xT 160 true).run Tryz.prog w = .ok (.tuple #[.nilIface, .bool false]) w := run_typeAssert_lacksB Tryz.underlying160 (by kernel_rfl) (by kernel_rfl) v xT w
theorem noU1E (v : Value) (xT : TypeId) (w : World) : (Instr.typeAssert (.iface 33 v) xT 163 true).run Tryz.prog w = .ok (.tuple #[.nilIface, .bool false]) w := run_typeAssert_lacksB Tryz.underlying163 (by kernel_rfl) (by kernel_rfl) v xT w
theorem noU2E (v : Value) (xT : TypeId) (w : World) : (Instr.typeAssert (.iface 33 v) xT 165 true).run Tryz.prog w = .ok (.tuple #[.nilIface, .bool false]) w := run_typeAssert_lacksB Tryz.underlying165 (by kernel_rfl) (by kernel_rfl) v xT w
theorem noIsE (v : Value) (xT : TypeId) (w : World) : (Instr.typeAssert (.iface 33 v) xT 174 true).run Tryz.prog w = .ok (.tuple #[.nilIface, .bool false]) w := run_typeAssert_lacksB Tryz.underlying174 (by kernel_rfl) (by kernel_rfl) v xT w
theorem noAsN (v : Value) (xT : TypeId) (w : World) : (Instr.typeAssert (.iface 35 v) xT 160 true).run Tryz.prog w = .ok (.tuple #[.nilIface, .bool false]) w := run_typeAssert_lacksB Tryz.underlying160 (by kernel_rfl) (by kernel_rfl) v xT w
theorem noU1N (v : Value) (xT : TypeId) (w : World) : (Instr.typeAssert (.iface 35 v) xT 163 true).run Tryz.prog w = .ok (.tuple #[.nilIface, .bool false]) w := run_typeAssert_lacksB Tryz.underlying163 (by kernel_rfl) (by kernel_rfl) v xT w
theorem noU2N (v : Value) (xT : TypeId) (w : World) : (Instr.typeAssert (.iface 35 v) xT 165 true).run Tryz.prog w = .ok (.tuple #[.nilIface, .bool false]) w := run_typeAssert_lacksB Tryz.underlying165 (by kernel_rfl) (by kernel_rfl) v xT w
theorem noIsN (v : Value) (xT : TypeId) (w : World) : (Instr.typeAssert (.iface 35 v) xT 174 true).run Tryz.prog w = .ok (.tuple #[.nilIface, .bool false]) w := run_typeAssert_lacksB Tryz.underlying174 (by kernel_rfl) (by kernel_rfl) v xT w
theorem noAsP (v : Value) (xT : TypeId) (w : World) : (Instr.typeAssert (.iface 117 v) xT 160 true).run Tryz.prog w = .ok (.tuple #[.nilIface, .bool false]) w := run_typeAssert_lacksB Tryz.underlying160 (by kernel_rfl) (by kernel_rfl) v xT w
theorem hasU1P (v : Value) (xT : TypeId) (w : World) : (Instr.typeAssert (.iface 117 v) xT 163 true).run Tryz.prog w = .ok (.tuple #[.iface 117 v, .bool true]) w := run_typeAssert_hasB Tryz.underlying163 (by kernel_rfl) v xT w
theorem noU2P (v : Value) (xT : TypeId) (w : World) : (Instr.typeAssert (.iface 117 v) xT 165 true).run Tryz.prog w = .ok (.tuple #[.nilIface, .bool false]) w := run_typeAssert_lacksB Tryz.underlying165 (by kernel_rfl) (by kernel_rfl) v xT w
theorem noIsP (v : Value) (xT : TypeId) (w : World) : (Instr.typeAssert (.iface 117 v) xT 174 true).run Tryz.prog w = .ok (.tuple #[.nilIface, .bool false]) w := run_typeAssert_lacksB Tryz.underlying174 (by kernel_rfl) (by kernel_rfl) v xT w
end Go.Proofs.YtidomoibhjgkjaaGreatDoor
