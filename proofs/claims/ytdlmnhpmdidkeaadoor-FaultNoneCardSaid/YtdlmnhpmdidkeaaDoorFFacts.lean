/-
  Closed facts on the entries that errors.As and errors.Is come to, at the types of this program: which Value a target is, which type is assignable to which, which methods an error has.
-/
import Derived.Test.YtdlmnhpmdidkeaaDoorRows
import Derived.WalkKit
import Derived.LaidEql
import Derived.LaidEqlPtr
import Derived.Stop.Asserts
import Derived.RowKitTokens
import Derived.Lib.Hide
namespace Go.Proofs.YtdlmnhpmdidkeaaDoor
open Go.RowKit Go.Extern.Stop Go.Stop Go.Extern

theorem extValueOf (args : Array Value) (w : World) : (callFunc 39 args).run Tryd.prog w = (((fun args => ReflectliteValue.unpack (args.getD 0 (.tuple #[]))) args).run Tryd.prog w).andThen fun v w => .ok (.value v) w :=
  @run_callFunc_extern Tryd.prog 39 _ (fun args => ReflectliteValue.unpack (args.getD 0 (.tuple #[]))) Tryd.func39 (by kernel_rfl) (by kernel_rfl) (by kernel_rfl) (by kernel_rfl) args w
theorem extType (args : Array Value) (w : World) : (callFunc 40 args).run Tryd.prog w = (((ReflectliteValue.methodAny (ReflectliteValue.valueError "reflectlite.Value.Type" 0) (fun t _ _ _ => ReflectliteType.toType t)) args).run Tryd.prog w).andThen fun v w => .ok (.value v) w :=
  @run_callFunc_extern Tryd.prog 40 _ (ReflectliteValue.methodAny (ReflectliteValue.valueError "reflectlite.Value.Type" 0) (fun t _ _ _ => ReflectliteType.toType t)) Tryd.func40 (by kernel_rfl) (by kernel_rfl) (by kernel_rfl) (by kernel_rfl) args w
theorem extIsNil (args : Array Value) (w : World) : (callFunc 41 args).run Tryd.prog w = (((ReflectliteValue.method (ReflectliteValue.valueError "reflectlite.Value.IsNil" 0) ReflectliteValue.isNil) args).run Tryd.prog w).andThen fun v w => .ok (.value v) w :=
  @run_callFunc_extern Tryd.prog 41 _ (ReflectliteValue.method (ReflectliteValue.valueError "reflectlite.Value.IsNil" 0) ReflectliteValue.isNil) Tryd.func41 (by kernel_rfl) (by kernel_rfl) (by kernel_rfl) (by kernel_rfl) args w
theorem extTypeOf (args : Array Value) (w : World) : (callFunc 49 args).run Tryd.prog w = (((ReflectliteType.typeOf) args).run Tryd.prog w).andThen fun v w => .ok (.value v) w :=
  @run_callFunc_extern Tryd.prog 49 _ (ReflectliteType.typeOf) Tryd.func49 (by kernel_rfl) (by kernel_rfl) (by kernel_rfl) (by kernel_rfl) args w
theorem extElemV (args : Array Value) (w : World) : (callFunc 51 args).run Tryd.prog w = (((ReflectliteValue.method (ReflectliteValue.valueError "reflectlite.Value.Elem" 0) ReflectliteValue.elem) args).run Tryd.prog w).andThen fun v w => .ok (.value v) w :=
  @run_callFunc_extern Tryd.prog 51 _ (ReflectliteValue.method (ReflectliteValue.valueError "reflectlite.Value.Elem" 0) ReflectliteValue.elem) Tryd.func51 (by kernel_rfl) (by kernel_rfl) (by kernel_rfl) (by kernel_rfl) args w
theorem extSet (args : Array Value) (w : World) : (callFunc 52 args).run Tryd.prog w = (((ReflectliteValue.set) args).run Tryd.prog w).andThen fun v w => .ok (.value v) w :=
  @run_callFunc_extern Tryd.prog 52 _ (ReflectliteValue.set) Tryd.func52 (by kernel_rfl) (by kernel_rfl) (by kernel_rfl) (by kernel_rfl) args w
theorem extKind (args : Array Value) (w : World) : (callFunc 83 args).run Tryd.prog w = (((ReflectliteType.abiMethod fun t => do pure (.int .u8 (← Rtype.kind t))) args).run Tryd.prog w).andThen fun v w => .ok (.value v) w :=
  @run_callFunc_extern Tryd.prog 83 _ (ReflectliteType.abiMethod fun t => do pure (.int .u8 (← Rtype.kind t))) Tryd.func83 (by kernel_rfl) (by kernel_rfl) (by kernel_rfl) (by kernel_rfl) args w
theorem extElemR (args : Array Value) (w : World) : (callFunc 95 args).run Tryd.prog w = (((ReflectliteType.method ReflectliteType.elem) args).run Tryd.prog w).andThen fun v w => .ok (.value v) w :=
  @run_callFunc_extern Tryd.prog 95 _ (ReflectliteType.method ReflectliteType.elem) Tryd.func95 (by kernel_rfl) (by kernel_rfl) (by kernel_rfl) (by kernel_rfl) args w
theorem extImplements (args : Array Value) (w : World) : (callFunc 96 args).run Tryd.prog w = (((ReflectliteType.relation "Implements" ReflectliteType.implements_) args).run Tryd.prog w).andThen fun v w => .ok (.value v) w :=
  @run_callFunc_extern Tryd.prog 96 _ (ReflectliteType.relation "Implements" ReflectliteType.implements_) Tryd.func96 (by kernel_rfl) (by kernel_rfl) (by kernel_rfl) (by kernel_rfl) args w
theorem extAssignableTo (args : Array Value) (w : World) : (callFunc 93 args).run Tryd.prog w = (((ReflectliteType.relation "AssignableTo" ReflectliteType.assignableTo) args).run Tryd.prog w).andThen fun v w => .ok (.value v) w :=
  @run_callFunc_extern Tryd.prog 93 _ (ReflectliteType.relation "AssignableTo" ReflectliteType.assignableTo) Tryd.func93 (by kernel_rfl) (by kernel_rfl) (by kernel_rfl) (by kernel_rfl) args w
/-! ### the target of kind E -/
theorem valueOfTE (t : Addr) (w : World) : (callFunc 39 #[.iface 62 (.pointer (some t))]).run Tryd.prog w = .ok (.value (.agg #[.pointer (some ⟨5, 62, none⟩), .pointer (some ⟨w.heap.size, 0, none⟩), .int .u64 150])) (w.alloc (.cells #[.pointer (some t)] 62)) := by rw [extValueOf]; kernel_rfl
theorem typeTE (a : Addr) (w : World) : (callFunc 40 #[.agg #[.pointer (some ⟨5, 62, none⟩), .pointer (some a), .int .u64 150]]).run Tryd.prog w = .ok (.value (.iface 94 (.agg #[.pointer (some ⟨5, 62, none⟩)]))) (w) := by rw [extType]; kernel_rfl
theorem kindTE (w : World) : (callFunc 83 #[.pointer (some ⟨5, 62, none⟩)]).run Tryd.prog w = .ok (.value (.int .u8 22)) (w) := by rw [extKind]; kernel_rfl
theorem kindE (w : World) : (callFunc 83 #[.pointer (some ⟨5, 29, none⟩)]).run Tryd.prog w = .ok (.value (.int .u8 2)) (w) := by rw [extKind]; kernel_rfl
theorem partsTE (a : Addr) (w : World) : (ReflectliteValue.parts (.agg #[.pointer (some ⟨5, 62, none⟩), .pointer (some a), .int .u64 150])).run Tryd.prog w = .ok (some (62, a, 150)) w := by kernel_rfl
theorem isNilTE (a p : Addr) (w : World) (ha : w.cell? a = some (.pointer (some p))) : (callFunc 41 #[.agg #[.pointer (some ⟨5, 62, none⟩), .pointer (some a), .int .u64 150]]).run Tryd.prog w = .ok (.value (.bool false)) w := by
  rw [extIsNil]
  show (Sem.run Tryd.prog (bind (ReflectliteValue.parts (.agg #[.pointer (some ⟨5, 62, none⟩), .pointer (some a), .int .u64 150])) _) w).andThen _ = _
  simp only [Sem.run_bind, partsTE, Result.andThen]
  simp [ReflectliteValue.isNil, loadVar, isAgg, underlying, Tryd.underlying62, ha, Result.andThen]
theorem elemTE (w : World) : (callFunc 95 #[.agg #[.pointer (some ⟨5, 62, none⟩)]]).run Tryd.prog w = .ok (.value (.iface 94 (.agg #[.pointer (some ⟨5, 29, none⟩)]))) (w) := by rw [extElemR]; kernel_rfl
theorem implementsE (w : World) : (callFunc 96 #[.agg #[.pointer (some ⟨5, 29, none⟩)], .iface 94 (.agg #[.pointer (some ⟨5, 27, none⟩)])]).run Tryd.prog w = .ok (.value (.bool true)) (w) := by rw [extImplements]; kernel_rfl
theorem elemOfTE (w : World) : (Rtype.elem? 62).run Tryd.prog w = .ok (some 29) w := by kernel_rfl
theorem mkE (p : Addr) (w : World) : (ReflectliteValue.mk 29 p ReflectliteValue.flagAddr).run Tryd.prog w = .ok (.agg #[.pointer (some ⟨5, 29, none⟩), .pointer (some p), .int .u64 386]) w := by kernel_rfl
theorem elemVE (a p : Addr) (w : World) (ha : w.cell? a = some (.pointer (some p))) : (callFunc 51 #[.agg #[.pointer (some ⟨5, 62, none⟩), .pointer (some a), .int .u64 150]]).run Tryd.prog w = .ok (.value (.agg #[.pointer (some ⟨5, 29, none⟩), .pointer (some p), .int .u64 386])) w := by
  rw [extElemV]
  show (Sem.run Tryd.prog (bind (ReflectliteValue.parts (.agg #[.pointer (some ⟨5, 62, none⟩), .pointer (some a), .int .u64 150])) _) w).andThen _ = _
  simp only [Sem.run_bind, partsTE, Result.andThen]
  simp [ReflectliteValue.elem, loadVar, isAgg, underlying, Tryd.underlying62, ha, Result.andThen, elemOfTE, mkE]
theorem partsAE (a : Addr) (w : World) : (ReflectliteValue.parts (.agg #[.pointer (some ⟨5, 29, none⟩), .pointer (some a), .int .u64 386])).run Tryd.prog w = .ok (some (29, a, 386)) w := by kernel_rfl
theorem partsE (a : Addr) (w : World) : (ReflectliteValue.parts (.agg #[.pointer (some ⟨5, 29, none⟩), .pointer (some a), .int .u64 130])).run Tryd.prog w = .ok (some (29, a, 130)) w := by kernel_rfl
theorem directE (w : World) : (Rtype.directlyAssignable 29 29).run Tryd.prog w = .ok true w := by kernel_rfl
theorem typeOfE (v : Value) (w : World) : (callFunc 49 #[.iface 29 v]).run Tryd.prog w = .ok (.value (.iface 94 (.agg #[.pointer (some ⟨5, 29, none⟩)]))) (w) := by rw [extTypeOf]; kernel_rfl
theorem valueOfE (n : Int) (w : World) : (callFunc 39 #[.iface 29 (.int .i64 n)]).run Tryd.prog w = .ok (.value (.agg #[.pointer (some ⟨5, 29, none⟩), .pointer (some ⟨w.heap.size, 0, none⟩), .int .u64 130])) (w.alloc (.cells #[.int .i64 n] 29)) := by rw [extValueOf]; kernel_rfl
theorem setE (t b : Nat) (n : Int) (o1 : Value) (w : World) (hb : w.cell? ⟨b, 0, none⟩ = some (.int .i64 n)) (ht : w.cell? ⟨t, 0, none⟩ = some o1) (hf : w.frozen? ⟨t, 0, none⟩ = false) :
    (callFunc 52 #[.agg #[.pointer (some ⟨5, 29, none⟩), .pointer (some ⟨t, 0, none⟩), .int .u64 386], .agg #[.pointer (some ⟨5, 29, none⟩), .pointer (some ⟨b, 0, none⟩), .int .u64 130]]).run Tryd.prog w = .ok (.value (.tuple #[])) (w.setCell ⟨t, 0, none⟩ (.int .i64 n)) := by
  rw [extSet]
  show (Sem.run Tryd.prog (bind (ReflectliteValue.parts (.agg #[.pointer (some ⟨5, 29, none⟩), .pointer (some ⟨t, 0, none⟩), .int .u64 386])) (fun _ => bind (ReflectliteValue.parts (.agg #[.pointer (some ⟨5, 29, none⟩), .pointer (some ⟨b, 0, none⟩), .int .u64 130])) _)) w).andThen _ = _
  simp only [Sem.run_bind, partsAE, partsE, Result.andThen]
  simp [ReflectliteValue.flagAddr, loadVar, isAgg, underlying, Tryd.underlying29, Result.andThen, directE, storeVar, go_sem, hb, ht, hf]
theorem assignEE (w : World) : (callFunc 93 #[.agg #[.pointer (some ⟨5, 29, none⟩)], .iface 94 (.agg #[.pointer (some ⟨5, 29, none⟩)])]).run Tryd.prog w = .ok (.value (.bool true)) (w) := by rw [extAssignableTo]; kernel_rfl
theorem assignNE (w : World) : (callFunc 93 #[.agg #[.pointer (some ⟨5, 31, none⟩)], .iface 94 (.agg #[.pointer (some ⟨5, 29, none⟩)])]).run Tryd.prog w = .ok (.value (.bool false)) (w) := by rw [extAssignableTo]; kernel_rfl
theorem assignPE (w : World) : (callFunc 93 #[.agg #[.pointer (some ⟨5, 49, none⟩)], .iface 94 (.agg #[.pointer (some ⟨5, 29, none⟩)])]).run Tryd.prog w = .ok (.value (.bool false)) (w) := by rw [extAssignableTo]; kernel_rfl
/-! ### the target of kind N -/
theorem valueOfTN (t : Addr) (w : World) : (callFunc 39 #[.iface 61 (.pointer (some t))]).run Tryd.prog w = .ok (.value (.agg #[.pointer (some ⟨5, 61, none⟩), .pointer (some ⟨w.heap.size, 0, none⟩), .int .u64 150])) (w.alloc (.cells #[.pointer (some t)] 61)) := by rw [extValueOf]; kernel_rfl
theorem typeTN (a : Addr) (w : World) : (callFunc 40 #[.agg #[.pointer (some ⟨5, 61, none⟩), .pointer (some a), .int .u64 150]]).run Tryd.prog w = .ok (.value (.iface 94 (.agg #[.pointer (some ⟨5, 61, none⟩)]))) (w) := by rw [extType]; kernel_rfl
theorem kindTN (w : World) : (callFunc 83 #[.pointer (some ⟨5, 61, none⟩)]).run Tryd.prog w = .ok (.value (.int .u8 22)) (w) := by rw [extKind]; kernel_rfl
theorem kindN (w : World) : (callFunc 83 #[.pointer (some ⟨5, 31, none⟩)]).run Tryd.prog w = .ok (.value (.int .u8 25)) (w) := by rw [extKind]; kernel_rfl
theorem partsTN (a : Addr) (w : World) : (ReflectliteValue.parts (.agg #[.pointer (some ⟨5, 61, none⟩), .pointer (some a), .int .u64 150])).run Tryd.prog w = .ok (some (61, a, 150)) w := by kernel_rfl
theorem isNilTN (a p : Addr) (w : World) (ha : w.cell? a = some (.pointer (some p))) : (callFunc 41 #[.agg #[.pointer (some ⟨5, 61, none⟩), .pointer (some a), .int .u64 150]]).run Tryd.prog w = .ok (.value (.bool false)) w := by
  rw [extIsNil]
  show (Sem.run Tryd.prog (bind (ReflectliteValue.parts (.agg #[.pointer (some ⟨5, 61, none⟩), .pointer (some a), .int .u64 150])) _) w).andThen _ = _
  simp only [Sem.run_bind, partsTN, Result.andThen]
  simp [ReflectliteValue.isNil, loadVar, isAgg, underlying, Tryd.underlying61, ha, Result.andThen]
theorem elemTN (w : World) : (callFunc 95 #[.agg #[.pointer (some ⟨5, 61, none⟩)]]).run Tryd.prog w = .ok (.value (.iface 94 (.agg #[.pointer (some ⟨5, 31, none⟩)]))) (w) := by rw [extElemR]; kernel_rfl
theorem implementsN (w : World) : (callFunc 96 #[.agg #[.pointer (some ⟨5, 31, none⟩)], .iface 94 (.agg #[.pointer (some ⟨5, 27, none⟩)])]).run Tryd.prog w = .ok (.value (.bool true)) (w) := by rw [extImplements]; kernel_rfl
theorem elemOfTN (w : World) : (Rtype.elem? 61).run Tryd.prog w = .ok (some 31) w := by kernel_rfl
theorem mkN (p : Addr) (w : World) : (ReflectliteValue.mk 31 p ReflectliteValue.flagAddr).run Tryd.prog w = .ok (.agg #[.pointer (some ⟨5, 31, none⟩), .pointer (some p), .int .u64 409]) w := by kernel_rfl
theorem elemVN (a p : Addr) (w : World) (ha : w.cell? a = some (.pointer (some p))) : (callFunc 51 #[.agg #[.pointer (some ⟨5, 61, none⟩), .pointer (some a), .int .u64 150]]).run Tryd.prog w = .ok (.value (.agg #[.pointer (some ⟨5, 31, none⟩), .pointer (some p), .int .u64 409])) w := by
  rw [extElemV]
  show (Sem.run Tryd.prog (bind (ReflectliteValue.parts (.agg #[.pointer (some ⟨5, 61, none⟩), .pointer (some a), .int .u64 150])) _) w).andThen _ = _
  simp only [Sem.run_bind, partsTN, Result.andThen]
  simp [ReflectliteValue.elem, loadVar, isAgg, underlying, Tryd.underlying61, ha, Result.andThen, elemOfTN, mkN]
theorem partsAN (a : Addr) (w : World) : (ReflectliteValue.parts (.agg #[.pointer (some ⟨5, 31, none⟩), .pointer (some a), .int .u64 409])).run Tryd.prog w = .ok (some (31, a, 409)) w := by kernel_rfl
theorem partsN (a : Addr) (w : World) : (ReflectliteValue.parts (.agg #[.pointer (some ⟨5, 31, none⟩), .pointer (some a), .int .u64 153])).run Tryd.prog w = .ok (some (31, a, 153)) w := by kernel_rfl
theorem directN (w : World) : (Rtype.directlyAssignable 31 31).run Tryd.prog w = .ok true w := by kernel_rfl
theorem typeOfN (v : Value) (w : World) : (callFunc 49 #[.iface 31 v]).run Tryd.prog w = .ok (.value (.iface 94 (.agg #[.pointer (some ⟨5, 31, none⟩)]))) (w) := by rw [extTypeOf]; kernel_rfl
theorem valueOfN (x y : ByteArray) (w : World) : (callFunc 39 #[.iface 31 (.agg #[.string x, .string y])]).run Tryd.prog w = .ok (.value (.agg #[.pointer (some ⟨5, 31, none⟩), .pointer (some ⟨w.heap.size, 0, none⟩), .int .u64 153])) (w.alloc (.cells #[.string x, .string y] 31)) := by rw [extValueOf]; kernel_rfl
theorem setN (t b : Nat) (x y : ByteArray) (o1 o2 : Value) (w : World) (hb : w.cell? ⟨b, 0, none⟩ = some (.string x)) (hb' : w.cell? ⟨b, 1, none⟩ = some (.string y)) (ht : w.cell? ⟨t, 0, none⟩ = some o1) (ht' : w.cell? ⟨t, 1, none⟩ = some o2) (hf : w.frozen? ⟨t, 0, none⟩ = false) (hf' : w.frozen? ⟨t, 1, none⟩ = false) :
    (callFunc 52 #[.agg #[.pointer (some ⟨5, 31, none⟩), .pointer (some ⟨t, 0, none⟩), .int .u64 409], .agg #[.pointer (some ⟨5, 31, none⟩), .pointer (some ⟨b, 0, none⟩), .int .u64 153]]).run Tryd.prog w = .ok (.value (.tuple #[])) ((w.setCell ⟨t, 0, none⟩ (.string x)).setCell ⟨t, 1, none⟩ (.string y)) := by
  rw [extSet]
  show (Sem.run Tryd.prog (bind (ReflectliteValue.parts (.agg #[.pointer (some ⟨5, 31, none⟩), .pointer (some ⟨t, 0, none⟩), .int .u64 409])) (fun _ => bind (ReflectliteValue.parts (.agg #[.pointer (some ⟨5, 31, none⟩), .pointer (some ⟨b, 0, none⟩), .int .u64 153])) _)) w).andThen _ = _
  simp only [Sem.run_bind, partsAN, partsN, Result.andThen]
  simp [ReflectliteValue.flagAddr, loadVar, isAgg, underlying, Tryd.underlying31, Result.andThen, directN, storeVar, go_sem, hb, ht, hf, hb', ht', hf']
theorem assignEN (w : World) : (callFunc 93 #[.agg #[.pointer (some ⟨5, 29, none⟩)], .iface 94 (.agg #[.pointer (some ⟨5, 31, none⟩)])]).run Tryd.prog w = .ok (.value (.bool false)) (w) := by rw [extAssignableTo]; kernel_rfl
theorem assignNN (w : World) : (callFunc 93 #[.agg #[.pointer (some ⟨5, 31, none⟩)], .iface 94 (.agg #[.pointer (some ⟨5, 31, none⟩)])]).run Tryd.prog w = .ok (.value (.bool true)) (w) := by rw [extAssignableTo]; kernel_rfl
theorem assignPN (w : World) : (callFunc 93 #[.agg #[.pointer (some ⟨5, 49, none⟩)], .iface 94 (.agg #[.pointer (some ⟨5, 31, none⟩)])]).run Tryd.prog w = .ok (.value (.bool false)) (w) := by rw [extAssignableTo]; kernel_rfl
/-! ### the target of kind P -/
theorem valueOfTP (t : Addr) (w : World) : (callFunc 39 #[.iface 82 (.pointer (some t))]).run Tryd.prog w = .ok (.value (.agg #[.pointer (some ⟨5, 82, none⟩), .pointer (some ⟨w.heap.size, 0, none⟩), .int .u64 150])) (w.alloc (.cells #[.pointer (some t)] 82)) := by rw [extValueOf]; kernel_rfl
theorem typeTP (a : Addr) (w : World) : (callFunc 40 #[.agg #[.pointer (some ⟨5, 82, none⟩), .pointer (some a), .int .u64 150]]).run Tryd.prog w = .ok (.value (.iface 94 (.agg #[.pointer (some ⟨5, 82, none⟩)]))) (w) := by rw [extType]; kernel_rfl
theorem kindTP (w : World) : (callFunc 83 #[.pointer (some ⟨5, 82, none⟩)]).run Tryd.prog w = .ok (.value (.int .u8 22)) (w) := by rw [extKind]; kernel_rfl
theorem kindP (w : World) : (callFunc 83 #[.pointer (some ⟨5, 49, none⟩)]).run Tryd.prog w = .ok (.value (.int .u8 22)) (w) := by rw [extKind]; kernel_rfl
theorem partsTP (a : Addr) (w : World) : (ReflectliteValue.parts (.agg #[.pointer (some ⟨5, 82, none⟩), .pointer (some a), .int .u64 150])).run Tryd.prog w = .ok (some (82, a, 150)) w := by kernel_rfl
theorem isNilTP (a p : Addr) (w : World) (ha : w.cell? a = some (.pointer (some p))) : (callFunc 41 #[.agg #[.pointer (some ⟨5, 82, none⟩), .pointer (some a), .int .u64 150]]).run Tryd.prog w = .ok (.value (.bool false)) w := by
  rw [extIsNil]
  show (Sem.run Tryd.prog (bind (ReflectliteValue.parts (.agg #[.pointer (some ⟨5, 82, none⟩), .pointer (some a), .int .u64 150])) _) w).andThen _ = _
  simp only [Sem.run_bind, partsTP, Result.andThen]
  simp [ReflectliteValue.isNil, loadVar, isAgg, underlying, Tryd.underlying82, ha, Result.andThen]
theorem elemTP (w : World) : (callFunc 95 #[.agg #[.pointer (some ⟨5, 82, none⟩)]]).run Tryd.prog w = .ok (.value (.iface 94 (.agg #[.pointer (some ⟨5, 49, none⟩)]))) (w) := by rw [extElemR]; kernel_rfl
theorem implementsP (w : World) : (callFunc 96 #[.agg #[.pointer (some ⟨5, 49, none⟩)], .iface 94 (.agg #[.pointer (some ⟨5, 27, none⟩)])]).run Tryd.prog w = .ok (.value (.bool true)) (w) := by rw [extImplements]; kernel_rfl
theorem elemOfTP (w : World) : (Rtype.elem? 82).run Tryd.prog w = .ok (some 49) w := by kernel_rfl
theorem mkP (p : Addr) (w : World) : (ReflectliteValue.mk 49 p ReflectliteValue.flagAddr).run Tryd.prog w = .ok (.agg #[.pointer (some ⟨5, 49, none⟩), .pointer (some p), .int .u64 406]) w := by kernel_rfl
theorem elemVP (a p : Addr) (w : World) (ha : w.cell? a = some (.pointer (some p))) : (callFunc 51 #[.agg #[.pointer (some ⟨5, 82, none⟩), .pointer (some a), .int .u64 150]]).run Tryd.prog w = .ok (.value (.agg #[.pointer (some ⟨5, 49, none⟩), .pointer (some p), .int .u64 406])) w := by
  rw [extElemV]
  show (Sem.run Tryd.prog (bind (ReflectliteValue.parts (.agg #[.pointer (some ⟨5, 82, none⟩), .pointer (some a), .int .u64 150])) _) w).andThen _ = _
  simp only [Sem.run_bind, partsTP, Result.andThen]
  simp [ReflectliteValue.elem, loadVar, isAgg, underlying, Tryd.underlying82, ha, Result.andThen, elemOfTP, mkP]
theorem partsAP (a : Addr) (w : World) : (ReflectliteValue.parts (.agg #[.pointer (some ⟨5, 49, none⟩), .pointer (some a), .int .u64 406])).run Tryd.prog w = .ok (some (49, a, 406)) w := by kernel_rfl
theorem partsP (a : Addr) (w : World) : (ReflectliteValue.parts (.agg #[.pointer (some ⟨5, 49, none⟩), .pointer (some a), .int .u64 150])).run Tryd.prog w = .ok (some (49, a, 150)) w := by kernel_rfl
theorem directP (w : World) : (Rtype.directlyAssignable 49 49).run Tryd.prog w = .ok true w := by kernel_rfl
theorem typeOfP (v : Value) (w : World) : (callFunc 49 #[.iface 49 v]).run Tryd.prog w = .ok (.value (.iface 94 (.agg #[.pointer (some ⟨5, 49, none⟩)]))) (w) := by rw [extTypeOf]; kernel_rfl
theorem valueOfP (e : Addr) (w : World) : (callFunc 39 #[.iface 49 (.pointer (some e))]).run Tryd.prog w = .ok (.value (.agg #[.pointer (some ⟨5, 49, none⟩), .pointer (some ⟨w.heap.size, 0, none⟩), .int .u64 150])) (w.alloc (.cells #[.pointer (some e)] 49)) := by rw [extValueOf]; kernel_rfl
theorem setP (t b : Nat) (e : Addr) (o1 : Value) (w : World) (hb : w.cell? ⟨b, 0, none⟩ = some (.pointer (some e))) (ht : w.cell? ⟨t, 0, none⟩ = some o1) (hf : w.frozen? ⟨t, 0, none⟩ = false) :
    (callFunc 52 #[.agg #[.pointer (some ⟨5, 49, none⟩), .pointer (some ⟨t, 0, none⟩), .int .u64 406], .agg #[.pointer (some ⟨5, 49, none⟩), .pointer (some ⟨b, 0, none⟩), .int .u64 150]]).run Tryd.prog w = .ok (.value (.tuple #[])) (w.setCell ⟨t, 0, none⟩ (.pointer (some e))) := by
  rw [extSet]
  show (Sem.run Tryd.prog (bind (ReflectliteValue.parts (.agg #[.pointer (some ⟨5, 49, none⟩), .pointer (some ⟨t, 0, none⟩), .int .u64 406])) (fun _ => bind (ReflectliteValue.parts (.agg #[.pointer (some ⟨5, 49, none⟩), .pointer (some ⟨b, 0, none⟩), .int .u64 150])) _)) w).andThen _ = _
  simp only [Sem.run_bind, partsAP, partsP, Result.andThen]
  simp [ReflectliteValue.flagAddr, loadVar, isAgg, underlying, Tryd.underlying49, Result.andThen, directP, storeVar, go_sem, hb, ht, hf]
theorem assignEP (w : World) : (callFunc 93 #[.agg #[.pointer (some ⟨5, 29, none⟩)], .iface 94 (.agg #[.pointer (some ⟨5, 49, none⟩)])]).run Tryd.prog w = .ok (.value (.bool false)) (w) := by rw [extAssignableTo]; kernel_rfl
theorem assignNP (w : World) : (callFunc 93 #[.agg #[.pointer (some ⟨5, 31, none⟩)], .iface 94 (.agg #[.pointer (some ⟨5, 49, none⟩)])]).run Tryd.prog w = .ok (.value (.bool false)) (w) := by rw [extAssignableTo]; kernel_rfl
theorem assignPP (w : World) : (callFunc 93 #[.agg #[.pointer (some ⟨5, 49, none⟩)], .iface 94 (.agg #[.pointer (some ⟨5, 49, none⟩)])]).run Tryd.prog w = .ok (.value (.bool true)) (w) := by rw [extAssignableTo]; kernel_rfl
/-! ### methods -/
theorem methodKind (h : Value) (w : World) : (Go.method 257 94 (.agg #[h]) "Kind").run Tryd.prog w = .ok (83, h) w := by kernel_rfl
theorem methodElem (h : Value) (w : World) : (Go.method 257 94 (.agg #[h]) "Elem").run Tryd.prog w = .ok (95, .agg #[h]) w := by kernel_rfl
theorem methodImplements (h : Value) (w : World) : (Go.method 257 94 (.agg #[h]) "Implements").run Tryd.prog w = .ok (96, .agg #[h]) w := by kernel_rfl
theorem methodAssignableTo (h : Value) (w : World) : (Go.method 257 94 (.agg #[h]) "AssignableTo").run Tryd.prog w = .ok (93, .agg #[h]) w := by kernel_rfl
theorem methodComparable (h : Value) (w : World) : (Go.method 257 94 (.agg #[h]) "Comparable").run Tryd.prog w = .ok (94, .agg #[h]) w := by kernel_rfl
theorem methodUnwrap (a : Addr) (w : World) : (Go.method 257 49 (.pointer (some a)) "Unwrap").run Tryd.prog w = .ok (22, .pointer (some a)) w := by kernel_rfl
theorem comparableE (w : World) : (callFunc 94 #[.agg #[.pointer (some ⟨5, 29, none⟩)]]).run Tryd.prog w = .ok (.value (.bool true)) (w) := by kernel_rfl
/-! ### which interfaces an error has -/
theorem noAsE (v : Value) (xT : TypeId) (w : World) : (Instr.typeAssert (.iface 29 v) xT 98 true).run Tryd.prog w = .ok (.tuple #[.nilIface, .bool false]) w := run_typeAssert_lacksB Tryd.underlying98 (by kernel_rfl) (by kernel_rfl) v xT w
theorem noU1E (v : Value) (xT : TypeId) (w : World) : (Instr.typeAssert (.iface 29 v) xT 101 true).run Tryd.prog w = .ok (.tuple #[.nilIface, .bool false]) w := run_typeAssert_lacksB Tryd.underlying101 (by kernel_rfl) (by kernel_rfl) v xT w
theorem noU2E (v : Value) (xT : TypeId) (w : World) : (Instr.typeAssert (.iface 29 v) xT 102 true).run Tryd.prog w = .ok (.tuple #[.nilIface, .bool false]) w := run_typeAssert_lacksB Tryd.underlying102 (by kernel_rfl) (by kernel_rfl) v xT w
theorem noIsE (v : Value) (xT : TypeId) (w : World) : (Instr.typeAssert (.iface 29 v) xT 108 true).run Tryd.prog w = .ok (.tuple #[.nilIface, .bool false]) w := run_typeAssert_lacksB Tryd.underlying108 (by kernel_rfl) (by kernel_rfl) v xT w
theorem noAsN (v : Value) (xT : TypeId) (w : World) : (Instr.typeAssert (.iface 31 v) xT 98 true).run Tryd.prog w = .ok (.tuple #[.nilIface, .bool false]) w := run_typeAssert_lacksB Tryd.underlying98 (by kernel_rfl) (by kernel_rfl) v xT w
theorem noU1N (v : Value) (xT : TypeId) (w : World) : (Instr.typeAssert (.iface 31 v) xT 101 true).run Tryd.prog w = .ok (.tuple #[.nilIface, .bool false]) w := run_typeAssert_lacksB Tryd.underlying101 (by kernel_rfl) (by kernel_rfl) v xT w
theorem noU2N (v : Value) (xT : TypeId) (w : World) : (Instr.typeAssert (.iface 31 v) xT 102 true).run Tryd.prog w = .ok (.tuple #[.nilIface, .bool false]) w := run_typeAssert_lacksB Tryd.underlying102 (by kernel_rfl) (by kernel_rfl) v xT w
theorem noIsN (v : Value) (xT : TypeId) (w : World) : (Instr.typeAssert (.iface 31 v) xT 108 true).run Tryd.prog w = .ok (.tuple #[.nilIface, .bool false]) w := run_typeAssert_lacksB Tryd.underlying108 (by kernel_rfl) (by kernel_rfl) v xT w
theorem noAsP (v : Value) (xT : TypeId) (w : World) : (Instr.typeAssert (.iface 49 v) xT 98 true).run Tryd.prog w = .ok (.tuple #[.nilIface, .bool false]) w := run_typeAssert_lacksB Tryd.underlying98 (by kernel_rfl) (by kernel_rfl) v xT w
theorem hasU1P (v : Value) (xT : TypeId) (w : World) : (Instr.typeAssert (.iface 49 v) xT 101 true).run Tryd.prog w = .ok (.tuple #[.iface 49 v, .bool true]) w := run_typeAssert_hasB Tryd.underlying101 (by kernel_rfl) v xT w
theorem noU2P (v : Value) (xT : TypeId) (w : World) : (Instr.typeAssert (.iface 49 v) xT 102 true).run Tryd.prog w = .ok (.tuple #[.nilIface, .bool false]) w := run_typeAssert_lacksB Tryd.underlying102 (by kernel_rfl) (by kernel_rfl) v xT w
theorem noIsP (v : Value) (xT : TypeId) (w : World) : (Instr.typeAssert (.iface 49 v) xT 108 true).run Tryd.prog w = .ok (.tuple #[.nilIface, .bool false]) w := run_typeAssert_lacksB Tryd.underlying108 (by kernel_rfl) (by kernel_rfl) v xT w
end Go.Proofs.YtdlmnhpmdidkeaaDoor
