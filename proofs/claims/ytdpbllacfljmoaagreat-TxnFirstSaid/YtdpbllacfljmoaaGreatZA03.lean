import Derived.Test.YtdpbllacfljmoaaGreatZA01
import Derived.Test.YtdpbllacfljmoaaGreatZA02
import Derived.Deep.LoopGhost
import Derived.RegionTactic
import Derived.Test.YtdpbllacfljmoaaGreatZA00
import Derived.OpenShut
import Derived.BigQuiet
import Derived.Deep.DeepCutAuto
import Derived.Deep.RegionHeld3
set_option maxRecDepth 100000
set_option maxHeartbeats 16000000
set_option linter.unusedVariables false
namespace Go.Proofs.YtdpbllacfljmoaaGreat
open Go.RowKit
def SlI (w : World) (lo hi : Nat) (A : Option Addr) (c : Nat) (l : List UInt8) : Prop := l.length ≤ c ∧ c ≤ maxLen ∧ (A = none → c = 0) ∧ Rd w lo hi A l
structure MW where
 w : Wr
 A : Option Addr
 c : Nat
def q0o (x : MW) : List Value := [.string (bs x.w.key), .bool x.w.gone, .slice x.A x.w.dat.length x.c]
theorem mwF : q0Y 3 q0o := ⟨by decide, fun _ => rfl, fun x v hv => by
 simp only [q0o, List.mem_cons, List.not_mem_nil, or_false] at hv
 rcases hv with rfl | rfl | rfl <;> rfl⟩
def OkMW (w : World) (lo hi : Nat) (x : MW) : Prop := x.w.key.length ≤ maxLen ∧ SlI w lo hi x.A x.c x.w.dat
def RowW (w : World) (lo hi : Nat) (A : Option Addr) (l : List Wr) : Prop := ∃ ms : List MW, ms.map MW.w = l ∧ RowG q0o w lo hi A ms ∧ ∀ x ∈ ms, OkMW w lo hi x
def ChW (w : World) (lo hi : Nat) (A : Option Addr) (c : Nat) (l : List Wr) : Prop := l.length ≤ c ∧ c ≤ maxLen ∧ (A = none → c = 0) ∧ RowW w lo hi A l
def I64 (n : Int) : Prop := -9223372036854775808 ≤ n ∧ n ≤ 9223372036854775807
structure MP where
 k : KeyS
 b : List UInt8
 A : Option Addr
 c : Nat
def q0f (x : MP) : List Value := [.string (bs x.k), .slice x.A x.b.length x.c]
def MP.p (x : MP) : KeyS × List UInt8 := (x.k, x.b)
theorem mpF : q0Y 2 q0f := ⟨by decide, fun _ => rfl, fun x v hv => by
 simp only [q0f, List.mem_cons, List.not_mem_nil, or_false] at hv
 rcases hv with rfl | rfl <;> rfl⟩
def RowP (w : World) (lo hi : Nat) (A : Option Addr) (l : List (KeyS × List UInt8)) : Prop := ∃ ms : List MP, ms.map MP.p = l ∧ RowG q0f w lo hi A ms ∧ ∀ x ∈ ms, SlI w lo hi x.A x.c x.b
def ChP (w : World) (lo hi : Nat) (A : Option Addr) (c : Nat) (l : List (KeyS × List UInt8)) : Prop := l.length ≤ c ∧ c ≤ maxLen ∧ (A = none → c = 0) ∧ RowP w lo hi A l
structure Mut (F : Nat → Prop) (w w' : World) : Prop where
 os : w'.os = w.os
 tape : w'.tape = w.tape
 output : w'.output = w.output
 size : w.heap.size ≤ w'.heap.size
 block : ∀ k, k < w.heap.size → ¬ F k → w'.heap[k]? = w.heap[k]?
section
variable {F G : Nat → Prop} {w w' w'' : World} {lo hi lo' hi' B : Nat} {A : Option Addr} {c : Nat}
theorem Mut.refl (F : Nat → Prop) (w : World) : Mut F w w := ⟨rfl, rfl, rfl, Nat.le_refl _, fun _ _ _ => rfl⟩
theorem Mut.trans (h : Mut F w w') (k : Mut G w' w'') (hg : ∀ k, G k → F k ∨ w.heap.size ≤ k) : Mut F w w'' :=
 ⟨k.os.trans h.os, k.tape.trans h.tape, k.output.trans h.output, Nat.le_trans h.size k.size, fun i hi hf => (k.block i (Nat.lt_of_lt_of_le hi h.size) fun hgi => by
  rcases hg i hgi with h1 | h1
  ·exact hf h1
  ·omega).trans (h.block i hi hf)⟩
theorem Mut.wide (h : Mut F w w') (hg : ∀ k, F k → G k) : Mut G w w' := ⟨h.os, h.tape, h.output, h.size, fun k hk hn => h.block k hk fun hf => hn (hg k hf)⟩
theorem Mut.below (h : Mut F w w') (hB : B ≤ w.heap.size) (hF : ∀ k, F k → B ≤ k) : Below B w w' := ⟨h.os, h.tape, h.output, h.size, fun k hk => h.block k (Nat.lt_of_lt_of_le hk hB) fun hf => by have := hF k hf; omega⟩
theorem Below.mut (h : Below w.heap.size w w') (F : Nat → Prop) : Mut F w w' := ⟨h.os, h.tape, h.output, h.size, fun k hk _ => h.block k hk⟩
theorem SlI.sl {d : List UInt8} (h : SlI w lo hi A c d) : Sl w hi A c d := ⟨h.1, h.2.1, h.2.2.1, h.2.2.2.wide (Nat.zero_le _) (Nat.le_refl _)⟩
theorem SlI.none_ (w : World) (lo hi : Nat) : SlI w lo hi none 0 [] := ⟨Nat.le_refl _, Nat.zero_le _, fun _ => rfl, Rd.nil_⟩
theorem SlI.keep {d : List UInt8} (h : SlI w lo hi A c d) (hk : ∀ g, lo ≤ g → g < hi → w'.heap[g]? = w.heap[g]?) : SlI w' lo hi A c d := ⟨h.1, h.2.1, h.2.2.1, h.2.2.2.keep fun p h1 h2 => World.cell?_of_block (hk p.block h1 h2)⟩
theorem SlI.wide {d : List UInt8} (h : SlI w lo hi A c d) (h1 : lo' ≤ lo) (h2 : hi ≤ hi') : SlI w lo' hi' A c d := ⟨h.1, h.2.1, h.2.2.1, h.2.2.2.wide h1 h2⟩
theorem ChP.wide {l : List (KeyS × List UInt8)} (h : ChP w lo hi A c l) (h1 : lo' ≤ lo) (h2 : hi ≤ hi') : ChP w lo' hi' A c l := by
 obtain ⟨k1, k2, k3, ms, e, h4, h5⟩ := h
 exact ⟨k1, k2, k3, ms, e, h4.wide h1 h2, fun x hx => (h5 x hx).wide h1 h2⟩
theorem SlI.below {d : List UInt8} (h : SlI w lo hi A c d) (hb : Below B w w') (hB : hi ≤ B) (hh : hi ≤ hi') : SlI w' lo hi' A c d := ⟨h.1, h.2.1, h.2.2.1, (h.2.2.2.below hb hB).wide (Nat.le_refl _) hh⟩
theorem OkMW.below {x : MW} (h : OkMW w lo hi x) (hb : Below B w w') (hB : hi ≤ B) (hh : hi ≤ hi') : OkMW w' lo hi' x := ⟨h.1, h.2.below hb hB hh⟩
theorem OkMW.keep {x : MW} (h : OkMW w lo hi x) (hk : ∀ g, lo ≤ g → g < hi → w'.heap[g]? = w.heap[g]?) : OkMW w' lo hi x := ⟨h.1, h.2.keep hk⟩
theorem RowW.below {l : List Wr} (h : RowW w lo hi A l) (hb : Below B w w') (hB : hi ≤ B) (hh : hi ≤ hi') : RowW w' lo hi' A l := by
 obtain ⟨ms, e, h1, h2⟩ := h
 exact ⟨ms, e, (h1.below hb hB).wide (Nat.le_refl _) hh, fun x hx => (h2 x hx).below hb hB hh⟩
theorem ChW.keep {l : List Wr} (h : ChW w lo hi A c l) (hk : ∀ g, lo ≤ g → g < hi → w'.heap[g]? = w.heap[g]?) : ChW w' lo hi A c l := by
 obtain ⟨k1, k2, k3, ms, e, h4, h5⟩ := h
 exact ⟨k1, k2, k3, ms, e, h4.keep fun p k1 k2 => World.cell?_of_block (hk p.block k1 k2), fun x hx => (h5 x hx).keep hk⟩
theorem ChW.wide {l : List Wr} (h : ChW w lo hi A c l) (h1 : lo' ≤ lo) (h2 : hi ≤ hi') : ChW w lo' hi' A c l := by
 obtain ⟨k1, k2, k3, ms, e, h4, h5⟩ := h
 exact ⟨k1, k2, k3, ms, e, h4.wide h1 h2, fun x hx => ⟨(h5 x hx).1, (h5 x hx).2.wide h1 h2⟩⟩
theorem RowW.at_ {l : List Wr} (h : RowW w lo hi A l) {j : Nat} (hj : j < l.length) :
  ∃ b o A' c', A = some ⟨b, o, none⟩ ∧ b < hi ∧ w.cell? ⟨b, o + j * 3, none⟩ = some (.string (bs (l[j]'hj).key)) ∧ w.cell? ⟨b, o + j * 3 + 1, none⟩ = some (.bool (l[j]'hj).gone) ∧ w.cell? ⟨b, o + j * 3 + 2, none⟩ = some (.slice A' (l[j]'hj).dat.length c') ∧
   SlI w lo hi A' c' (l[j]'hj).dat ∧ (l[j]'hj).key.length ≤ maxLen := by
 obtain ⟨ms, rfl, h1, h2⟩ := h
 have hj' : j < ms.length := by simpa using hj
 obtain ⟨b, o, e, _, hb, hc⟩ := h1.at_ mwF hj'
 obtain ⟨k1, k2⟩ := h2 _ (List.getElem_mem hj')
 refine ⟨b, o, ms[j].A, ms[j].c, e, hb, ?_, ?_, ?_, by simpa using k2, by simpa using k1⟩
 ·have := hc 0 _ rfl
  simpa using this
 ·have := hc 1 _ rfl
  simpa using this
 ·have := hc 2 _ rfl
  simpa using this
end
open Go.RowKit
def q6c (L : LimS) (m r v : Int) : Value := .agg #[.int .i64 L.keys, .int .i64 L.vers, .int .i64 L.byts, .int .i64 m, .int .i64 r, .int .i64 v, .int .u64 L.last]
def okW (l : List Wr) : Prop := l.length ≤ 1048576 ∧ ∀ w ∈ l, w.key.length ≤ 1048576 ∧ w.dat.length ≤ 1048576
def ptrS (p : Nat) : Value := .pointer (some ⟨p, 0, none⟩)
def q0w (k : KeyS) : List Value := [.string (bs k)]
theorem kF : q0Y 1 q0w := ⟨by decide, fun _ => rfl, fun x v hv => by
 simp only [q0w, List.mem_cons, List.not_mem_nil, or_false] at hv
 rcases hv with rfl
 rfl⟩
abbrev q7h := World → Nat → (Nat → Prop) → LimS → PS → Prop
def q9b (St : q7h) (w : World) (p : Nat) (F : Nat → Prop) (L : LimS) (st : PS) (v : Value) (r : Ending) (w' : World) : Prop :=
 r = .returned v ∧ ∃ F', St w' p F' L st ∧ Mut F w w' ∧ ∀ k, F' k → F k ∨ w.heap.size ≤ k
structure qg4 (St : q7h) : Prop where
 keep : ∀ {w w' : World} {p : Nat} {F : Nat → Prop} {L : LimS} {st : PS}, St w p F L st → (∀ k, F k → w'.heap[k]? = w.heap[k]?) → St w' p F L st
 upto : ∀ {w : World} {p : Nat} {F : Nat → Prop} {L : LimS} {st : PS}, St w p F L st → ∀ k, F k → k < w.heap.size
 okay : ∀ {w : World} {p : Nat} {F : Nat → Prop} {L : LimS} {st : PS}, St w p F L st → OkS st ∧ InS L st ∧ MayS L = true ∧ q7i st.K ∧ L.last < 18446744073709551616
 check : ∀ (l : List Wr) (lo hi : Nat) (A : Option Addr) (c : Nat) (w : World), okW l → ChW w lo hi A c l → hi ≤ w.heap.size →
  Calls Tryz.prog 83 #[.slice A l.length c] w fun r w' => r = .returned (.int .i64 (q0j [] l)) ∧ Below w.heap.size w w'
 new : ∀ (L : LimS) (m r v : Int) (w : World), I64 L.keys → I64 L.vers → I64 L.byts → L.last < 18446744073709551616 →
  Calls Tryz.prog 53 #[q6c L m r v] w fun r w' => Below w.heap.size w w' ∧
   (if MayS L = true then ∃ p F, r = .returned (.tuple #[ptrS p, .int .i64 0]) ∧ St w' p F L ⟨0, []⟩ ∧ ∀ k, F k → w.heap.size ≤ k else r = .returned (.tuple #[.pointer none, .int .i64 1]))
 now : ∀ (p : Nat) (F : Nat → Prop) (L : LimS) (st : PS) (w : World), St w p F L st →
  Calls Tryz.prog 65 #[ptrS p] w fun r w' => r = .returned (.int .u64 st.time) ∧ Below w.heap.size w w'
 count : ∀ (p : Nat) (F : Nat → Prop) (L : LimS) (st : PS) (w : World), St w p F L st →
  Calls Tryz.prog 67 #[ptrS p] w fun r w' => r = .returned (.agg #[.int .i64 (st.K.length : Nat), .int .i64 (q1n st.K : Nat), .int .i64 (q3c st.K : Nat)]) ∧ Below w.heap.size w w'
 latest : ∀ (p : Nat) (F : Nat → Prop) (L : LimS) (st : PS) (k : KeyS) (w : World), St w p F L st → k.length ≤ 1048576 →
  Calls Tryz.prog 188 #[ptrS p, .string (bs k)] w fun r w' => r = .returned (.int .u64 (q1Z (q03 st.K k) : Nat)) ∧ Below w.heap.size w w'
 read : ∀ (p : Nat) (F : Nat → Prop) (L : LimS) (st : PS) (k : KeyS) (t : Nat) (w : World), St w p F L st → k.length ≤ 1048576 → t < 18446744073709551616 →
  Calls Tryz.prog 80 #[ptrS p, .string (bs k), .int .u64 t] w fun r w' => ∃ A c, r = .returned (.tuple #[.slice A ((q0V st.K k t).getD []).length c, .bool (q0V st.K k t).isSome]) ∧
   SlI w' w.heap.size w'.heap.size A c ((q0V st.K k t).getD []) ∧ Below w.heap.size w w'
 scan : ∀ (p : Nat) (F : Nat → Prop) (L : LimS) (st : PS) (lo hi : KeyS) (t : Nat) (w : World), St w p F L st → lo.length ≤ 1048576 → hi.length ≤ 1048576 → t < 18446744073709551616 →
  Calls Tryz.prog 74 #[ptrS p, .string (bs lo), .string (bs hi), .int .u64 t] w fun r w' => ∃ A c, r = .returned (.slice A (q1R st.K lo hi t).length c) ∧
   ChP w' w.heap.size w'.heap.size A c (q1R st.K lo hi t) ∧ Below w.heap.size w w'
 commit : ∀ (p : Nat) (F : Nat → Prop) (L : LimS) (st : PS) (l : List Wr) (lo hi : Nat) (A : Option Addr) (c low : Nat) (w : World), St w p F L st → okW l → ChW w lo hi A c l → hi ≤ w.heap.size → (∀ k, F k → k < lo ∨ hi ≤ k) → low < 18446744073709551616 →
  Calls Tryz.prog 136 #[ptrS p, .slice A l.length c, .int .u64 low] w
   (q9b St w p F L (q09 L st l low).1 (.tuple #[.int .u64 (q09 L st l low).2.1, .int .i64 (q09 L st l low).2.2]))
 collect : ∀ (p : Nat) (F : Nat → Prop) (L : LimS) (st : PS) (low : Nat) (w : World), St w p F L st → low < 18446744073709551616 →
  Calls Tryz.prog 89 #[ptrS p, .int .u64 low] w
   (q9b St w p F L ⟨st.time, q08 st.K low⟩ (.int .i64 ((q1n st.K - q1n (q08 st.K low) : Nat) : Int)))
 clone : ∀ (p : Nat) (F : Nat → Prop) (L : LimS) (st : PS) (w : World), St w p F L st →
  Calls Tryz.prog 87 #[ptrS p] w fun r w' => ∃ q F', r = .returned (ptrS q) ∧ St w' q F' L st ∧ (∀ k, F' k → w.heap.size ≤ k) ∧ Below w.heap.size w w'
open Go.RowKit
end Go.Proofs.YtdpbllacfljmoaaGreat
namespace Go.Proofs.YtdpbllacfljmoaaGreat
open Go.RowKit
theorem qer (m : Nat) (h : m < 256) : ((UInt8.ofNat m).toNat : Int) = (m : Int) := by
 have : (UInt8.ofNat m).toNat = m := by simp; omega
 omega
open Go.RowKit
open Go.RowKit
open Go.RowKit
open Go.RowKit
def qgt (k : IntKind) (w : World) (a : Option Addr) (len cap : Nat) (zs : List Int) : Prop :=
 (a = none ∧ len = 0 ∧ cap = 0 ∧ zs = []) ∨
 ∃ x, a = some x ∧ len ≤ cap ∧ cap ≤ maxLen ∧ zs.length = cap ∧ (∀ i, i < zs.length → w.cell? (x.add i) = some (.int k (zs.getD i 0))) ∧ ∀ n ∈ zs, (Lit.int k n).wf = true
theorem qes {w : World} {a : Option Addr} {len cap : Nat} {zs : List Int} (h : qgt .u8 w a len cap zs) :
  ∃ l : List UInt8, len = l.length ∧ len ≤ cap ∧ cap ≤ maxLen ∧ (a = none → cap = 0) ∧ Rd w 0 w.heap.size a l := by
 rcases h with ⟨rfl, rfl, rfl, rfl⟩ | ⟨x, rfl, h1, h2, h3, hc, hw⟩
 ·exact ⟨[], rfl, Nat.le_refl _, Nat.zero_le _, fun _ => rfl, Rd.nil_⟩
 ·refine ⟨(zs.take len).map fun n => UInt8.ofNat n.toNat, by rw [List.length_map, List.length_take]; omega, h1, h2, fun h => (by cases h), fun hp => ?_⟩
  rw [List.length_map, List.length_take] at hp
  obtain ⟨b, off, rfl, hc'⟩ := ints_at hc (by omega)
  refine ⟨b, off, rfl, Nat.zero_le _, World.block_lt_of_cell? w ⟨b, off + 0, none⟩ (hc' 0 (by omega)), fun j hj => ?_⟩
  rw [List.length_map, List.length_take] at hj
  have hjz : j < zs.length := by omega
  rw [hc' j hjz, List.getElem_map, List.getElem_take, List.getD_eq_getElem?_getD, List.getElem?_eq_getElem hjz]
  have hb := bounds_u8 (hw _ (List.getElem_mem hjz))
  have e : ((UInt8.ofNat (zs[j]).toNat).toNat : Int) = zs[j] := by rw [qer _ (by omega)]; omega
  rw [e]
  rfl
open Go.RowKit
theorem q04 {P : Program} {C : World → Prop} {id : Nat} {Q : Exit → Act → World → Prop} {a : Act} {w : World} {l : List Oper} (hm : P.follows .mixedOrders = true) (hB : Region.lexB .any l.toArray = true) (hC : C w.drew)
  (h : wpQuiet P l.toArray C (fun a' => ∀ w', C w' → Q .normal a' w') l a) : (Code.region id l.toArray true).wp P Q a w :=
 wp_region_quiet (C := C) hm hB hC (by simpa using h)
open Go.RowKit
open Go.RowKit
def q2a (t : q4h) (A : Option Addr) (c : Nat) (B : Option Addr) (d : Nat) : Value := .agg #[.int .u64 t.n, .int .i64 t.e, .slice A t.b.length c, .bool t.is, .slice B t.scan.length d]
open Go.RowKit
theorem qen {w : World} {b : Nat} {e : TypeId} {a0 a1 a2 a3 a4 a5 a6 : Value} (h : w.heap[b]? = some (.cells #[a0, a1, a2, a3, a4, a5, a6] e (0, 0))) (v0 v1 v2 v3 v4 v5 v6 : Value) :
  (((((((w.setCell ⟨b, 0, none⟩ v0).setCell ⟨b, 1, none⟩ v1).setCell ⟨b, 2, none⟩ v2).setCell ⟨b, 3, none⟩ v3).setCell ⟨b, 4, none⟩ v4).setCell ⟨b, 5, none⟩ v5).setCell ⟨b, 6, none⟩ v6).heap[b]? = some (.cells #[v0, v1, v2, v3, v4, v5, v6] e (0, 0)) := by
 simp [World.setCell, Array.getElem?_modify, h]
theorem Below.box7 {w w' : World} {B b : Nat} (h : Below B w w') (hb : B ≤ b) (v0 v1 v2 v3 v4 v5 v6 : Value) : Below B w (((((((w'.setCell ⟨b, 0, none⟩ v0).setCell ⟨b, 1, none⟩ v1).setCell ⟨b, 2, none⟩ v2).setCell ⟨b, 3, none⟩ v3).setCell ⟨b, 4, none⟩ v4).setCell ⟨b, 5, none⟩ v5).setCell ⟨b, 6, none⟩ v6) :=
 ((((((h.setCell hb _).setCell hb _).setCell hb _).setCell hb _).setCell hb _).setCell hb _).setCell hb _
open Go.RowKit
theorem q2O {w : World} {b : Nat} {e : TypeId} {a0 a1 a2 a3 a4 : Value} (h : w.heap[b]? = some (.cells #[a0, a1, a2, a3, a4] e (0, 0))) (v0 v1 v2 v3 v4 : Value) :
  (((((w.setCell ⟨b, 0, none⟩ v0).setCell ⟨b, 1, none⟩ v1).setCell ⟨b, 2, none⟩ v2).setCell ⟨b, 3, none⟩ v3).setCell ⟨b, 4, none⟩ v4).heap[b]? = some (.cells #[v0, v1, v2, v3, v4] e (0, 0)) := by
 simp [World.setCell, Array.getElem?_modify, h]
theorem q4s (w : World) (p : Addr) (v : Value) : Mut (fun k => k = p.block) w (w.setCell p v) := by
 have h := (Below.refl 0 w).setCell (Nat.zero_le p.block) v
 refine ⟨h.os, h.tape, h.output, h.size, fun k _ hk => ?_⟩
 have hk' : p.block ≠ k := fun e => hk e.symm
 simp [World.setCell, Array.getElem?_modify, hk']
theorem q2d (w : World) (b : Nat) (v0 v1 v2 v3 v4 : Value) : Mut (fun k => k = b) w (((((w.setCell ⟨b, 0, none⟩ v0).setCell ⟨b, 1, none⟩ v1).setCell ⟨b, 2, none⟩ v2).setCell ⟨b, 3, none⟩ v3).setCell ⟨b, 4, none⟩ v4) :=
 (((((q4s w ⟨b, 0, none⟩ v0).trans (q4s _ ⟨b, 1, none⟩ v1) (fun _ h => .inl h)).trans (q4s _ ⟨b, 2, none⟩ v2) (fun _ h => .inl h)).trans (q4s _ ⟨b, 3, none⟩ v3) (fun _ h => .inl h)).trans (q4s _ ⟨b, 4, none⟩ v4) (fun _ h => .inl h))
open Go.RowKit
def st2 : PS := ⟨2, [([97], [⟨1, false, [120]⟩, ⟨2, true, []⟩])]⟩
open Go.RowKit
theorem qaa (t : TypeId) (a b : ByteArray) : binOp .leq t (.string a) (.string b) = pure (.bool (Op.bytesLess a.toList b.toList || a.toList == b.toList)) := by simp [binOp, Op.stringOp]
theorem q0c {w : World} {b g : Nat} (hg : g ≠ b) (o : Nat) (v : Value) : (w.setCell ⟨b, o, none⟩ v).heap[g]? = w.heap[g]? := by
 have hg' : b ≠ g := fun e => hg e.symm
 simp [World.setCell, Array.getElem?_modify, hg']
section
variable {St : q7h} {w : World}
end
open Go.RowKit
theorem q90 (a b : List Ver) : q0z (a ++ b) = q0z a + q0z b := by
 induction a with
 | nil => simp [q0z]
 | cons x a ih =>
  have e : ∀ l : List Ver, q0z (x :: l) = x.dat.length + q0z l := fun l => by simp [q0z]
  rw [List.cons_append, e, e, ih]
  omega
theorem qbU {l : List Ver} {j : Nat} (hj : j < l.length) : q0z (l.take (j + 1)) = q0z (l.take j) + (l[j]'hj).dat.length := by
 rw [List.take_succ_eq_append_getElem hj, q90]
 rfl
theorem q7M (l : List Ver) (j : Nat) : q0z (l.take j) ≤ q0z l := by
 have h : q0z l = q0z (l.take j) + q0z (l.drop j) := by
  rw [← q90, List.take_append_drop]
 omega
open Go.RowKit
def optH (o : Option Ver) : Ver := o.getD Ver0
open Go.RowKit
open Go.RowKit
def ChH (w : World) (hi : Nat) (A : Option Addr) (c : Nat) (l : List Ver) : Prop := l.length ≤ c ∧ c ≤ maxLen ∧ (A = none → c = 0) ∧ RowH w hi A l
theorem ChH.none_ (w : World) (hi : Nat) : ChH w hi none 0 [] := ⟨Nat.le_refl _, Nat.zero_le _, fun _ => rfl, RowH.nil_ _ _ _⟩
open Go.RowKit
section
variable {w w' : World} {hi hi' B : Nat} {A : Option Addr} {ms : List MV}
end
open Go.RowKit
structure MOne where
 key : KeyS
 A : Option Addr
 c : Nat
 ms : List MV
def RowS {α : Type} (cs : α → List Value) (w : World) (S : Nat → Prop) (A : Option Addr) (l : List α) : Prop :=
 0 < l.length → ∃ b o, A = some ⟨b, o, none⟩ ∧ S b ∧ ∀ j u, (q0i cs l)[j]? = some u → w.cell? ⟨b, o + j, none⟩ = some u
def RdS (w : World) (S : Nat → Prop) (A : Option Addr) (l : List UInt8) : Prop :=
 0 < l.length → ∃ b o, A = some ⟨b, o, none⟩ ∧ S b ∧ ∀ j (h : j < l.length), w.cell? ⟨b, o + j, none⟩ = some (.int .u8 ((l[j]'h).toNat : Int))
section
variable {α : Type} {k : Nat} {cs : α → List Value} {w w' : World} {S T : Nat → Prop} {A : Option Addr} {l : List α}
theorem RowS.block (hF : q0Y k cs) (h : RowS cs w S A l) (hn : 0 < l.length) : ∃ b o, A = some ⟨b, o, none⟩ ∧ S b ∧ b < w.heap.size ∧ ∀ j u, (q0i cs l)[j]? = some u → w.cell? ⟨b, o + j, none⟩ = some u := by
 obtain ⟨b, o, e, hs, hc⟩ := h hn
 have h0 : 0 < (q0i cs l).length := by rw [hF.flat_len]; exact Nat.mul_pos hn hF.pos
 have := World.block_lt_of_cell? w _ (hc 0 _ (List.getElem?_eq_getElem h0))
 exact ⟨b, o, e, hs, by simpa using this, hc⟩
theorem RowS.rowG (hF : q0Y k cs) (h : RowS cs w S A l) : RowG cs w 0 w.heap.size A l := fun hn => by
 obtain ⟨b, o, e, _, hb, hc⟩ := h.block hF hn
 exact ⟨b, o, e, Nat.zero_le _, hb, hc⟩
theorem RowS.keep (hF : q0Y k cs) (h : RowS cs w S A l) (hk : ∀ g, S g → g < w.heap.size → w'.heap[g]? = w.heap[g]? ∧ T g) : RowS cs w' T A l := fun hn => by
 obtain ⟨b, o, e, hs, hb, hc⟩ := h.block hF hn
 obtain ⟨h1, h2⟩ := hk b hs hb
 exact ⟨b, o, e, h2, fun j u hj => (World.cell?_of_block (a := ⟨b, o + j, none⟩) h1).trans (hc j u hj)⟩
theorem RowS.of_new {lo hi : Nat} (h : RowG cs w lo hi A l) (hS : ∀ g, lo ≤ g → S g) : RowS cs w S A l := fun hn => by
 obtain ⟨b, o, e, h1, _, hc⟩ := h hn
 exact ⟨b, o, e, hS b h1, hc⟩
theorem RdS.block {d : List UInt8} (h : RdS w S A d) (hn : 0 < d.length) : ∃ b o, A = some ⟨b, o, none⟩ ∧ S b ∧ b < w.heap.size ∧ ∀ j (h : j < d.length), w.cell? ⟨b, o + j, none⟩ = some (.int .u8 ((d[j]'h).toNat : Int)) := by
 obtain ⟨b, o, e, hs, hc⟩ := h hn
 have := World.block_lt_of_cell? w _ (hc 0 hn)
 exact ⟨b, o, e, hs, by simpa using this, hc⟩
theorem RdS.rd {d : List UInt8} (h : RdS w S A d) : Rd w 0 w.heap.size A d := fun hn => by
 obtain ⟨b, o, e, _, hb, hc⟩ := h.block hn
 exact ⟨b, o, e, Nat.zero_le _, hb, hc⟩
theorem RdS.keep {d : List UInt8} (h : RdS w S A d) (hk : ∀ g, S g → g < w.heap.size → w'.heap[g]? = w.heap[g]? ∧ T g) : RdS w' T A d := fun hn => by
 obtain ⟨b, o, e, hs, hb, hc⟩ := h.block hn
 obtain ⟨h1, h2⟩ := hk b hs hb
 exact ⟨b, o, e, h2, fun j hj => (World.cell?_of_block (a := ⟨b, o + j, none⟩) h1).trans (hc j hj)⟩
theorem RdS.of_rd {d : List UInt8} {lo hi : Nat} (h : Rd w lo hi A d) (hS : ∀ g, lo ≤ g → g < hi → S g) : RdS w S A d := fun hn => by
 obtain ⟨b, o, e, h1, h2, hc⟩ := h hn
 exact ⟨b, o, e, hS b h1 h2, hc⟩
end
section
variable {w w' : World} {p : Nat} {S T : Nat → Prop} {L : LimS} {m r v : Int} {time : Nat} {A : Option Addr} {c : Nat} {os : List MOne}
end
structure Sp where
 lo : List UInt8
 hi : List UInt8
abbrev blo (a b : List UInt8) : Bool := !blt b a
def endS (hi k : List UInt8) : Bool := hi.isEmpty || blt k hi
def hasS (s : Sp) (k : List UInt8) : Bool := blo s.lo k && endS s.hi k
def q0g (s : Sp) : Bool := endS s.hi s.lo
def inP (l : List Sp) (k : List UInt8) : Bool := l.any fun s => hasS s k
def gapS (s t : Sp) : Prop := s.hi ≠ [] ∧ blt s.hi t.lo = true
def q0D : List Sp → Prop
 | [] => True
 | s :: l => q0g s = true ∧ (∀ t ∈ l, gapS s t) ∧ q0D l
theorem q1p (a : List UInt8) : blo a a = true := by simp [blo, q0S]
theorem q23 {a b : List UInt8} (h : blt a b = true) : blo a b = true := by simp [blo, q1T h]
theorem q7m {a b : List UInt8} : blo a b = true ↔ blt a b = true ∨ a = b := by
 constructor
 ·intro h
  rcases q25 a b with g | g | g
  ·exact .inl g
  ·exact .inr g
  ·simp [blo, g] at h
 ·rintro (h | rfl)
  ·exact q23 h
  ·exact q1p _
theorem qar {a b c : List UInt8} (h : blo a b = true) (h2 : blt b c = true) : blt a c = true := by
 rcases q7m.1 h with g | rfl
 ·exact q0q g h2
 ·exact h2
theorem q5c {a b c : List UInt8} (h : blt a b = true) (h2 : blo b c = true) : blt a c = true := by
 rcases q7m.1 h2 with g | rfl
 ·exact q0q h g
 ·exact h
theorem q1i {a b c : List UInt8} (h : blo a b = true) (h2 : blo b c = true) : blo a c = true := by
 rcases q7m.1 h with g | rfl
 ·exact q23 (q5c g h2)
 ·exact h2
theorem qaq {a b : List UInt8} (h : blo a b = true) (h2 : blo b a = true) : a = b := by
 rcases q7m.1 h with g | g
 ·rw [blo, g] at h2; cases h2
 ·exact g
theorem q4a {a b : List UInt8} (h : ¬ blo a b = true) : blt b a = true := by
 rcases q25 a b with g | g | g
 ·exact absurd (q23 g) h
 ·exact absurd (g ▸ q1p a) h
 ·exact g
theorem q6W {s : Sp} (h : q0g s = true) : hasS s s.lo = true := by
 unfold hasS
 rw [q1p]
 exact h
theorem q0x {s : Sp} {k : List UInt8} : hasS s k = true ↔ blo s.lo k = true ∧ endS s.hi k = true := by
 unfold hasS
 rw [Bool.and_eq_true]
theorem q0B {hi k : List UInt8} : endS hi k = true ↔ hi = [] ∨ blt k hi = true := by
 unfold endS
 rw [Bool.or_eq_true, List.isEmpty_iff]
theorem q1l {l : List Sp} {k : List UInt8} : inP l k = true ↔ ∃ s ∈ l, hasS s k = true := by
 unfold inP
 rw [List.any_eq_true]
theorem q4o {s t : Sp} (h : q0g s = true) (hg : gapS s t) : blt s.lo t.lo = true := by
 rcases q0B.1 h with g | g
 ·exact absurd g hg.1
 ·exact q0q g hg.2
theorem q9P {s : Sp} {l : List Sp} (hg : ∀ t ∈ l, gapS s t) {k : List UInt8} (hk : blo k s.hi = true) : inP l k = false := by
 cases h : inP l k
 ·rfl
 ·obtain ⟨t, ht, hh⟩ := q1l.1 h
  have h1 := (q0x.1 hh).1
  have h2 := q5c (hg t ht).2 h1
  have h3 := qar hk h2
  rw [q0S] at h3
  cases h3
theorem qdp {s : Sp} {l : List Sp} (h : q0D (s :: l)) {k : List UInt8} (hk : inP (s :: l) k = true) : blo s.lo k = true := by
 obtain ⟨t, ht, hh⟩ := q1l.1 hk
 rcases List.mem_cons.1 ht with rfl | ht
 ·exact (q0x.1 hh).1
 ·exact q1i (q23 (q4o h.1 (h.2.1 t ht))) (q0x.1 hh).1
theorem qdo : ∀ {a b : List Sp}, q0D a → q0D b → (∀ k, inP a k = inP b k) → a = b
 | [], [], _, _, _ => rfl
 | [], t :: b, _, hb, h => by
  have := h t.lo
  rw [q1l.2 ⟨t, List.mem_cons_self .., q6W hb.1⟩] at this
  cases this
 | s :: a, [], ha, _, h => by
  have := h s.lo
  rw [q1l.2 ⟨s, List.mem_cons_self .., q6W ha.1⟩] at this
  cases this
 | s :: a, t :: b, ha, hb, h => by
  have hs : inP (s :: a) s.lo = true := q1l.2 ⟨s, List.mem_cons_self .., q6W ha.1⟩
  have ht : inP (t :: b) t.lo = true := q1l.2 ⟨t, List.mem_cons_self .., q6W hb.1⟩
  have e1 : s.lo = t.lo := qaq (qdp ha (by rw [h]; exact ht)) (qdp hb (by rw [← h]; exact hs))
  have key : ∀ {x y : Sp} {p q : List Sp}, q0D (x :: p) → q0D (y :: q) → x.lo = y.lo → (∀ k, inP (x :: p) k = inP (y :: q) k) → x.hi ≠ [] → endS y.hi x.hi = true → False := by
   intro x y p q hx hy e hh hne hend
   have hxl : blt x.lo x.hi = true := by
    rcases q0B.1 hx.1 with g | g
    ·exact absurd g hne
    ·exact g
   have h1 : inP (y :: q) x.hi = true := q1l.2 ⟨y, List.mem_cons_self .., q0x.2 ⟨by rw [← e]; exact q23 hxl, hend⟩⟩
   rw [← hh] at h1
   obtain ⟨z, hz, hzz⟩ := q1l.1 h1
   rcases List.mem_cons.1 hz with rfl | hz
   ·rcases q0B.1 (q0x.1 hzz).2 with g | g
    ·exact hne g
    ·rw [q0S] at g; cases g
   ·have := q9P hx.2.1 (q1p x.hi)
    rw [q1l.2 ⟨z, hz, hzz⟩] at this
    cases this
  have e2 : s.hi = t.hi := by
   by_cases hs0 : s.hi = []
   ·by_cases ht0 : t.hi = []
    ·rw [hs0, ht0]
    ·exact (key hb ha e1.symm (fun k => (h k).symm) ht0 (q0B.2 (.inl hs0))).elim
   ·by_cases ht0 : t.hi = []
    ·exact (key ha hb e1 h hs0 (q0B.2 (.inl ht0))).elim
    ·rcases q25 s.hi t.hi with g | g | g
     ·exact (key ha hb e1 h hs0 (q0B.2 (.inr g))).elim
     ·exact g
     ·exact (key hb ha e1.symm (fun k => (h k).symm) ht0 (q0B.2 (.inr g))).elim
  have e : s = t := by cases s; cases t; simp only at e1 e2; subst e1 e2; rfl
  subst e
  have ht : ∀ k, inP a k = inP b k := fun k => by
   have hk := h k
   have c : ∀ l : List Sp, inP (s :: l) k = (hasS s k || inP l k) := fun l => by simp [inP]
   rw [c, c] at hk
   cases hq : hasS s k
   ·rw [hq, Bool.false_or, Bool.false_or] at hk
    exact hk
   ·rcases q0B.1 (q0x.1 hq).2 with g | g
    ·have na : a = [] := by
      cases a with
      | nil => rfl
      | cons x a => exact absurd g (ha.2.1 x (List.mem_cons_self ..)).1
     have nb : b = [] := by
      cases b with
      | nil => rfl
      | cons x b => exact absurd g (hb.2.1 x (List.mem_cons_self ..)).1
     rw [na, nb]
    ·rw [q9P ha.2.1 (q23 g), q9P hb.2.1 (q23 g)]
  rw [qdo ha.2.2 hb.2.2 ht]
def maxS (a b : List UInt8) : List UInt8 := if blt a b = true then b else a
def minS (a b : List UInt8) : List UInt8 := if blt a b = true then a else b
def q2t (a b : Sp) : Bool := hasS a (maxS a.lo b.lo) && hasS b (maxS a.lo b.lo)
theorem qfe {a b k : List UInt8} : blo (maxS a b) k = true ↔ blo a k = true ∧ blo b k = true := by
 unfold maxS
 split
 ·next h => exact ⟨fun g => ⟨q1i (q23 h) g, g⟩, fun g => g.2⟩
 ·next h =>
  have hba : blo b a = true := by simp [blo, h]
  exact ⟨fun g => ⟨g, q1i hba g⟩, fun g => g.1⟩
theorem q1q {hi k j : List UInt8} (h : endS hi k = true) (hj : blo j k = true) : endS hi j = true := by
 rcases q0B.1 h with g | g
 ·exact q0B.2 (.inl g)
 ·exact q0B.2 (.inr (qar hj g))
theorem q6f (a b : Sp) : q2t a b = true ↔ ∃ k, hasS a k = true ∧ hasS b k = true := by
 unfold q2t
 rw [Bool.and_eq_true]
 constructor
 ·exact fun h => ⟨_, h⟩
 ·rintro ⟨k, ha, hb⟩
  obtain ⟨a1, a2⟩ := q0x.1 ha
  obtain ⟨b1, b2⟩ := q0x.1 hb
  have hm := qfe.2 ⟨a1, b1⟩
  have hr := qfe.1 (q1p (maxS a.lo b.lo))
  exact ⟨q0x.2 ⟨hr.1, q1q a2 hm⟩, q0x.2 ⟨hr.2, q1q b2 hm⟩⟩
end Go.Proofs.YtdpbllacfljmoaaGreat
