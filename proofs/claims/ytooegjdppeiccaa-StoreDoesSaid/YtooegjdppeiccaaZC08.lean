import Derived.Test.YtooegjdppeiccaaZC02
import Derived.Test.YtooegjdppeiccaaZC04
import Derived.Test.YtooegjdppeiccaaZC07
/-
  Stores: writes, operations and pairs in memory.
-/
namespace Go.Proofs.Ytooegjdppeiccaa
open Go.RowKit

/-- A slice of bytes reads as l, in a block from lo on and below hi. -/
def SlI (w : World) (lo hi : Nat) (A : Option Addr) (c : Nat) (l : List UInt8) : Prop := l.length ≤ c ∧ c ≤ maxLen ∧ (A = none → c = 0) ∧ Rd w lo hi A l
/-- A write, and where its bytes lie. -/
structure MW where
  w : Wr
  A : Option Addr
  c : Nat
def mwCells (x : MW) : List Value := [.string (bs x.w.key), .bool x.w.gone, .slice x.A x.w.dat.length x.c]
theorem mwF : Fixed 3 mwCells := ⟨by decide, fun _ => rfl, fun x v hv => by
  simp only [mwCells, List.mem_cons, List.not_mem_nil, or_false] at hv
  rcases hv with rfl | rfl | rfl <;> rfl⟩
def OkMW (w : World) (lo hi : Nat) (x : MW) : Prop := x.w.key.length ≤ maxLen ∧ SlI w lo hi x.A x.c x.w.dat
def RowW (w : World) (lo hi : Nat) (A : Option Addr) (l : List Wr) : Prop := ∃ ms : List MW, ms.map MW.w = l ∧ RowG mwCells w lo hi A ms ∧ ∀ x ∈ ms, OkMW w lo hi x
def ChW (w : World) (lo hi : Nat) (A : Option Addr) (c : Nat) (l : List Wr) : Prop := l.length ≤ c ∧ c ≤ maxLen ∧ (A = none → c = 0) ∧ RowW w lo hi A l
/-- An operation, and where its writes lie. -/
structure MO where
  o : OpS
  A : Option Addr
  c : Nat
def moCells (x : MO) : List Value := [.int .i64 x.o.what, .slice x.A x.o.l.length x.c, .int .u64 x.o.low, .int .u64 x.o.tm, .string (bs x.o.lo), .string (bs x.o.hi)]
theorem moF : Fixed 6 moCells := ⟨by decide, fun _ => rfl, fun x v hv => by
  simp only [moCells, List.mem_cons, List.not_mem_nil, or_false] at hv
  rcases hv with rfl | rfl | rfl | rfl | rfl | rfl <;> rfl⟩
def I64 (n : Int) : Prop := -9223372036854775808 ≤ n ∧ n ≤ 9223372036854775807
def OkMO (w : World) (hi : Nat) (x : MO) : Prop := I64 x.o.what ∧ x.o.low < 18446744073709551616 ∧ x.o.tm < 18446744073709551616 ∧ x.o.lo.length ≤ maxLen ∧ x.o.hi.length ≤ maxLen ∧ ChW w 0 hi x.A x.c x.o.l
def RowO (w : World) (hi : Nat) (A : Option Addr) (l : List OpS) : Prop := ∃ ms : List MO, ms.map MO.o = l ∧ RowG moCells w 0 hi A ms ∧ ∀ x ∈ ms, OkMO w hi x
def ChO (w : World) (hi : Nat) (A : Option Addr) (c : Nat) (l : List OpS) : Prop := l.length ≤ c ∧ c ≤ maxLen ∧ (A = none → c = 0) ∧ RowO w hi A l
def opVal (o : OpS) (A : Option Addr) (c : Nat) : Value := .agg #[.int .i64 o.what, .slice A o.l.length c, .int .u64 o.low, .int .u64 o.tm, .string (bs o.lo), .string (bs o.hi)]
/-- A pair, and where its bytes lie. -/
structure MP where
  k : KeyS
  b : List UInt8
  A : Option Addr
  c : Nat
def mpCells (x : MP) : List Value := [.string (bs x.k), .slice x.A x.b.length x.c]
def MP.p (x : MP) : KeyS × List UInt8 := (x.k, x.b)
theorem mpF : Fixed 2 mpCells := ⟨by decide, fun _ => rfl, fun x v hv => by
  simp only [mpCells, List.mem_cons, List.not_mem_nil, or_false] at hv
  rcases hv with rfl | rfl <;> rfl⟩
def RowP (w : World) (lo hi : Nat) (A : Option Addr) (l : List (KeyS × List UInt8)) : Prop := ∃ ms : List MP, ms.map MP.p = l ∧ RowG mpCells w lo hi A ms ∧ ∀ x ∈ ms, SlI w lo hi x.A x.c x.b
def ChP (w : World) (lo hi : Nat) (A : Option Addr) (c : Nat) (l : List (KeyS × List UInt8)) : Prop := l.length ≤ c ∧ c ≤ maxLen ∧ (A = none → c = 0) ∧ RowP w lo hi A l

/-- Only blocks of F may have changed, beside new ones. -/
structure Mut (F : Nat → Prop) (w w' : World) : Prop where
  os : w'.os = w.os
  tape : w'.tape = w.tape
  output : w'.output = w.output
  size : w.heap.size ≤ w'.heap.size
  block : ∀ k, k < w.heap.size → ¬ F k → w'.heap[k]? = w.heap[k]?
section
variable {F G : Nat → Prop} {w w' w'' : World} {lo hi lo' hi' B : Nat} {A : Option Addr} {c : Nat}
theorem Mut.refl (F : Nat → Prop) (w : World) : Mut F w w := ⟨rfl, rfl, rfl, Nat.le_refl _, fun _ _ _ => rfl⟩
theorem Mut.trans (h : Mut F w w') (k : Mut G w' w'') (hg : ∀ k, G k → F k ∨ w.heap.size ≤ k) : Mut F w w'' :=
  ⟨k.os.trans h.os, k.tape.trans h.tape, k.output.trans h.output, Nat.le_trans h.size k.size, fun i hi hf => (k.block i (Nat.lt_of_lt_of_le hi h.size) fun hgi => by
    rcases hg i hgi with h1 | h1
    · exact hf h1
    · omega).trans (h.block i hi hf)⟩
theorem Mut.wide (h : Mut F w w') (hg : ∀ k, F k → G k) : Mut G w w' := ⟨h.os, h.tape, h.output, h.size, fun k hk hn => h.block k hk fun hf => hn (hg k hf)⟩
theorem Mut.below (h : Mut F w w') (hB : B ≤ w.heap.size) (hF : ∀ k, F k → B ≤ k) : Below B w w' := ⟨h.os, h.tape, h.output, h.size, fun k hk => h.block k (Nat.lt_of_lt_of_le hk hB) fun hf => by have := hF k hf; omega⟩
theorem Below.mut (h : Below w.heap.size w w') (F : Nat → Prop) : Mut F w w' := ⟨h.os, h.tape, h.output, h.size, fun k hk _ => h.block k hk⟩
theorem SlI.sl {d : List UInt8} (h : SlI w lo hi A c d) : Sl w hi A c d := ⟨h.1, h.2.1, h.2.2.1, h.2.2.2.wide (Nat.zero_le _) (Nat.le_refl _)⟩
theorem SlI.none_ (w : World) (lo hi : Nat) : SlI w lo hi none 0 [] := ⟨Nat.le_refl _, Nat.zero_le _, fun _ => rfl, Rd.nil_⟩
theorem SlI.keep {d : List UInt8} (h : SlI w lo hi A c d) (hk : ∀ g, lo ≤ g → g < hi → w'.heap[g]? = w.heap[g]?) : SlI w' lo hi A c d := ⟨h.1, h.2.1, h.2.2.1, h.2.2.2.keep fun p h1 h2 => World.cell?_of_block (hk p.block h1 h2)⟩
theorem SlI.wide {d : List UInt8} (h : SlI w lo hi A c d) (h1 : lo' ≤ lo) (h2 : hi ≤ hi') : SlI w lo' hi' A c d := ⟨h.1, h.2.1, h.2.2.1, h.2.2.2.wide h1 h2⟩
theorem ChP.none_ (w : World) (lo hi : Nat) : ChP w lo hi none 0 [] := ⟨Nat.le_refl _, Nat.zero_le _, fun _ => rfl, [], rfl, RowG.nil_, by simp⟩
theorem ChP.keep {l : List (KeyS × List UInt8)} (h : ChP w lo hi A c l) (hk : ∀ g, lo ≤ g → g < hi → w'.heap[g]? = w.heap[g]?) : ChP w' lo hi A c l := by
  obtain ⟨h1, h2, h3, ms, e, h4, h5⟩ := h
  exact ⟨h1, h2, h3, ms, e, h4.keep fun p k1 k2 => World.cell?_of_block (hk p.block k1 k2), fun x hx => (h5 x hx).keep hk⟩
theorem ChP.wide {l : List (KeyS × List UInt8)} (h : ChP w lo hi A c l) (h1 : lo' ≤ lo) (h2 : hi ≤ hi') : ChP w lo' hi' A c l := by
  obtain ⟨k1, k2, k3, ms, e, h4, h5⟩ := h
  exact ⟨k1, k2, k3, ms, e, h4.wide h1 h2, fun x hx => (h5 x hx).wide h1 h2⟩
theorem SlI.below {d : List UInt8} (h : SlI w lo hi A c d) (hb : Below B w w') (hB : hi ≤ B) (hh : hi ≤ hi') : SlI w' lo hi' A c d := ⟨h.1, h.2.1, h.2.2.1, (h.2.2.2.below hb hB).wide (Nat.le_refl _) hh⟩
theorem OkMW.below {x : MW} (h : OkMW w lo hi x) (hb : Below B w w') (hB : hi ≤ B) (hh : hi ≤ hi') : OkMW w' lo hi' x := ⟨h.1, h.2.below hb hB hh⟩
theorem OkMW.keep {x : MW} (h : OkMW w lo hi x) (hk : ∀ g, lo ≤ g → g < hi → w'.heap[g]? = w.heap[g]?) : OkMW w' lo hi x := ⟨h.1, h.2.keep hk⟩
theorem RowW.below {l : List Wr} (h : RowW w lo hi A l) (hb : Below B w w') (hB : hi ≤ B) (hh : hi ≤ hi') : RowW w' lo hi' A l := by
  obtain ⟨ms, e, h1, h2⟩ := h
  exact ⟨ms, e, (h1.below hb hB).wide (Nat.le_refl _) hh, fun x hx => (h2 x hx).below hb hB hh⟩
theorem ChW.below {l : List Wr} (h : ChW w lo hi A c l) (hb : Below B w w') (hB : hi ≤ B) (hh : hi ≤ hi') : ChW w' lo hi' A c l := ⟨h.1, h.2.1, h.2.2.1, h.2.2.2.below hb hB hh⟩
theorem ChW.keep {l : List Wr} (h : ChW w lo hi A c l) (hk : ∀ g, lo ≤ g → g < hi → w'.heap[g]? = w.heap[g]?) : ChW w' lo hi A c l := by
  obtain ⟨k1, k2, k3, ms, e, h4, h5⟩ := h
  exact ⟨k1, k2, k3, ms, e, h4.keep fun p k1 k2 => World.cell?_of_block (hk p.block k1 k2), fun x hx => (h5 x hx).keep hk⟩
theorem ChW.wide {l : List Wr} (h : ChW w lo hi A c l) (h1 : lo' ≤ lo) (h2 : hi ≤ hi') : ChW w lo' hi' A c l := by
  obtain ⟨k1, k2, k3, ms, e, h4, h5⟩ := h
  exact ⟨k1, k2, k3, ms, e, h4.wide h1 h2, fun x hx => ⟨(h5 x hx).1, (h5 x hx).2.wide h1 h2⟩⟩
theorem ChW.none_ (w : World) (lo hi : Nat) : ChW w lo hi none 0 [] := ⟨Nat.le_refl _, Nat.zero_le _, fun _ => rfl, [], rfl, RowG.nil_, by simp⟩
theorem OkMO.below {x : MO} (h : OkMO w hi x) (hb : Below B w w') (hB : hi ≤ B) (hh : hi ≤ hi') : OkMO w' hi' x := ⟨h.1, h.2.1, h.2.2.1, h.2.2.2.1, h.2.2.2.2.1, h.2.2.2.2.2.below hb hB hh⟩
theorem RowO.below {l : List OpS} (h : RowO w hi A l) (hb : Below B w w') (hB : hi ≤ B) (hh : hi ≤ hi') : RowO w' hi' A l := by
  obtain ⟨ms, e, h1, h2⟩ := h
  exact ⟨ms, e, (h1.below hb hB).wide (Nat.le_refl _) hh, fun x hx => (h2 x hx).below hb hB hh⟩
theorem ChO.below {l : List OpS} (h : ChO w hi A c l) (hb : Below B w w') (hB : hi ≤ B) (hh : hi ≤ hi') : ChO w' hi' A c l := ⟨h.1, h.2.1, h.2.2.1, h.2.2.2.below hb hB hh⟩
theorem RowW.at_ {l : List Wr} (h : RowW w lo hi A l) {j : Nat} (hj : j < l.length) :
    ∃ b o A' c', A = some ⟨b, o, none⟩ ∧ b < hi ∧ w.cell? ⟨b, o + j * 3, none⟩ = some (.string (bs (l[j]'hj).key)) ∧ w.cell? ⟨b, o + j * 3 + 1, none⟩ = some (.bool (l[j]'hj).gone) ∧ w.cell? ⟨b, o + j * 3 + 2, none⟩ = some (.slice A' (l[j]'hj).dat.length c') ∧
      SlI w lo hi A' c' (l[j]'hj).dat ∧ (l[j]'hj).key.length ≤ maxLen := by
  obtain ⟨ms, rfl, h1, h2⟩ := h
  have hj' : j < ms.length := by simpa using hj
  obtain ⟨b, o, e, _, hb, hc⟩ := h1.at_ mwF hj'
  obtain ⟨k1, k2⟩ := h2 _ (List.getElem_mem hj')
  refine ⟨b, o, ms[j].A, ms[j].c, e, hb, ?_, ?_, ?_, by simpa using k2, by simpa using k1⟩
  · have := hc 0 _ rfl
    simpa using this
  · have := hc 1 _ rfl
    simpa using this
  · have := hc 2 _ rfl
    simpa using this
theorem RowO.at_ {l : List OpS} (h : RowO w hi A l) {j : Nat} (hj : j < l.length) :
    ∃ b o A' c', A = some ⟨b, o, none⟩ ∧ b < hi ∧ w.cell? ⟨b, o + j * 6, none⟩ = some (.int .i64 (l[j]'hj).what) ∧ w.cell? ⟨b, o + j * 6 + 1, none⟩ = some (.slice A' (l[j]'hj).l.length c') ∧ w.cell? ⟨b, o + j * 6 + 2, none⟩ = some (.int .u64 (l[j]'hj).low) ∧
      w.cell? ⟨b, o + j * 6 + 3, none⟩ = some (.int .u64 (l[j]'hj).tm) ∧ w.cell? ⟨b, o + j * 6 + 4, none⟩ = some (.string (bs (l[j]'hj).lo)) ∧ w.cell? ⟨b, o + j * 6 + 5, none⟩ = some (.string (bs (l[j]'hj).hi)) ∧ OkMO w hi ⟨l[j]'hj, A', c'⟩ := by
  obtain ⟨ms, rfl, h1, h2⟩ := h
  have hj' : j < ms.length := by simpa using hj
  obtain ⟨b, o, e, _, hb, hc⟩ := h1.at_ moF hj'
  have k := h2 _ (List.getElem_mem hj')
  refine ⟨b, o, ms[j].A, ms[j].c, e, hb, ?_, ?_, ?_, ?_, ?_, ?_, by simpa using k⟩
  · have := hc 0 _ rfl
    simpa using this
  · have := hc 1 _ rfl
    simpa using this
  · have := hc 2 _ rfl
    simpa using this
  · have := hc 3 _ rfl
    simpa using this
  · have := hc 4 _ rfl
    simpa using this
  · have := hc 5 _ rfl
    simpa using this
theorem RowP.at_ {l : List (KeyS × List UInt8)} (h : RowP w lo hi A l) {j : Nat} (hj : j < l.length) :
    ∃ b o A' c', A = some ⟨b, o, none⟩ ∧ b < hi ∧ w.cell? ⟨b, o + j * 2, none⟩ = some (.string (bs (l[j]'hj).1)) ∧ w.cell? ⟨b, o + j * 2 + 1, none⟩ = some (.slice A' (l[j]'hj).2.length c') ∧ SlI w lo hi A' c' (l[j]'hj).2 := by
  obtain ⟨ms, rfl, h1, h2⟩ := h
  have hj' : j < ms.length := by simpa using hj
  obtain ⟨b, o, e, _, hb, hc⟩ := h1.at_ mpF hj'
  have k := h2 _ (List.getElem_mem hj')
  refine ⟨b, o, ms[j].A, ms[j].c, e, hb, ?_, ?_, by simpa [MP.p] using k⟩
  · have := hc 0 _ rfl
    simpa [MP.p] using this
  · have := hc 1 _ rfl
    simpa [MP.p] using this
end
end Go.Proofs.Ytooegjdppeiccaa

/-
  What package store has to answer, as contracts, over whatever says that a store lies in memory.
-/
namespace Go.Proofs.Ytooegjdppeiccaa
open Go.RowKit

def limVal (L : LimS) (m r v : Int) : Value := .agg #[.int .i64 L.keys, .int .i64 L.vers, .int .i64 L.byts, .int .i64 m, .int .i64 r, .int .i64 v, .int .u64 L.last]
/-- Writes of a size that the contracts speak of. -/
def okW (l : List Wr) : Prop := l.length ≤ 1048576 ∧ ∀ w ∈ l, w.key.length ≤ 1048576 ∧ w.dat.length ≤ 1048576
def ptrS (p : Nat) : Value := .pointer (some ⟨p, 0, none⟩)
/-- A row of keys. -/
def kCells (k : KeyS) : List Value := [.string (bs k)]
theorem kF : Fixed 1 kCells := ⟨by decide, fun _ => rfl, fun x v hv => by
  simp only [kCells, List.mem_cons, List.not_mem_nil, or_false] at hv
  rcases hv with rfl
  rfl⟩
abbrev InStore := World → Nat → (Nat → Prop) → LimS → PS → Prop
/-- What a call that changes a store tells: its value, and the store behind it. -/
def Turns (St : InStore) (w : World) (p : Nat) (F : Nat → Prop) (L : LimS) (st : PS) (v : Value) (r : Ending) (w' : World) : Prop :=
  r = .returned v ∧ ∃ F', St w' p F' L st ∧ Mut F w w' ∧ ∀ k, F' k → F k ∨ w.heap.size ≤ k
structure StoreC (St : InStore) : Prop where
  keep : ∀ {w w' : World} {p : Nat} {F : Nat → Prop} {L : LimS} {st : PS}, St w p F L st → (∀ k, F k → w'.heap[k]? = w.heap[k]?) → St w' p F L st
  upto : ∀ {w : World} {p : Nat} {F : Nat → Prop} {L : LimS} {st : PS}, St w p F L st → ∀ k, F k → k < w.heap.size
  okay : ∀ {w : World} {p : Nat} {F : Nat → Prop} {L : LimS} {st : PS}, St w p F L st → OkS st ∧ InS L st ∧ MayS L = true ∧ KeysS st.K ∧ L.last < 18446744073709551616
  check : ∀ (l : List Wr) (lo hi : Nat) (A : Option Addr) (c : Nat) (w : World), okW l → ChW w lo hi A c l → hi ≤ w.heap.size →
    Calls Try.prog 21 #[.slice A l.length c] w fun r w' => r = .returned (.int .i64 (checkS [] l)) ∧ Below w.heap.size w w'
  new : ∀ (L : LimS) (m r v : Int) (w : World), I64 L.keys → I64 L.vers → I64 L.byts → L.last < 18446744073709551616 →
    Calls Try.prog 13 #[limVal L m r v] w fun r w' => Below w.heap.size w w' ∧
      (if MayS L = true then ∃ p F, r = .returned (.tuple #[ptrS p, .int .i64 0]) ∧ St w' p F L ⟨0, []⟩ ∧ ∀ k, F k → w.heap.size ≤ k else r = .returned (.tuple #[.pointer none, .int .i64 1]))
  now : ∀ (p : Nat) (F : Nat → Prop) (L : LimS) (st : PS) (w : World), St w p F L st →
    Calls Try.prog 18 #[ptrS p] w fun r w' => r = .returned (.int .u64 st.time) ∧ Below w.heap.size w w'
  count : ∀ (p : Nat) (F : Nat → Prop) (L : LimS) (st : PS) (w : World), St w p F L st →
    Calls Try.prog 19 #[ptrS p] w fun r w' => r = .returned (.agg #[.int .i64 (st.K.length : Nat), .int .i64 (versS st.K : Nat), .int .i64 (bytsS st.K : Nat)]) ∧ Below w.heap.size w w'
  latest : ∀ (p : Nat) (F : Nat → Prop) (L : LimS) (st : PS) (k : KeyS) (w : World), St w p F L st → k.length ≤ 1048576 →
    Calls Try.prog 63 #[ptrS p, .string (bs k)] w fun r w' => r = .returned (.int .u64 (lastH (chainS st.K k) : Nat)) ∧ Below w.heap.size w w'
  read : ∀ (p : Nat) (F : Nat → Prop) (L : LimS) (st : PS) (k : KeyS) (t : Nat) (w : World), St w p F L st → k.length ≤ 1048576 → t < 18446744073709551616 →
    Calls Try.prog 56 #[ptrS p, .string (bs k), .int .u64 t] w fun r w' => ∃ A c, r = .returned (.tuple #[.slice A ((readS st.K k t).getD []).length c, .bool (readS st.K k t).isSome]) ∧
      SlI w' w.heap.size w'.heap.size A c ((readS st.K k t).getD []) ∧ Below w.heap.size w w'
  scan : ∀ (p : Nat) (F : Nat → Prop) (L : LimS) (st : PS) (lo hi : KeyS) (t : Nat) (w : World), St w p F L st → lo.length ≤ 1048576 → hi.length ≤ 1048576 → t < 18446744073709551616 →
    Calls Try.prog 64 #[ptrS p, .string (bs lo), .string (bs hi), .int .u64 t] w fun r w' => ∃ A c, r = .returned (.slice A (scanS st.K lo hi t).length c) ∧
      ChP w' w.heap.size w'.heap.size A c (scanS st.K lo hi t) ∧ Below w.heap.size w w'
  chain : ∀ (p : Nat) (F : Nat → Prop) (L : LimS) (st : PS) (k : KeyS) (w : World), St w p F L st → k.length ≤ 1048576 →
    Calls Try.prog 27 #[ptrS p, .string (bs k)] w fun r w' => ∃ A c, r = .returned (.slice A (chainS st.K k).length c) ∧
      (chainS st.K k).length ≤ c ∧ c ≤ maxLen ∧ (A = none → c = 0) ∧ RowH w' w'.heap.size A (chainS st.K k) ∧ Below w.heap.size w w'
  keys : ∀ (p : Nat) (F : Nat → Prop) (L : LimS) (st : PS) (w : World), St w p F L st →
    Calls Try.prog 24 #[ptrS p] w fun r w' => ∃ A c, r = .returned (.slice A st.K.length c) ∧
      st.K.length ≤ c ∧ c ≤ maxLen ∧ (A = none → c = 0) ∧ RowG kCells w' w.heap.size w'.heap.size A (st.K.map Prod.fst) ∧ Below w.heap.size w w'
  commit : ∀ (p : Nat) (F : Nat → Prop) (L : LimS) (st : PS) (l : List Wr) (lo hi : Nat) (A : Option Addr) (c low : Nat) (w : World), St w p F L st → okW l → ChW w lo hi A c l → hi ≤ w.heap.size → (∀ k, F k → k < lo ∨ hi ≤ k) → low < 18446744073709551616 →
    Calls Try.prog 54 #[ptrS p, .slice A l.length c, .int .u64 low] w
      (Turns St w p F L (commitS L st l low).1 (.tuple #[.int .u64 (commitS L st l low).2.1, .int .i64 (commitS L st l low).2.2]))
  collect : ∀ (p : Nat) (F : Nat → Prop) (L : LimS) (st : PS) (low : Nat) (w : World), St w p F L st → low < 18446744073709551616 →
    Calls Try.prog 57 #[ptrS p, .int .u64 low] w
      (Turns St w p F L ⟨st.time, collectS st.K low⟩ (.int .i64 ((versS st.K - versS (collectS st.K low) : Nat) : Int)))
end Go.Proofs.Ytooegjdppeiccaa
