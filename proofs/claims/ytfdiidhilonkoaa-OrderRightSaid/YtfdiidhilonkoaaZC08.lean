import Derived.Test.YtfdiidhilonkoaaZC02
import Derived.Test.YtfdiidhilonkoaaZC04
import Derived.Test.YtfdiidhilonkoaaZC07
set_option linter.unusedVariables false
/-
  Stores: writes, operations and pairs in memory.
-/
namespace Go.Proofs.Ytfdiidhilonkoaa
open Go.RowKit

/-- A slice of bytes reads as l, in a block from lo on and below hi. -/
def SlI (w : World) (lo hi : Nat) (A : Option Addr) (c : Nat) (l : List UInt8) : Prop := l.length ≤ c ∧ c ≤ maxLen ∧ (A = none → c = 0) ∧ Rd w lo hi A l
/-- A write, and where its bytes lie. -/
structure MW where
  w : Wr
  A : Option Addr
  c : Nat
def mwCells (x : MW) : List Value := [.string (bs x.w.key), .bool x.w.gone, .slice x.A x.w.dat.length x.c]
theorem mwF : Fixed 3 mwCells := ⟨by decide, fun _ => rfl, fun x v hv => by
  simp only [mwCells, List.mem_cons, List.not_mem_nil, or_false] at hv
  rcases hv with rfl | rfl | rfl <;> rfl⟩
def OkMW (w : World) (lo hi : Nat) (x : MW) : Prop := x.w.key.length ≤ maxLen ∧ SlI w lo hi x.A x.c x.w.dat
def RowW (w : World) (lo hi : Nat) (A : Option Addr) (l : List Wr) : Prop := ∃ ms : List MW, ms.map MW.w = l ∧ RowG mwCells w lo hi A ms ∧ ∀ x ∈ ms, OkMW w lo hi x
def ChW (w : World) (lo hi : Nat) (A : Option Addr) (c : Nat) (l : List Wr) : Prop := l.length ≤ c ∧ c ≤ maxLen ∧ (A = none → c = 0) ∧ RowW w lo hi A l
/-- An operation, and where its writes lie. -/
structure MO where
  o : OpS
  A : Option Addr
  c : Nat
def moCells (x : MO) : List Value := [.int .i64 x.o.what, .slice x.A x.o.l.length x.c, .int .u64 x.o.low, .int .u64 x.o.tm, .string (bs x.o.lo), .string (bs x.o.hi)]
theorem moF : Fixed 6 moCells := ⟨by decide, fun _ => rfl, fun x v hv => by
  simp only [moCells, List.mem_cons, List.not_mem_nil, or_false] at hv
  rcases hv with rfl | rfl | rfl | rfl | rfl | rfl <;> rfl⟩
def I64 (n : Int) : Prop := -9223372036854775808 ≤ n ∧ n ≤ 9223372036854775807
def OkMO (w : World) (hi : Nat) (x : MO) : Prop := I64 x.o.what ∧ x.o.low < 18446744073709551616 ∧ x.o.tm < 18446744073709551616 ∧ x.o.lo.length ≤ maxLen ∧ x.o.hi.length ≤ maxLen ∧ ChW w 0 hi x.A x.c x.o.l
def RowO (w : World) (hi : Nat) (A : Option Addr) (l : List OpS) : Prop := ∃ ms : List MO, ms.map MO.o = l ∧ RowG moCells w 0 hi A ms ∧ ∀ x ∈ ms, OkMO w hi x
def ChO (w : World) (hi : Nat) (A : Option Addr) (c : Nat) (l : List OpS) : Prop := l.length ≤ c ∧ c ≤ maxLen ∧ (A = none → c = 0) ∧ RowO w hi A l
def opVal (o : OpS) (A : Option Addr) (c : Nat) : Value := .agg #[.int .i64 o.what, .slice A o.l.length c, .int .u64 o.low, .int .u64 o.tm, .string (bs o.lo), .string (bs o.hi)]
/-- A pair, and where its bytes lie. -/
structure MP where
  k : KeyS
  b : List UInt8
  A : Option Addr
  c : Nat
def mpCells (x : MP) : List Value := [.string (bs x.k), .slice x.A x.b.length x.c]
def MP.p (x : MP) : KeyS × List UInt8 := (x.k, x.b)
theorem mpF : Fixed 2 mpCells := ⟨by decide, fun _ => rfl, fun x v hv => by
  simp only [mpCells, List.mem_cons, List.not_mem_nil, or_false] at hv
  rcases hv with rfl | rfl <;> rfl⟩
def RowP (w : World) (lo hi : Nat) (A : Option Addr) (l : List (KeyS × List UInt8)) : Prop := ∃ ms : List MP, ms.map MP.p = l ∧ RowG mpCells w lo hi A ms ∧ ∀ x ∈ ms, SlI w lo hi x.A x.c x.b
def ChP (w : World) (lo hi : Nat) (A : Option Addr) (c : Nat) (l : List (KeyS × List UInt8)) : Prop := l.length ≤ c ∧ c ≤ maxLen ∧ (A = none → c = 0) ∧ RowP w lo hi A l

/-- Only blocks of F may have changed, beside new ones. -/
structure Mut (F : Nat → Prop) (w w' : World) : Prop where
  os : w'.os = w.os
  tape : w'.tape = w.tape
  output : w'.output = w.output
  size : w.heap.size ≤ w'.heap.size
  block : ∀ k, k < w.heap.size → ¬ F k → w'.heap[k]? = w.heap[k]?
section
variable {F G : Nat → Prop} {w w' w'' : World} {lo hi lo' hi' B : Nat} {A : Option Addr} {c : Nat}
theorem Mut.refl (F : Nat → Prop) (w : World) : Mut F w w := ⟨rfl, rfl, rfl, Nat.le_refl _, fun _ _ _ => rfl⟩
theorem Mut.trans (h : Mut F w w') (k : Mut G w' w'') (hg : ∀ k, G k → F k ∨ w.heap.size ≤ k) : Mut F w w'' :=
  ⟨k.os.trans h.os, k.tape.trans h.tape, k.output.trans h.output, Nat.le_trans h.size k.size, fun i hi hf => (k.block i (Nat.lt_of_lt_of_le hi h.size) fun hgi => by
    rcases hg i hgi with h1 | h1
    · exact hf h1
    · omega).trans (h.block i hi hf)⟩
theorem Mut.wide (h : Mut F w w') (hg : ∀ k, F k → G k) : Mut G w w' := ⟨h.os, h.tape, h.output, h.size, fun k hk hn => h.block k hk fun hf => hn (hg k hf)⟩
theorem Mut.below (h : Mut F w w') (hB : B ≤ w.heap.size) (hF : ∀ k, F k → B ≤ k) : Below B w w' := ⟨h.os, h.tape, h.output, h.size, fun k hk => h.block k (Nat.lt_of_lt_of_le hk hB) fun hf => by have := hF k hf; omega⟩
theorem Below.mut (h : Below w.heap.size w w') (F : Nat → Prop) : Mut F w w' := ⟨h.os, h.tape, h.output, h.size, fun k hk _ => h.block k hk⟩
theorem SlI.sl {d : List UInt8} (h : SlI w lo hi A c d) : Sl w hi A c d := ⟨h.1, h.2.1, h.2.2.1, h.2.2.2.wide (Nat.zero_le _) (Nat.le_refl _)⟩
theorem SlI.none_ (w : World) (lo hi : Nat) : SlI w lo hi none 0 [] := ⟨Nat.le_refl _, Nat.zero_le _, fun _ => rfl, Rd.nil_⟩
theorem SlI.keep {d : List UInt8} (h : SlI w lo hi A c d) (hk : ∀ g, lo ≤ g → g < hi → w'.heap[g]? = w.heap[g]?) : SlI w' lo hi A c d := ⟨h.1, h.2.1, h.2.2.1, h.2.2.2.keep fun p h1 h2 => World.cell?_of_block (hk p.block h1 h2)⟩
theorem SlI.wide {d : List UInt8} (h : SlI w lo hi A c d) (h1 : lo' ≤ lo) (h2 : hi ≤ hi') : SlI w lo' hi' A c d := ⟨h.1, h.2.1, h.2.2.1, h.2.2.2.wide h1 h2⟩
theorem ChP.none_ (w : World) (lo hi : Nat) : ChP w lo hi none 0 [] := ⟨Nat.le_refl _, Nat.zero_le _, fun _ => rfl, [], rfl, RowG.nil_, by simp⟩
theorem ChP.keep {l : List (KeyS × List UInt8)} (h : ChP w lo hi A c l) (hk : ∀ g, lo ≤ g → g < hi → w'.heap[g]? = w.heap[g]?) : ChP w' lo hi A c l := by
  obtain ⟨h1, h2, h3, ms, e, h4, h5⟩ := h
  exact ⟨h1, h2, h3, ms, e, h4.keep fun p k1 k2 => World.cell?_of_block (hk p.block k1 k2), fun x hx => (h5 x hx).keep hk⟩
theorem ChP.wide {l : List (KeyS × List UInt8)} (h : ChP w lo hi A c l) (h1 : lo' ≤ lo) (h2 : hi ≤ hi') : ChP w lo' hi' A c l := by
  obtain ⟨k1, k2, k3, ms, e, h4, h5⟩ := h
  exact ⟨k1, k2, k3, ms, e, h4.wide h1 h2, fun x hx => (h5 x hx).wide h1 h2⟩
theorem SlI.below {d : List UInt8} (h : SlI w lo hi A c d) (hb : Below B w w') (hB : hi ≤ B) (hh : hi ≤ hi') : SlI w' lo hi' A c d := ⟨h.1, h.2.1, h.2.2.1, (h.2.2.2.below hb hB).wide (Nat.le_refl _) hh⟩
theorem OkMW.below {x : MW} (h : OkMW w lo hi x) (hb : Below B w w') (hB : hi ≤ B) (hh : hi ≤ hi') : OkMW w' lo hi' x := ⟨h.1, h.2.below hb hB hh⟩
theorem OkMW.keep {x : MW} (h : OkMW w lo hi x) (hk : ∀ g, lo ≤ g → g < hi → w'.heap[g]? = w.heap[g]?) : OkMW w' lo hi x := ⟨h.1, h.2.keep hk⟩
theorem RowW.below {l : List Wr} (h : RowW w lo hi A l) (hb : Below B w w') (hB : hi ≤ B) (hh : hi ≤ hi') : RowW w' lo hi' A l := by
  obtain ⟨ms, e, h1, h2⟩ := h
  exact ⟨ms, e, (h1.below hb hB).wide (Nat.le_refl _) hh, fun x hx => (h2 x hx).below hb hB hh⟩
theorem ChW.below {l : List Wr} (h : ChW w lo hi A c l) (hb : Below B w w') (hB : hi ≤ B) (hh : hi ≤ hi') : ChW w' lo hi' A c l := ⟨h.1, h.2.1, h.2.2.1, h.2.2.2.below hb hB hh⟩
theorem ChW.keep {l : List Wr} (h : ChW w lo hi A c l) (hk : ∀ g, lo ≤ g → g < hi → w'.heap[g]? = w.heap[g]?) : ChW w' lo hi A c l := by
  obtain ⟨k1, k2, k3, ms, e, h4, h5⟩ := h
  exact ⟨k1, k2, k3, ms, e, h4.keep fun p k1 k2 => World.cell?_of_block (hk p.block k1 k2), fun x hx => (h5 x hx).keep hk⟩
theorem ChW.wide {l : List Wr} (h : ChW w lo hi A c l) (h1 : lo' ≤ lo) (h2 : hi ≤ hi') : ChW w lo' hi' A c l := by
  obtain ⟨k1, k2, k3, ms, e, h4, h5⟩ := h
  exact ⟨k1, k2, k3, ms, e, h4.wide h1 h2, fun x hx => ⟨(h5 x hx).1, (h5 x hx).2.wide h1 h2⟩⟩
theorem ChW.none_ (w : World) (lo hi : Nat) : ChW w lo hi none 0 [] := ⟨Nat.le_refl _, Nat.zero_le _, fun _ => rfl, [], rfl, RowG.nil_, by simp⟩
theorem OkMO.below {x : MO} (h : OkMO w hi x) (hb : Below B w w') (hB : hi ≤ B) (hh : hi ≤ hi') : OkMO w' hi' x := ⟨h.1, h.2.1, h.2.2.1, h.2.2.2.1, h.2.2.2.2.1, h.2.2.2.2.2.below hb hB hh⟩
theorem RowO.below {l : List OpS} (h : RowO w hi A l) (hb : Below B w w') (hB : hi ≤ B) (hh : hi ≤ hi') : RowO w' hi' A l := by
  obtain ⟨ms, e, h1, h2⟩ := h
  exact ⟨ms, e, (h1.below hb hB).wide (Nat.le_refl _) hh, fun x hx => (h2 x hx).below hb hB hh⟩
theorem ChO.below {l : List OpS} (h : ChO w hi A c l) (hb : Below B w w') (hB : hi ≤ B) (hh : hi ≤ hi') : ChO w' hi' A c l := ⟨h.1, h.2.1, h.2.2.1, h.2.2.2.below hb hB hh⟩
theorem RowW.at_ {l : List Wr} (h : RowW w lo hi A l) {j : Nat} (hj : j < l.length) :
    ∃ b o A' c', A = some ⟨b, o, none⟩ ∧ b < hi ∧ w.cell? ⟨b, o + j * 3, none⟩ = some (.string (bs (l[j]'hj).key)) ∧ w.cell? ⟨b, o + j * 3 + 1, none⟩ = some (.bool (l[j]'hj).gone) ∧ w.cell? ⟨b, o + j * 3 + 2, none⟩ = some (.slice A' (l[j]'hj).dat.length c') ∧
      SlI w lo hi A' c' (l[j]'hj).dat ∧ (l[j]'hj).key.length ≤ maxLen := by
  obtain ⟨ms, rfl, h1, h2⟩ := h
  have hj' : j < ms.length := by simpa using hj
  obtain ⟨b, o, e, _, hb, hc⟩ := h1.at_ mwF hj'
  obtain ⟨k1, k2⟩ := h2 _ (List.getElem_mem hj')
  refine ⟨b, o, ms[j].A, ms[j].c, e, hb, ?_, ?_, ?_, by simpa using k2, by simpa using k1⟩
  · have := hc 0 _ rfl
    simpa using this
  · have := hc 1 _ rfl
    simpa using this
  · have := hc 2 _ rfl
    simpa using this
theorem RowO.at_ {l : List OpS} (h : RowO w hi A l) {j : Nat} (hj : j < l.length) :
    ∃ b o A' c', A = some ⟨b, o, none⟩ ∧ b < hi ∧ w.cell? ⟨b, o + j * 6, none⟩ = some (.int .i64 (l[j]'hj).what) ∧ w.cell? ⟨b, o + j * 6 + 1, none⟩ = some (.slice A' (l[j]'hj).l.length c') ∧ w.cell? ⟨b, o + j * 6 + 2, none⟩ = some (.int .u64 (l[j]'hj).low) ∧
      w.cell? ⟨b, o + j * 6 + 3, none⟩ = some (.int .u64 (l[j]'hj).tm) ∧ w.cell? ⟨b, o + j * 6 + 4, none⟩ = some (.string (bs (l[j]'hj).lo)) ∧ w.cell? ⟨b, o + j * 6 + 5, none⟩ = some (.string (bs (l[j]'hj).hi)) ∧ OkMO w hi ⟨l[j]'hj, A', c'⟩ := by
  obtain ⟨ms, rfl, h1, h2⟩ := h
  have hj' : j < ms.length := by simpa using hj
  obtain ⟨b, o, e, _, hb, hc⟩ := h1.at_ moF hj'
  have k := h2 _ (List.getElem_mem hj')
  refine ⟨b, o, ms[j].A, ms[j].c, e, hb, ?_, ?_, ?_, ?_, ?_, ?_, by simpa using k⟩
  · have := hc 0 _ rfl
    simpa using this
  · have := hc 1 _ rfl
    simpa using this
  · have := hc 2 _ rfl
    simpa using this
  · have := hc 3 _ rfl
    simpa using this
  · have := hc 4 _ rfl
    simpa using this
  · have := hc 5 _ rfl
    simpa using this
theorem RowP.at_ {l : List (KeyS × List UInt8)} (h : RowP w lo hi A l) {j : Nat} (hj : j < l.length) :
    ∃ b o A' c', A = some ⟨b, o, none⟩ ∧ b < hi ∧ w.cell? ⟨b, o + j * 2, none⟩ = some (.string (bs (l[j]'hj).1)) ∧ w.cell? ⟨b, o + j * 2 + 1, none⟩ = some (.slice A' (l[j]'hj).2.length c') ∧ SlI w lo hi A' c' (l[j]'hj).2 := by
  obtain ⟨ms, rfl, h1, h2⟩ := h
  have hj' : j < ms.length := by simpa using hj
  obtain ⟨b, o, e, _, hb, hc⟩ := h1.at_ mpF hj'
  have k := h2 _ (List.getElem_mem hj')
  refine ⟨b, o, ms[j].A, ms[j].c, e, hb, ?_, ?_, by simpa [MP.p] using k⟩
  · have := hc 0 _ rfl
    simpa [MP.p] using this
  · have := hc 1 _ rfl
    simpa [MP.p] using this
end
end Go.Proofs.Ytfdiidhilonkoaa
