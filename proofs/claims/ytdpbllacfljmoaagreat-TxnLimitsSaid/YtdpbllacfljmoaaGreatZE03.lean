import Derived.Test.YtdpbllacfljmoaaGreatZE02
import Derived.Test.YtdpbllacfljmoaaGreatZE01
import Derived.Deep.LoopGhost
import Derived.RegionTactic
import Derived.Test.YtdpbllacfljmoaaGreatZE00
import Derived.OpenShut
set_option maxRecDepth 100000
set_option maxHeartbeats 16000000
set_option linter.unusedVariables false
namespace Go.Proofs.YtdpbllacfljmoaaGreat
open Go.RowKit
structure q4k where
 n : Nat
 e : Int
 b : List UInt8
 is : Bool
 scan : List (KeyS × List UInt8)
def qgf : q4k := ⟨0, 0, [], false, []⟩
section
variable {L : LimS} {st : PS} {l : List Wr} {low : Nat}
theorem qaH (h : OkS st) : OkS (q35 L st l low) := by
 unfold q35
 split
 ·exact h
 ·exact q2H h low
theorem q8S : (q35 L st l low).time = st.time := by
 unfold q35
 split <;> rfl
theorem q2c (L : LimS) (st : PS) (l : List Wr) (low : Nat) :
  ((q0a L st l low) = (st, 0, q0h [] l) ∧ q0h [] l ≠ 0) ∨ (q0a L st l low = (st, st.time, 0) ∧ q0h [] l = 0 ∧ l = []) ∨ (q0a L st l low = (st, 0, 5) ∧ q0h [] l = 0 ∧ l ≠ [] ∧ st.time = L.last) ∨
   (q0a L st l low = (⟨st.time + 1, q0s (q35 L st l low) l⟩, st.time + 1, 0) ∧ q0h [] l = 0 ∧ l ≠ [] ∧ st.time ≠ L.last ∧ q3g L (q0s (q35 L st l low) l) = true) ∨
   (q0a L st l low = (q35 L st l low, 0, 5) ∧ q0h [] l = 0 ∧ l ≠ [] ∧ st.time ≠ L.last ∧ q3g L (q0s (q35 L st l low) l) = false) := by
 unfold q0a
 by_cases h1 : q0h [] l = 0
 ·rw [if_neg (fun h => h h1)]
  by_cases h2 : l = []
  ·rw [if_pos h2]
   exact .inr (.inl ⟨rfl, h1, h2⟩)
  ·rw [if_neg h2]
   by_cases h3 : st.time = L.last
   ·rw [if_pos h3]
    exact .inr (.inr (.inl ⟨rfl, h1, h2, h3⟩))
   ·rw [if_neg h3]
    by_cases h4 : q3g L (q0s (q35 L st l low) l) = true
    ·rw [if_pos h4]
     exact .inr (.inr (.inr (.inl ⟨rfl, h1, h2, h3, h4⟩)))
    ·rw [if_neg h4]
     exact .inr (.inr (.inr (.inr ⟨rfl, h1, h2, h3, by simpa using h4⟩)))
 ·rw [if_pos h1]
  exact .inl ⟨rfl, h1⟩
theorem qbE (h : OkS st) (L : LimS) (l : List Wr) (low : Nat) : OkS (q0a L st l low).1 := by
 rcases q2c L st l low with ⟨e, _⟩ | ⟨e, _⟩ | ⟨e, _⟩ | ⟨e, hc, _⟩ | ⟨e, _⟩ <;> rw [e]
 ·exact h
 ·exact h
 ·exact h
 ·have := q7B (qaH (L := L) (l := l) (low := low) h) hc
  rw [q8S] at this
  exact this
 ·exact qaH h
def InS (L : LimS) (st : PS) : Prop := q3g L st.K = true ∧ st.time ≤ L.last
theorem qfr (h : OkS st) (hi : InS L st) : InS L (q35 L st l low) := by
 unfold q35
 split
 ·exact hi
 ·exact ⟨q2P h.sort h.full low hi.1, hi.2⟩
theorem qcP (h : OkS st) (hi : InS L st) (l : List Wr) (low : Nat) : InS L (q0a L st l low).1 := by
 rcases q2c L st l low with ⟨e, _⟩ | ⟨e, _⟩ | ⟨e, _⟩ | ⟨e, _, _, h3, h4⟩ | ⟨e, _⟩ <;> rw [e]
 ·exact hi
 ·exact hi
 ·exact hi
 ·exact ⟨h4, by have := hi.2; show st.time + 1 ≤ L.last; omega⟩
 ·exact qfr h hi
theorem qab (L : LimS) (st : PS) (l : List Wr) (low : Nat) : st.time ≤ (q0a L st l low).1.time := by
 rcases q2c L st l low with ⟨e, _⟩ | ⟨e, _⟩ | ⟨e, _⟩ | ⟨e, _⟩ | ⟨e, _⟩ <;> rw [e]
 ·exact Nat.le_refl _
 ·exact Nat.le_refl _
 ·exact Nat.le_refl _
 ·exact Nat.le_succ _
 ·rw [q8S]; exact Nat.le_refl _
end
theorem q5G {K : KsS} (h : q0D K) (hr : ∀ k, (q03 K k).Pairwise (fun a b => a.tm < b.tm)) {less low : Nat} (hl : less ≤ low) : q06 (q06 K less) low = q06 K low :=
 qdI (q0O (q0O h less) low) (q0O h low) (q1h _ _) (q1h _ _) fun k => by
  rw [q10 (q0O h less), q10 h, q10 h]
  exact qdP (hr k) hl
theorem OkS.rise {st : PS} (h : OkS st) (k : KeyS) : (q03 st.K k).Pairwise (fun a b => a.tm < b.tm) := ((q13 _ 0).1 (h.rightC k)).2
structure q95 (low : Nat) (s x : PS) : Prop where
 okS : OkS s
 okX : OkS x
 time : s.time = x.time
 upto : low ≤ s.time
 trim : q06 s.K low = q06 x.K low
theorem q95.read {low : Nat} {s x : PS} (h : q95 low s x) {t : Nat} (ht : low ≤ t) (k : KeyS) : q1D s.K k t = q1D x.K k t := by
 rw [← q5e h.okS ht, ← q5e h.okX ht, h.trim]
theorem q95.scan {low : Nat} {s x : PS} (h : q95 low s x) {t : Nat} (ht : low ≤ t) (lo hi : KeyS) : q1E s.K lo hi t = q1E x.K lo hi t :=
 qdy h.okS.sort h.okX.sort fun k => h.read ht k
theorem q95.collect {low : Nat} {s x : PS} (h : q95 low s x) : q95 low ⟨s.time, q06 s.K low⟩ x :=
 ⟨q2H h.okS low, h.okX, h.time, h.upto, by show q06 (q06 s.K low) low = _; rw [q5G h.okS.sort h.okS.rise (Nat.le_refl _), h.trim]⟩
def q2T (n : Int) : Bool := decide (1 ≤ n) && decide (n ≤ 1048576)
def MayS (L : LimS) : Bool := q2T L.keys && q2T L.vers && q2T L.byts && decide (1 ≤ L.last)
def q7e (K : KsS) : Prop := ∀ x ∈ K, x.1 ≠ [] ∧ x.1.length ≤ 256
theorem q8A (st : PS) : ∀ (l : List Wr) (K : KsS), (∀ w ∈ l, w.key ≠ [] ∧ w.key.length ≤ 256) → q7e K → q7e (l.foldl (q1a st) K)
 | [], _, _, h => h
 | w :: l, K, hl, h => by
  rw [List.foldl_cons]
  refine q8A st l _ (fun x hx => hl x (List.mem_cons_of_mem _ hx)) ?_
  unfold q1a
  split
  ·intro x hx
   rcases q1H.1 hx with ⟨h1, _⟩ | ⟨rfl, _⟩ | ⟨h1, _⟩
   ·exact h x h1
   ·exact hl w (List.mem_cons_self ..)
   ·exact h x h1
  ·exact h
theorem q8B {st : PS} {l : List Wr} (h : q7e st.K) (hc : q0h [] l = 0) : q7e (q0s st l) := by
 obtain ⟨h1, _⟩ := q0N hc
 exact q8A st l st.K (fun w hw => ⟨(fun e => by
  have := (h1 w hw).1
  rw [e, q0I] at this
  cases this), (h1 w hw).2.1⟩) h
theorem q5c {K : KsS} (h : q7e K) (low : Nat) : q7e (q06 K low) := fun x hx => by
 obtain ⟨y, hy, e, _⟩ := q1J.1 hx
 rw [e]
 exact h y hy
theorem qaC {L : LimS} (h : MayS L = true) : (1 ≤ L.keys ∧ L.keys ≤ 1048576) ∧ (1 ≤ L.vers ∧ L.vers ≤ 1048576) ∧ (1 ≤ L.byts ∧ L.byts ≤ 1048576) ∧ 1 ≤ L.last := by
 unfold MayS q2T at h
 simp only [Bool.and_eq_true, decide_eq_true_eq] at h
 omega
theorem q7t {L : LimS} {st : PS} (hm : MayS L = true) (hi : InS L st) : st.K.length ≤ 1048576 ∧ q0U st.K ≤ 1048576 ∧ q2n st.K ≤ 1048576 := by
 have h := qaC hm
 have hf := hi.1
 unfold q3g at hf
 simp only [Bool.and_eq_true, decide_eq_true_eq] at hf
 omega
theorem qcQ {L : LimS} (hm : MayS L = true) : InS L ⟨0, []⟩ := by
 have h := qaC hm
 refine ⟨?_, Nat.zero_le _⟩
 unfold q3g
 simp only [Bool.and_eq_true, decide_eq_true_eq]
 have e1 : q0U [] = 0 := rfl
 have e2 : q2n [] = 0 := rfl
 rw [e1, e2]
 simp only [List.length_nil]
 omega
theorem qa8 {m : KeyS × List Ver → Nat} : ∀ {K : KsS} {x : KeyS × List Ver}, x ∈ K → m x ≤ (K.map m).sum
 | y :: K, x, hx => by
  rw [List.map_cons, List.sum_cons]
  rcases List.mem_cons.1 hx with rfl | hx
  ·omega
  ·have := qa8 (m := m) hx
   omega
theorem q9f (K : KsS) (k : KeyS) : (q03 K k).length ≤ q0U K ∧ q0x (q03 K k) ≤ q2n K := by
 by_cases e : q03 K k = []
 ·rw [e]
  exact ⟨Nat.zero_le _, Nat.zero_le _⟩
 ·have hm := q0Z e
  refine ⟨qa8 (m := fun x => x.2.length) hm, ?_⟩
  have := qa8 (m := fun x => x.1.length + q0x x.2) hm
  exact Nat.le_trans (Nat.le_add_left _ _) this
theorem q93 {st : PS} (h : OkS st) (low : Nat) : q0U (q06 st.K low) ≤ q0U st.K := by
 rw [q2x, q2x]
 exact q6p q3X.2.1 (q0O h.sort low) h.sort fun k => by rw [q10 h.sort]; exact (qd4 k _ low).2.1
open Go.RowKit
def SlI (w : World) (lo hi : Nat) (A : Option Addr) (c : Nat) (l : List UInt8) : Prop := l.length ≤ c ∧ c ≤ maxLen ∧ (A = none → c = 0) ∧ Rd w lo hi A l
structure MW where
 w : Wr
 A : Option Addr
 c : Nat
def q0l (x : MW) : List Value := [.string (bs x.w.key), .bool x.w.gone, .slice x.A x.w.dat.length x.c]
theorem mwF : q0X 3 q0l := ⟨by decide, fun _ => rfl, fun x v hv => by
 simp only [q0l, List.mem_cons, List.not_mem_nil, or_false] at hv
 rcases hv with rfl | rfl | rfl <;> rfl⟩
def OkMW (w : World) (lo hi : Nat) (x : MW) : Prop := x.w.key.length ≤ maxLen ∧ SlI w lo hi x.A x.c x.w.dat
def RowW (w : World) (lo hi : Nat) (A : Option Addr) (l : List Wr) : Prop := ∃ ms : List MW, ms.map MW.w = l ∧ RowG q0l w lo hi A ms ∧ ∀ x ∈ ms, OkMW w lo hi x
def ChW (w : World) (lo hi : Nat) (A : Option Addr) (c : Nat) (l : List Wr) : Prop := l.length ≤ c ∧ c ≤ maxLen ∧ (A = none → c = 0) ∧ RowW w lo hi A l
def I64 (n : Int) : Prop := -9223372036854775808 ≤ n ∧ n ≤ 9223372036854775807
structure MP where
 k : KeyS
 b : List UInt8
 A : Option Addr
 c : Nat
def q0f (x : MP) : List Value := [.string (bs x.k), .slice x.A x.b.length x.c]
def MP.p (x : MP) : KeyS × List UInt8 := (x.k, x.b)
theorem mpF : q0X 2 q0f := ⟨by decide, fun _ => rfl, fun x v hv => by
 simp only [q0f, List.mem_cons, List.not_mem_nil, or_false] at hv
 rcases hv with rfl | rfl <;> rfl⟩
def RowP (w : World) (lo hi : Nat) (A : Option Addr) (l : List (KeyS × List UInt8)) : Prop := ∃ ms : List MP, ms.map MP.p = l ∧ RowG q0f w lo hi A ms ∧ ∀ x ∈ ms, SlI w lo hi x.A x.c x.b
def ChP (w : World) (lo hi : Nat) (A : Option Addr) (c : Nat) (l : List (KeyS × List UInt8)) : Prop := l.length ≤ c ∧ c ≤ maxLen ∧ (A = none → c = 0) ∧ RowP w lo hi A l
structure Mut (F : Nat → Prop) (w w' : World) : Prop where
 os : w'.os = w.os
 tape : w'.tape = w.tape
 output : w'.output = w.output
 size : w.heap.size ≤ w'.heap.size
 block : ∀ k, k < w.heap.size → ¬ F k → w'.heap[k]? = w.heap[k]?
section
variable {F G : Nat → Prop} {w w' w'' : World} {lo hi lo' hi' B : Nat} {A : Option Addr} {c : Nat}
theorem Mut.refl (F : Nat → Prop) (w : World) : Mut F w w := ⟨rfl, rfl, rfl, Nat.le_refl _, fun _ _ _ => rfl⟩
theorem Mut.trans (h : Mut F w w') (k : Mut G w' w'') (hg : ∀ k, G k → F k ∨ w.heap.size ≤ k) : Mut F w w'' :=
 ⟨k.os.trans h.os, k.tape.trans h.tape, k.output.trans h.output, Nat.le_trans h.size k.size, fun i hi hf => (k.block i (Nat.lt_of_lt_of_le hi h.size) fun hgi => by
  rcases hg i hgi with h1 | h1
  ·exact hf h1
  ·omega).trans (h.block i hi hf)⟩
theorem Mut.wide (h : Mut F w w') (hg : ∀ k, F k → G k) : Mut G w w' := ⟨h.os, h.tape, h.output, h.size, fun k hk hn => h.block k hk fun hf => hn (hg k hf)⟩
theorem Mut.below (h : Mut F w w') (hB : B ≤ w.heap.size) (hF : ∀ k, F k → B ≤ k) : Below B w w' := ⟨h.os, h.tape, h.output, h.size, fun k hk => h.block k (Nat.lt_of_lt_of_le hk hB) fun hf => by have := hF k hf; omega⟩
theorem Below.mut (h : Below w.heap.size w w') (F : Nat → Prop) : Mut F w w' := ⟨h.os, h.tape, h.output, h.size, fun k hk _ => h.block k hk⟩
theorem SlI.sl {d : List UInt8} (h : SlI w lo hi A c d) : Sl w hi A c d := ⟨h.1, h.2.1, h.2.2.1, h.2.2.2.wide (Nat.zero_le _) (Nat.le_refl _)⟩
theorem SlI.none_ (w : World) (lo hi : Nat) : SlI w lo hi none 0 [] := ⟨Nat.le_refl _, Nat.zero_le _, fun _ => rfl, Rd.nil_⟩
theorem SlI.keep {d : List UInt8} (h : SlI w lo hi A c d) (hk : ∀ g, lo ≤ g → g < hi → w'.heap[g]? = w.heap[g]?) : SlI w' lo hi A c d := ⟨h.1, h.2.1, h.2.2.1, h.2.2.2.keep fun p h1 h2 => World.cell?_of_block (hk p.block h1 h2)⟩
theorem SlI.wide {d : List UInt8} (h : SlI w lo hi A c d) (h1 : lo' ≤ lo) (h2 : hi ≤ hi') : SlI w lo' hi' A c d := ⟨h.1, h.2.1, h.2.2.1, h.2.2.2.wide h1 h2⟩
theorem ChP.wide {l : List (KeyS × List UInt8)} (h : ChP w lo hi A c l) (h1 : lo' ≤ lo) (h2 : hi ≤ hi') : ChP w lo' hi' A c l := by
 obtain ⟨k1, k2, k3, ms, e, h4, h5⟩ := h
 exact ⟨k1, k2, k3, ms, e, h4.wide h1 h2, fun x hx => (h5 x hx).wide h1 h2⟩
theorem SlI.below {d : List UInt8} (h : SlI w lo hi A c d) (hb : Below B w w') (hB : hi ≤ B) (hh : hi ≤ hi') : SlI w' lo hi' A c d := ⟨h.1, h.2.1, h.2.2.1, (h.2.2.2.below hb hB).wide (Nat.le_refl _) hh⟩
theorem OkMW.below {x : MW} (h : OkMW w lo hi x) (hb : Below B w w') (hB : hi ≤ B) (hh : hi ≤ hi') : OkMW w' lo hi' x := ⟨h.1, h.2.below hb hB hh⟩
theorem OkMW.keep {x : MW} (h : OkMW w lo hi x) (hk : ∀ g, lo ≤ g → g < hi → w'.heap[g]? = w.heap[g]?) : OkMW w' lo hi x := ⟨h.1, h.2.keep hk⟩
theorem RowW.below {l : List Wr} (h : RowW w lo hi A l) (hb : Below B w w') (hB : hi ≤ B) (hh : hi ≤ hi') : RowW w' lo hi' A l := by
 obtain ⟨ms, e, h1, h2⟩ := h
 exact ⟨ms, e, (h1.below hb hB).wide (Nat.le_refl _) hh, fun x hx => (h2 x hx).below hb hB hh⟩
theorem ChW.keep {l : List Wr} (h : ChW w lo hi A c l) (hk : ∀ g, lo ≤ g → g < hi → w'.heap[g]? = w.heap[g]?) : ChW w' lo hi A c l := by
 obtain ⟨k1, k2, k3, ms, e, h4, h5⟩ := h
 exact ⟨k1, k2, k3, ms, e, h4.keep fun p k1 k2 => World.cell?_of_block (hk p.block k1 k2), fun x hx => (h5 x hx).keep hk⟩
theorem ChW.wide {l : List Wr} (h : ChW w lo hi A c l) (h1 : lo' ≤ lo) (h2 : hi ≤ hi') : ChW w lo' hi' A c l := by
 obtain ⟨k1, k2, k3, ms, e, h4, h5⟩ := h
 exact ⟨k1, k2, k3, ms, e, h4.wide h1 h2, fun x hx => ⟨(h5 x hx).1, (h5 x hx).2.wide h1 h2⟩⟩
theorem RowW.at_ {l : List Wr} (h : RowW w lo hi A l) {j : Nat} (hj : j < l.length) :
  ∃ b o A' c', A = some ⟨b, o, none⟩ ∧ b < hi ∧ w.cell? ⟨b, o + j * 3, none⟩ = some (.string (bs (l[j]'hj).key)) ∧ w.cell? ⟨b, o + j * 3 + 1, none⟩ = some (.bool (l[j]'hj).gone) ∧ w.cell? ⟨b, o + j * 3 + 2, none⟩ = some (.slice A' (l[j]'hj).dat.length c') ∧
   SlI w lo hi A' c' (l[j]'hj).dat ∧ (l[j]'hj).key.length ≤ maxLen := by
 obtain ⟨ms, rfl, h1, h2⟩ := h
 have hj' : j < ms.length := by simpa using hj
 obtain ⟨b, o, e, _, hb, hc⟩ := h1.at_ mwF hj'
 obtain ⟨k1, k2⟩ := h2 _ (List.getElem_mem hj')
 refine ⟨b, o, ms[j].A, ms[j].c, e, hb, ?_, ?_, ?_, by simpa using k2, by simpa using k1⟩
 ·have := hc 0 _ rfl
  simpa using this
 ·have := hc 1 _ rfl
  simpa using this
 ·have := hc 2 _ rfl
  simpa using this
end
open Go.RowKit
def q3z (L : LimS) (m r v : Int) : Value := .agg #[.int .i64 L.keys, .int .i64 L.vers, .int .i64 L.byts, .int .i64 m, .int .i64 r, .int .i64 v, .int .u64 L.last]
def okW (l : List Wr) : Prop := l.length ≤ 1048576 ∧ ∀ w ∈ l, w.key.length ≤ 1048576 ∧ w.dat.length ≤ 1048576
def ptrS (p : Nat) : Value := .pointer (some ⟨p, 0, none⟩)
def q0v (k : KeyS) : List Value := [.string (bs k)]
theorem kF : q0X 1 q0v := ⟨by decide, fun _ => rfl, fun x v hv => by
 simp only [q0v, List.mem_cons, List.not_mem_nil, or_false] at hv
 rcases hv with rfl
 rfl⟩
abbrev q7d := World → Nat → (Nat → Prop) → LimS → PS → Prop
def q98 (St : q7d) (w : World) (p : Nat) (F : Nat → Prop) (L : LimS) (st : PS) (v : Value) (r : Ending) (w' : World) : Prop :=
 r = .returned v ∧ ∃ F', St w' p F' L st ∧ Mut F w w' ∧ ∀ k, F' k → F k ∨ w.heap.size ≤ k
structure qfT (St : q7d) : Prop where
 keep : ∀ {w w' : World} {p : Nat} {F : Nat → Prop} {L : LimS} {st : PS}, St w p F L st → (∀ k, F k → w'.heap[k]? = w.heap[k]?) → St w' p F L st
 upto : ∀ {w : World} {p : Nat} {F : Nat → Prop} {L : LimS} {st : PS}, St w p F L st → ∀ k, F k → k < w.heap.size
 okay : ∀ {w : World} {p : Nat} {F : Nat → Prop} {L : LimS} {st : PS}, St w p F L st → OkS st ∧ InS L st ∧ MayS L = true ∧ q7e st.K ∧ L.last < 18446744073709551616
 check : ∀ (l : List Wr) (lo hi : Nat) (A : Option Addr) (c : Nat) (w : World), okW l → ChW w lo hi A c l → hi ≤ w.heap.size →
  Calls Tryz.prog 83 #[.slice A l.length c] w fun r w' => r = .returned (.int .i64 (q0h [] l)) ∧ Below w.heap.size w w'
 new : ∀ (L : LimS) (m r v : Int) (w : World), I64 L.keys → I64 L.vers → I64 L.byts → L.last < 18446744073709551616 →
  Calls Tryz.prog 53 #[q3z L m r v] w fun r w' => Below w.heap.size w w' ∧
   (if MayS L = true then ∃ p F, r = .returned (.tuple #[ptrS p, .int .i64 0]) ∧ St w' p F L ⟨0, []⟩ ∧ ∀ k, F k → w.heap.size ≤ k else r = .returned (.tuple #[.pointer none, .int .i64 1]))
 now : ∀ (p : Nat) (F : Nat → Prop) (L : LimS) (st : PS) (w : World), St w p F L st →
  Calls Tryz.prog 65 #[ptrS p] w fun r w' => r = .returned (.int .u64 st.time) ∧ Below w.heap.size w w'
 count : ∀ (p : Nat) (F : Nat → Prop) (L : LimS) (st : PS) (w : World), St w p F L st →
  Calls Tryz.prog 67 #[ptrS p] w fun r w' => r = .returned (.agg #[.int .i64 (st.K.length : Nat), .int .i64 (q0U st.K : Nat), .int .i64 (q2n st.K : Nat)]) ∧ Below w.heap.size w w'
 latest : ∀ (p : Nat) (F : Nat → Prop) (L : LimS) (st : PS) (k : KeyS) (w : World), St w p F L st → k.length ≤ 1048576 →
  Calls Tryz.prog 188 #[ptrS p, .string (bs k)] w fun r w' => r = .returned (.int .u64 (q2N (q03 st.K k) : Nat)) ∧ Below w.heap.size w w'
 read : ∀ (p : Nat) (F : Nat → Prop) (L : LimS) (st : PS) (k : KeyS) (t : Nat) (w : World), St w p F L st → k.length ≤ 1048576 → t < 18446744073709551616 →
  Calls Tryz.prog 80 #[ptrS p, .string (bs k), .int .u64 t] w fun r w' => ∃ A c, r = .returned (.tuple #[.slice A ((q1D st.K k t).getD []).length c, .bool (q1D st.K k t).isSome]) ∧
   SlI w' w.heap.size w'.heap.size A c ((q1D st.K k t).getD []) ∧ Below w.heap.size w w'
 scan : ∀ (p : Nat) (F : Nat → Prop) (L : LimS) (st : PS) (lo hi : KeyS) (t : Nat) (w : World), St w p F L st → lo.length ≤ 1048576 → hi.length ≤ 1048576 → t < 18446744073709551616 →
  Calls Tryz.prog 74 #[ptrS p, .string (bs lo), .string (bs hi), .int .u64 t] w fun r w' => ∃ A c, r = .returned (.slice A (q1E st.K lo hi t).length c) ∧
   ChP w' w.heap.size w'.heap.size A c (q1E st.K lo hi t) ∧ Below w.heap.size w w'
 commit : ∀ (p : Nat) (F : Nat → Prop) (L : LimS) (st : PS) (l : List Wr) (lo hi : Nat) (A : Option Addr) (c low : Nat) (w : World), St w p F L st → okW l → ChW w lo hi A c l → hi ≤ w.heap.size → (∀ k, F k → k < lo ∨ hi ≤ k) → low < 18446744073709551616 →
  Calls Tryz.prog 136 #[ptrS p, .slice A l.length c, .int .u64 low] w
   (q98 St w p F L (q0a L st l low).1 (.tuple #[.int .u64 (q0a L st l low).2.1, .int .i64 (q0a L st l low).2.2]))
 collect : ∀ (p : Nat) (F : Nat → Prop) (L : LimS) (st : PS) (low : Nat) (w : World), St w p F L st → low < 18446744073709551616 →
  Calls Tryz.prog 89 #[ptrS p, .int .u64 low] w
   (q98 St w p F L ⟨st.time, q06 st.K low⟩ (.int .i64 ((q0U st.K - q0U (q06 st.K low) : Nat) : Int)))
 clone : ∀ (p : Nat) (F : Nat → Prop) (L : LimS) (st : PS) (w : World), St w p F L st →
  Calls Tryz.prog 87 #[ptrS p] w fun r w' => ∃ q F', r = .returned (ptrS q) ∧ St w' q F' L st ∧ (∀ k, F' k → w.heap.size ≤ k) ∧ Below w.heap.size w w'
open Go.RowKit
theorem q7G (n : Int) (w : World) : Calls Tryz.prog 99 #[.int .i64 n] w fun r w' => r = .returned (.bool (q2T n)) ∧ w = w' := by
 unfold q2T
 by_cases h1 : 1 ≤ n
 ·have d1 : decide (1 ≤ n) = true := by rw [decide_eq_true_iff]; exact h1
  go_enter Tryz.func99, Tryz.ntmps99
  go_wp2
  go_ret
  exact ⟨by simp [d1], rfl⟩
 ·have d1 : decide (1 ≤ n) = false := by rw [decide_eq_false_iff_not]; exact h1
  go_enter Tryz.func99, Tryz.ntmps99
  go_wp2
  go_ret
  exact ⟨by simp, rfl⟩
theorem qfy (L : LimS) (m r v : Int) (w : World) : Calls Tryz.prog 55 #[q3z L m r v] w fun r w' => r = .returned (.bool (MayS L)) ∧ Below w.heap.size w w' := by
 obtain ⟨keys, vers, byts, last⟩ := L
 have HB := qh ((Below.refl _ w).alloc (Nat.le_refl _) (.cells #[.int .i64 keys, .int .i64 vers, .int .i64 byts, .int .i64 m, .int .i64 r, .int .i64 v, .int .u64 last] 24))
 have H1 := qh (fun W => q7G keys W)
 have H2 := qh (fun W => q7G vers W)
 have H3 := qh (fun W => q7G byts W)
 have HM : Hid (MayS ⟨keys, vers, byts, last⟩ = (q2T keys && q2T vers && q2T byts && decide (1 ≤ last))) := qh rfl
 have d0 : decide (1 ≤ (last : Int)) = decide (1 ≤ last) := by rw [decide_eq_decide]; omega
 unfold q3z
 simp only
 rw [HM.out]
 generalize q2T keys = r1 at *
 generalize q2T vers = r2 at *
 generalize q2T byts = r3 at *
 clear HM
 cases r1
 ·go_enter Tryz.func55, Tryz.ntmps55
  go_wp2_with fail
  refine (H1.out _).mono ?_
  rintro r w' ⟨rfl, rfl⟩
  go_wp2_with fail
  go_ret
  exact ⟨rfl, HB.out⟩
 ·cases r2
  ·go_enter Tryz.func55, Tryz.ntmps55
   go_wp2_with fail
   refine (H1.out _).mono ?_
   rintro r w' ⟨rfl, rfl⟩
   go_wp2_with fail
   refine (H2.out _).mono ?_
   rintro r w' ⟨rfl, rfl⟩
   go_wp2_with fail
   go_ret
   exact ⟨rfl, HB.out⟩
  ·cases r3
   ·go_enter Tryz.func55, Tryz.ntmps55
    go_wp2_with fail
    refine (H1.out _).mono ?_
    rintro r w' ⟨rfl, rfl⟩
    go_wp2_with fail
    refine (H2.out _).mono ?_
    rintro r w' ⟨rfl, rfl⟩
    go_wp2_with fail
    refine (H3.out _).mono ?_
    rintro r w' ⟨rfl, rfl⟩
    go_wp2_with fail
    go_ret
    exact ⟨rfl, HB.out⟩
   ·go_enter Tryz.func55, Tryz.ntmps55
    go_wp2_with fail
    refine (H1.out _).mono ?_
    rintro r w' ⟨rfl, rfl⟩
    go_wp2_with fail
    refine (H2.out _).mono ?_
    rintro r w' ⟨rfl, rfl⟩
    go_wp2_with fail
    refine (H3.out _).mono ?_
    rintro r w' ⟨rfl, rfl⟩
    go_wp2_with fail
    go_ret
    exact ⟨by simp, HB.out⟩
end Go.Proofs.YtdpbllacfljmoaaGreat
namespace Go.Proofs.YtdpbllacfljmoaaGreat
open Go.RowKit
theorem qef (m : Nat) (h : m < 256) : ((UInt8.ofNat m).toNat : Int) = (m : Int) := by
 have : (UInt8.ofNat m).toNat = m := by simp; omega
 omega
open Go.RowKit
open Go.RowKit
open Go.RowKit
open Go.RowKit
def qgj (k : IntKind) (w : World) (a : Option Addr) (len cap : Nat) (zs : List Int) : Prop :=
 (a = none ∧ len = 0 ∧ cap = 0 ∧ zs = []) ∨
 ∃ x, a = some x ∧ len ≤ cap ∧ cap ≤ maxLen ∧ zs.length = cap ∧ (∀ i, i < zs.length → w.cell? (x.add i) = some (.int k (zs.getD i 0))) ∧ ∀ n ∈ zs, (Lit.int k n).wf = true
theorem qeg {w : World} {a : Option Addr} {len cap : Nat} {zs : List Int} (h : qgj .u8 w a len cap zs) :
  ∃ l : List UInt8, len = l.length ∧ len ≤ cap ∧ cap ≤ maxLen ∧ (a = none → cap = 0) ∧ Rd w 0 w.heap.size a l := by
 rcases h with ⟨rfl, rfl, rfl, rfl⟩ | ⟨x, rfl, h1, h2, h3, hc, hw⟩
 ·exact ⟨[], rfl, Nat.le_refl _, Nat.zero_le _, fun _ => rfl, Rd.nil_⟩
 ·refine ⟨(zs.take len).map fun n => UInt8.ofNat n.toNat, by rw [List.length_map, List.length_take]; omega, h1, h2, fun h => (by cases h), fun hp => ?_⟩
  rw [List.length_map, List.length_take] at hp
  obtain ⟨b, off, rfl, hc'⟩ := ints_at hc (by omega)
  refine ⟨b, off, rfl, Nat.zero_le _, World.block_lt_of_cell? w ⟨b, off + 0, none⟩ (hc' 0 (by omega)), fun j hj => ?_⟩
  rw [List.length_map, List.length_take] at hj
  have hjz : j < zs.length := by omega
  rw [hc' j hjz, List.getElem_map, List.getElem_take, List.getD_eq_getElem?_getD, List.getElem?_eq_getElem hjz]
  have hb := bounds_u8 (hw _ (List.getElem_mem hjz))
  have e : ((UInt8.ofNat (zs[j]).toNat).toNat : Int) = zs[j] := by rw [qef _ (by omega)]; omega
  rw [e]
  rfl
end Go.Proofs.YtdpbllacfljmoaaGreat
