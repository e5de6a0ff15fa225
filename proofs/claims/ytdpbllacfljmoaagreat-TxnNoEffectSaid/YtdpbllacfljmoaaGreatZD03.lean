import Derived.Test.YtdpbllacfljmoaaGreatZD02
import Derived.Test.YtdpbllacfljmoaaGreatZD01
import Derived.Deep.LoopGhost
import Derived.RegionTactic
import Derived.Test.YtdpbllacfljmoaaGreatZD00
import Derived.OpenShut
import Derived.BigQuiet
import Derived.Deep.DeepCutAuto
set_option maxRecDepth 100000
set_option maxHeartbeats 16000000
set_option linter.unusedVariables false
namespace Go.Proofs.YtdpbllacfljmoaaGreat
open Go.RowKit
structure q4l where
 n : Nat
 e : Int
 b : List UInt8
 is : Bool
 scan : List (KeyS × List UInt8)
def qgk : q4l := ⟨0, 0, [], false, []⟩
section
variable {L : LimS} {st : PS} {l : List Wr} {low : Nat}
theorem qaJ (h : OkS st) : OkS (q2M L st l low) := by
 unfold q2M
 split
 ·exact h
 ·exact q2F h low
theorem q6o : (q2M L st l low).time = st.time := by
 unfold q2M
 split <;> rfl
theorem q1N (L : LimS) (st : PS) (l : List Wr) (low : Nat) :
  ((q09 L st l low) = (st, 0, q0h [] l) ∧ q0h [] l ≠ 0) ∨ (q09 L st l low = (st, st.time, 0) ∧ q0h [] l = 0 ∧ l = []) ∨ (q09 L st l low = (st, 0, 5) ∧ q0h [] l = 0 ∧ l ≠ [] ∧ st.time = L.last) ∨
   (q09 L st l low = (⟨st.time + 1, q0s (q2M L st l low) l⟩, st.time + 1, 0) ∧ q0h [] l = 0 ∧ l ≠ [] ∧ st.time ≠ L.last ∧ q3r L (q0s (q2M L st l low) l) = true) ∨
   (q09 L st l low = (q2M L st l low, 0, 5) ∧ q0h [] l = 0 ∧ l ≠ [] ∧ st.time ≠ L.last ∧ q3r L (q0s (q2M L st l low) l) = false) := by
 unfold q09
 by_cases h1 : q0h [] l = 0
 ·rw [if_neg (fun h => h h1)]
  by_cases h2 : l = []
  ·rw [if_pos h2]
   exact .inr (.inl ⟨rfl, h1, h2⟩)
  ·rw [if_neg h2]
   by_cases h3 : st.time = L.last
   ·rw [if_pos h3]
    exact .inr (.inr (.inl ⟨rfl, h1, h2, h3⟩))
   ·rw [if_neg h3]
    by_cases h4 : q3r L (q0s (q2M L st l low) l) = true
    ·rw [if_pos h4]
     exact .inr (.inr (.inr (.inl ⟨rfl, h1, h2, h3, h4⟩)))
    ·rw [if_neg h4]
     exact .inr (.inr (.inr (.inr ⟨rfl, h1, h2, h3, by simpa using h4⟩)))
 ·rw [if_pos h1]
  exact .inl ⟨rfl, h1⟩
theorem qbE (h : OkS st) (L : LimS) (l : List Wr) (low : Nat) : OkS (q09 L st l low).1 := by
 rcases q1N L st l low with ⟨e, _⟩ | ⟨e, _⟩ | ⟨e, _⟩ | ⟨e, hc, _⟩ | ⟨e, _⟩ <;> rw [e]
 ·exact h
 ·exact h
 ·exact h
 ·have := q7D (qaJ (L := L) (l := l) (low := low) h) hc
  rw [q6o] at this
  exact this
 ·exact qaJ h
def InS (L : LimS) (st : PS) : Prop := q3r L st.K = true ∧ st.time ≤ L.last
theorem qfw (h : OkS st) (hi : InS L st) : InS L (q2M L st l low) := by
 unfold q2M
 split
 ·exact hi
 ·exact ⟨q2O h.sort h.full low hi.1, hi.2⟩
theorem qcU (h : OkS st) (hi : InS L st) (l : List Wr) (low : Nat) : InS L (q09 L st l low).1 := by
 rcases q1N L st l low with ⟨e, _⟩ | ⟨e, _⟩ | ⟨e, _⟩ | ⟨e, _, _, h3, h4⟩ | ⟨e, _⟩ <;> rw [e]
 ·exact hi
 ·exact hi
 ·exact hi
 ·exact ⟨h4, by have := hi.2; show st.time + 1 ≤ L.last; omega⟩
 ·exact qfw h hi
theorem q4f (L : LimS) (st : PS) (l : List Wr) (low : Nat) : st.time ≤ (q09 L st l low).1.time := by
 rcases q1N L st l low with ⟨e, _⟩ | ⟨e, _⟩ | ⟨e, _⟩ | ⟨e, _⟩ | ⟨e, _⟩ <;> rw [e]
 ·exact Nat.le_refl _
 ·exact Nat.le_refl _
 ·exact Nat.le_refl _
 ·exact Nat.le_succ _
 ·rw [q6o]; exact Nat.le_refl _
theorem q7E (h : OkS st) (k : KeyS) : q0E (q2M L st l low).K k st.time = q0E st.K k st.time := by
 unfold q2M
 split
 ·rfl
 ·exact q3q h low k
end
theorem q5K {K : KsS} (h : q0D K) (hr : ∀ k, (q03 K k).Pairwise (fun a b => a.tm < b.tm)) {less low : Nat} (hl : less ≤ low) : q07 (q07 K less) low = q07 K low :=
 qdM (q0O (q0O h less) low) (q0O h low) (q1g _ _) (q1g _ _) fun k => by
  rw [q0M (q0O h less), q0M h, q0M h]
  exact qdT (hr k) hl
theorem OkS.rise {st : PS} (h : OkS st) (k : KeyS) : (q03 st.K k).Pairwise (fun a b => a.tm < b.tm) := ((q0Y _ 0).1 (h.rightC k)).2
structure q97 (low : Nat) (s x : PS) : Prop where
 okS : OkS s
 okX : OkS x
 time : s.time = x.time
 upto : low ≤ s.time
 trim : q07 s.K low = q07 x.K low
theorem q97.read {low : Nat} {s x : PS} (h : q97 low s x) {t : Nat} (ht : low ≤ t) (k : KeyS) : q0E s.K k t = q0E x.K k t := by
 rw [← q5h h.okS ht, ← q5h h.okX ht, h.trim]
theorem q97.scan {low : Nat} {s x : PS} (h : q97 low s x) {t : Nat} (ht : low ≤ t) (lo hi : KeyS) : q1q s.K lo hi t = q1q x.K lo hi t :=
 q8V h.okS.sort h.okX.sort fun k => h.read ht k
theorem q97.collect {low : Nat} {s x : PS} (h : q97 low s x) : q97 low ⟨s.time, q07 s.K low⟩ x :=
 ⟨q2F h.okS low, h.okX, h.time, h.upto, by show q07 (q07 s.K low) low = _; rw [q5K h.okS.sort h.okS.rise (Nat.le_refl _), h.trim]⟩
def q2S (n : Int) : Bool := decide (1 ≤ n) && decide (n ≤ 1048576)
def MayS (L : LimS) : Bool := q2S L.keys && q2S L.vers && q2S L.byts && decide (1 ≤ L.last)
def q7g (K : KsS) : Prop := ∀ x ∈ K, x.1 ≠ [] ∧ x.1.length ≤ 256
theorem q8B (st : PS) : ∀ (l : List Wr) (K : KsS), (∀ w ∈ l, w.key ≠ [] ∧ w.key.length ≤ 256) → q7g K → q7g (l.foldl (q1b st) K)
 | [], _, _, h => h
 | w :: l, K, hl, h => by
  rw [List.foldl_cons]
  refine q8B st l _ (fun x hx => hl x (List.mem_cons_of_mem _ hx)) ?_
  unfold q1b
  split
  ·intro x hx
   rcases q1H.1 hx with ⟨h1, _⟩ | ⟨rfl, _⟩ | ⟨h1, _⟩
   ·exact h x h1
   ·exact hl w (List.mem_cons_self ..)
   ·exact h x h1
  ·exact h
theorem q8C {st : PS} {l : List Wr} (h : q7g st.K) (hc : q0h [] l = 0) : q7g (q0s st l) := by
 obtain ⟨h1, _⟩ := q0N hc
 exact q8B st l st.K (fun w hw => ⟨(fun e => by
  have := (h1 w hw).1
  rw [e, q0V] at this
  cases this), (h1 w hw).2.1⟩) h
theorem q5f {K : KsS} (h : q7g K) (low : Nat) : q7g (q07 K low) := fun x hx => by
 obtain ⟨y, hy, e, _⟩ := q1J.1 hx
 rw [e]
 exact h y hy
theorem qaE {L : LimS} (h : MayS L = true) : (1 ≤ L.keys ∧ L.keys ≤ 1048576) ∧ (1 ≤ L.vers ∧ L.vers ≤ 1048576) ∧ (1 ≤ L.byts ∧ L.byts ≤ 1048576) ∧ 1 ≤ L.last := by
 unfold MayS q2S at h
 simp only [Bool.and_eq_true, decide_eq_true_eq] at h
 omega
theorem qaA {L : LimS} {st : PS} (hm : MayS L = true) (hi : InS L st) : st.K.length ≤ 1048576 ∧ q1l st.K ≤ 1048576 ∧ q39 st.K ≤ 1048576 := by
 have h := qaE hm
 have hf := hi.1
 unfold q3r at hf
 simp only [Bool.and_eq_true, decide_eq_true_eq] at hf
 omega
theorem qcV {L : LimS} (hm : MayS L = true) : InS L ⟨0, []⟩ := by
 have h := qaE hm
 refine ⟨?_, Nat.zero_le _⟩
 unfold q3r
 simp only [Bool.and_eq_true, decide_eq_true_eq]
 have e1 : q1l [] = 0 := rfl
 have e2 : q39 [] = 0 := rfl
 rw [e1, e2]
 simp only [List.length_nil]
 omega
theorem qa8 {m : KeyS × List Ver → Nat} : ∀ {K : KsS} {x : KeyS × List Ver}, x ∈ K → m x ≤ (K.map m).sum
 | y :: K, x, hx => by
  rw [List.map_cons, List.sum_cons]
  rcases List.mem_cons.1 hx with rfl | hx
  ·omega
  ·have := qa8 (m := m) hx
   omega
theorem q9g (K : KsS) (k : KeyS) : (q03 K k).length ≤ q1l K ∧ q0x (q03 K k) ≤ q39 K := by
 by_cases e : q03 K k = []
 ·rw [e]
  exact ⟨Nat.zero_le _, Nat.zero_le _⟩
 ·have hm := q14 e
  refine ⟨qa8 (m := fun x => x.2.length) hm, ?_⟩
  have := qa8 (m := fun x => x.1.length + q0x x.2) hm
  exact Nat.le_trans (Nat.le_add_left _ _) this
theorem q95 {st : PS} (h : OkS st) (low : Nat) : q1l (q07 st.K low) ≤ q1l st.K := by
 rw [q2v, q2v]
 exact q6t q3Y.2.1 (q0O h.sort low) h.sort fun k => by rw [q0M h.sort]; exact (qd9 k _ low).2.1
open Go.RowKit
def SlI (w : World) (lo hi : Nat) (A : Option Addr) (c : Nat) (l : List UInt8) : Prop := l.length ≤ c ∧ c ≤ maxLen ∧ (A = none → c = 0) ∧ Rd w lo hi A l
structure MW where
 w : Wr
 A : Option Addr
 c : Nat
def q0m (x : MW) : List Value := [.string (bs x.w.key), .bool x.w.gone, .slice x.A x.w.dat.length x.c]
theorem mwF : q12 3 q0m := ⟨by decide, fun _ => rfl, fun x v hv => by
 simp only [q0m, List.mem_cons, List.not_mem_nil, or_false] at hv
 rcases hv with rfl | rfl | rfl <;> rfl⟩
def OkMW (w : World) (lo hi : Nat) (x : MW) : Prop := x.w.key.length ≤ maxLen ∧ SlI w lo hi x.A x.c x.w.dat
def RowW (w : World) (lo hi : Nat) (A : Option Addr) (l : List Wr) : Prop := ∃ ms : List MW, ms.map MW.w = l ∧ RowG q0m w lo hi A ms ∧ ∀ x ∈ ms, OkMW w lo hi x
def ChW (w : World) (lo hi : Nat) (A : Option Addr) (c : Nat) (l : List Wr) : Prop := l.length ≤ c ∧ c ≤ maxLen ∧ (A = none → c = 0) ∧ RowW w lo hi A l
def I64 (n : Int) : Prop := -9223372036854775808 ≤ n ∧ n ≤ 9223372036854775807
structure MP where
 k : KeyS
 b : List UInt8
 A : Option Addr
 c : Nat
def q0e (x : MP) : List Value := [.string (bs x.k), .slice x.A x.b.length x.c]
def MP.p (x : MP) : KeyS × List UInt8 := (x.k, x.b)
theorem mpF : q12 2 q0e := ⟨by decide, fun _ => rfl, fun x v hv => by
 simp only [q0e, List.mem_cons, List.not_mem_nil, or_false] at hv
 rcases hv with rfl | rfl <;> rfl⟩
def RowP (w : World) (lo hi : Nat) (A : Option Addr) (l : List (KeyS × List UInt8)) : Prop := ∃ ms : List MP, ms.map MP.p = l ∧ RowG q0e w lo hi A ms ∧ ∀ x ∈ ms, SlI w lo hi x.A x.c x.b
def ChP (w : World) (lo hi : Nat) (A : Option Addr) (c : Nat) (l : List (KeyS × List UInt8)) : Prop := l.length ≤ c ∧ c ≤ maxLen ∧ (A = none → c = 0) ∧ RowP w lo hi A l
structure Mut (F : Nat → Prop) (w w' : World) : Prop where
 os : w'.os = w.os
 tape : w'.tape = w.tape
 output : w'.output = w.output
 size : w.heap.size ≤ w'.heap.size
 block : ∀ k, k < w.heap.size → ¬ F k → w'.heap[k]? = w.heap[k]?
section
variable {F G : Nat → Prop} {w w' w'' : World} {lo hi lo' hi' B : Nat} {A : Option Addr} {c : Nat}
theorem Mut.refl (F : Nat → Prop) (w : World) : Mut F w w := ⟨rfl, rfl, rfl, Nat.le_refl _, fun _ _ _ => rfl⟩
theorem Mut.trans (h : Mut F w w') (k : Mut G w' w'') (hg : ∀ k, G k → F k ∨ w.heap.size ≤ k) : Mut F w w'' :=
 ⟨k.os.trans h.os, k.tape.trans h.tape, k.output.trans h.output, Nat.le_trans h.size k.size, fun i hi hf => (k.block i (Nat.lt_of_lt_of_le hi h.size) fun hgi => by
  rcases hg i hgi with h1 | h1
  ·exact hf h1
  ·omega).trans (h.block i hi hf)⟩
theorem Mut.wide (h : Mut F w w') (hg : ∀ k, F k → G k) : Mut G w w' := ⟨h.os, h.tape, h.output, h.size, fun k hk hn => h.block k hk fun hf => hn (hg k hf)⟩
theorem Mut.below (h : Mut F w w') (hB : B ≤ w.heap.size) (hF : ∀ k, F k → B ≤ k) : Below B w w' := ⟨h.os, h.tape, h.output, h.size, fun k hk => h.block k (Nat.lt_of_lt_of_le hk hB) fun hf => by have := hF k hf; omega⟩
theorem Below.mut (h : Below w.heap.size w w') (F : Nat → Prop) : Mut F w w' := ⟨h.os, h.tape, h.output, h.size, fun k hk _ => h.block k hk⟩
theorem SlI.sl {d : List UInt8} (h : SlI w lo hi A c d) : Sl w hi A c d := ⟨h.1, h.2.1, h.2.2.1, h.2.2.2.wide (Nat.zero_le _) (Nat.le_refl _)⟩
theorem SlI.none_ (w : World) (lo hi : Nat) : SlI w lo hi none 0 [] := ⟨Nat.le_refl _, Nat.zero_le _, fun _ => rfl, Rd.nil_⟩
theorem SlI.keep {d : List UInt8} (h : SlI w lo hi A c d) (hk : ∀ g, lo ≤ g → g < hi → w'.heap[g]? = w.heap[g]?) : SlI w' lo hi A c d := ⟨h.1, h.2.1, h.2.2.1, h.2.2.2.keep fun p h1 h2 => World.cell?_of_block (hk p.block h1 h2)⟩
theorem SlI.wide {d : List UInt8} (h : SlI w lo hi A c d) (h1 : lo' ≤ lo) (h2 : hi ≤ hi') : SlI w lo' hi' A c d := ⟨h.1, h.2.1, h.2.2.1, h.2.2.2.wide h1 h2⟩
theorem ChP.wide {l : List (KeyS × List UInt8)} (h : ChP w lo hi A c l) (h1 : lo' ≤ lo) (h2 : hi ≤ hi') : ChP w lo' hi' A c l := by
 obtain ⟨k1, k2, k3, ms, e, h4, h5⟩ := h
 exact ⟨k1, k2, k3, ms, e, h4.wide h1 h2, fun x hx => (h5 x hx).wide h1 h2⟩
theorem SlI.below {d : List UInt8} (h : SlI w lo hi A c d) (hb : Below B w w') (hB : hi ≤ B) (hh : hi ≤ hi') : SlI w' lo hi' A c d := ⟨h.1, h.2.1, h.2.2.1, (h.2.2.2.below hb hB).wide (Nat.le_refl _) hh⟩
theorem OkMW.below {x : MW} (h : OkMW w lo hi x) (hb : Below B w w') (hB : hi ≤ B) (hh : hi ≤ hi') : OkMW w' lo hi' x := ⟨h.1, h.2.below hb hB hh⟩
theorem OkMW.keep {x : MW} (h : OkMW w lo hi x) (hk : ∀ g, lo ≤ g → g < hi → w'.heap[g]? = w.heap[g]?) : OkMW w' lo hi x := ⟨h.1, h.2.keep hk⟩
theorem RowW.below {l : List Wr} (h : RowW w lo hi A l) (hb : Below B w w') (hB : hi ≤ B) (hh : hi ≤ hi') : RowW w' lo hi' A l := by
 obtain ⟨ms, e, h1, h2⟩ := h
 exact ⟨ms, e, (h1.below hb hB).wide (Nat.le_refl _) hh, fun x hx => (h2 x hx).below hb hB hh⟩
theorem ChW.keep {l : List Wr} (h : ChW w lo hi A c l) (hk : ∀ g, lo ≤ g → g < hi → w'.heap[g]? = w.heap[g]?) : ChW w' lo hi A c l := by
 obtain ⟨k1, k2, k3, ms, e, h4, h5⟩ := h
 exact ⟨k1, k2, k3, ms, e, h4.keep fun p k1 k2 => World.cell?_of_block (hk p.block k1 k2), fun x hx => (h5 x hx).keep hk⟩
theorem ChW.wide {l : List Wr} (h : ChW w lo hi A c l) (h1 : lo' ≤ lo) (h2 : hi ≤ hi') : ChW w lo' hi' A c l := by
 obtain ⟨k1, k2, k3, ms, e, h4, h5⟩ := h
 exact ⟨k1, k2, k3, ms, e, h4.wide h1 h2, fun x hx => ⟨(h5 x hx).1, (h5 x hx).2.wide h1 h2⟩⟩
theorem RowW.at_ {l : List Wr} (h : RowW w lo hi A l) {j : Nat} (hj : j < l.length) :
  ∃ b o A' c', A = some ⟨b, o, none⟩ ∧ b < hi ∧ w.cell? ⟨b, o + j * 3, none⟩ = some (.string (bs (l[j]'hj).key)) ∧ w.cell? ⟨b, o + j * 3 + 1, none⟩ = some (.bool (l[j]'hj).gone) ∧ w.cell? ⟨b, o + j * 3 + 2, none⟩ = some (.slice A' (l[j]'hj).dat.length c') ∧
   SlI w lo hi A' c' (l[j]'hj).dat ∧ (l[j]'hj).key.length ≤ maxLen := by
 obtain ⟨ms, rfl, h1, h2⟩ := h
 have hj' : j < ms.length := by simpa using hj
 obtain ⟨b, o, e, _, hb, hc⟩ := h1.at_ mwF hj'
 obtain ⟨k1, k2⟩ := h2 _ (List.getElem_mem hj')
 refine ⟨b, o, ms[j].A, ms[j].c, e, hb, ?_, ?_, ?_, by simpa using k2, by simpa using k1⟩
 ·have := hc 0 _ rfl
  simpa using this
 ·have := hc 1 _ rfl
  simpa using this
 ·have := hc 2 _ rfl
  simpa using this
theorem RowP.at_ {l : List (KeyS × List UInt8)} (h : RowP w lo hi A l) {j : Nat} (hj : j < l.length) :
  ∃ b o A' c', A = some ⟨b, o, none⟩ ∧ b < hi ∧ w.cell? ⟨b, o + j * 2, none⟩ = some (.string (bs (l[j]'hj).1)) ∧ w.cell? ⟨b, o + j * 2 + 1, none⟩ = some (.slice A' (l[j]'hj).2.length c') ∧ SlI w lo hi A' c' (l[j]'hj).2 := by
 obtain ⟨ms, rfl, h1, h2⟩ := h
 have hj' : j < ms.length := by simpa using hj
 obtain ⟨b, o, e, _, hb, hc⟩ := h1.at_ mpF hj'
 have k := h2 _ (List.getElem_mem hj')
 refine ⟨b, o, ms[j].A, ms[j].c, e, hb, ?_, ?_, by simpa [MP.p] using k⟩
 ·have := hc 0 _ rfl
  simpa [MP.p] using this
 ·have := hc 1 _ rfl
  simpa [MP.p] using this
end
open Go.RowKit
def q3A (L : LimS) (m r v : Int) : Value := .agg #[.int .i64 L.keys, .int .i64 L.vers, .int .i64 L.byts, .int .i64 m, .int .i64 r, .int .i64 v, .int .u64 L.last]
def okW (l : List Wr) : Prop := l.length ≤ 1048576 ∧ ∀ w ∈ l, w.key.length ≤ 1048576 ∧ w.dat.length ≤ 1048576
def ptrS (p : Nat) : Value := .pointer (some ⟨p, 0, none⟩)
def q0u (k : KeyS) : List Value := [.string (bs k)]
theorem kF : q12 1 q0u := ⟨by decide, fun _ => rfl, fun x v hv => by
 simp only [q0u, List.mem_cons, List.not_mem_nil, or_false] at hv
 rcases hv with rfl
 rfl⟩
abbrev q7f := World → Nat → (Nat → Prop) → LimS → PS → Prop
def q9a (St : q7f) (w : World) (p : Nat) (F : Nat → Prop) (L : LimS) (st : PS) (v : Value) (r : Ending) (w' : World) : Prop :=
 r = .returned v ∧ ∃ F', St w' p F' L st ∧ Mut F w w' ∧ ∀ k, F' k → F k ∨ w.heap.size ≤ k
structure qfZ (St : q7f) : Prop where
 keep : ∀ {w w' : World} {p : Nat} {F : Nat → Prop} {L : LimS} {st : PS}, St w p F L st → (∀ k, F k → w'.heap[k]? = w.heap[k]?) → St w' p F L st
 upto : ∀ {w : World} {p : Nat} {F : Nat → Prop} {L : LimS} {st : PS}, St w p F L st → ∀ k, F k → k < w.heap.size
 okay : ∀ {w : World} {p : Nat} {F : Nat → Prop} {L : LimS} {st : PS}, St w p F L st → OkS st ∧ InS L st ∧ MayS L = true ∧ q7g st.K ∧ L.last < 18446744073709551616
 check : ∀ (l : List Wr) (lo hi : Nat) (A : Option Addr) (c : Nat) (w : World), okW l → ChW w lo hi A c l → hi ≤ w.heap.size →
  Calls Tryz.prog 83 #[.slice A l.length c] w fun r w' => r = .returned (.int .i64 (q0h [] l)) ∧ Below w.heap.size w w'
 new : ∀ (L : LimS) (m r v : Int) (w : World), I64 L.keys → I64 L.vers → I64 L.byts → L.last < 18446744073709551616 →
  Calls Tryz.prog 53 #[q3A L m r v] w fun r w' => Below w.heap.size w w' ∧
   (if MayS L = true then ∃ p F, r = .returned (.tuple #[ptrS p, .int .i64 0]) ∧ St w' p F L ⟨0, []⟩ ∧ ∀ k, F k → w.heap.size ≤ k else r = .returned (.tuple #[.pointer none, .int .i64 1]))
 now : ∀ (p : Nat) (F : Nat → Prop) (L : LimS) (st : PS) (w : World), St w p F L st →
  Calls Tryz.prog 65 #[ptrS p] w fun r w' => r = .returned (.int .u64 st.time) ∧ Below w.heap.size w w'
 count : ∀ (p : Nat) (F : Nat → Prop) (L : LimS) (st : PS) (w : World), St w p F L st →
  Calls Tryz.prog 67 #[ptrS p] w fun r w' => r = .returned (.agg #[.int .i64 (st.K.length : Nat), .int .i64 (q1l st.K : Nat), .int .i64 (q39 st.K : Nat)]) ∧ Below w.heap.size w w'
 latest : ∀ (p : Nat) (F : Nat → Prop) (L : LimS) (st : PS) (k : KeyS) (w : World), St w p F L st → k.length ≤ 1048576 →
  Calls Tryz.prog 188 #[ptrS p, .string (bs k)] w fun r w' => r = .returned (.int .u64 (q2L (q03 st.K k) : Nat)) ∧ Below w.heap.size w w'
 read : ∀ (p : Nat) (F : Nat → Prop) (L : LimS) (st : PS) (k : KeyS) (t : Nat) (w : World), St w p F L st → k.length ≤ 1048576 → t < 18446744073709551616 →
  Calls Tryz.prog 80 #[ptrS p, .string (bs k), .int .u64 t] w fun r w' => ∃ A c, r = .returned (.tuple #[.slice A ((q0E st.K k t).getD []).length c, .bool (q0E st.K k t).isSome]) ∧
   SlI w' w.heap.size w'.heap.size A c ((q0E st.K k t).getD []) ∧ Below w.heap.size w w'
 scan : ∀ (p : Nat) (F : Nat → Prop) (L : LimS) (st : PS) (lo hi : KeyS) (t : Nat) (w : World), St w p F L st → lo.length ≤ 1048576 → hi.length ≤ 1048576 → t < 18446744073709551616 →
  Calls Tryz.prog 74 #[ptrS p, .string (bs lo), .string (bs hi), .int .u64 t] w fun r w' => ∃ A c, r = .returned (.slice A (q1q st.K lo hi t).length c) ∧
   ChP w' w.heap.size w'.heap.size A c (q1q st.K lo hi t) ∧ Below w.heap.size w w'
 commit : ∀ (p : Nat) (F : Nat → Prop) (L : LimS) (st : PS) (l : List Wr) (lo hi : Nat) (A : Option Addr) (c low : Nat) (w : World), St w p F L st → okW l → ChW w lo hi A c l → hi ≤ w.heap.size → (∀ k, F k → k < lo ∨ hi ≤ k) → low < 18446744073709551616 →
  Calls Tryz.prog 136 #[ptrS p, .slice A l.length c, .int .u64 low] w
   (q9a St w p F L (q09 L st l low).1 (.tuple #[.int .u64 (q09 L st l low).2.1, .int .i64 (q09 L st l low).2.2]))
 collect : ∀ (p : Nat) (F : Nat → Prop) (L : LimS) (st : PS) (low : Nat) (w : World), St w p F L st → low < 18446744073709551616 →
  Calls Tryz.prog 89 #[ptrS p, .int .u64 low] w
   (q9a St w p F L ⟨st.time, q07 st.K low⟩ (.int .i64 ((q1l st.K - q1l (q07 st.K low) : Nat) : Int)))
 clone : ∀ (p : Nat) (F : Nat → Prop) (L : LimS) (st : PS) (w : World), St w p F L st →
  Calls Tryz.prog 87 #[ptrS p] w fun r w' => ∃ q F', r = .returned (ptrS q) ∧ St w' q F' L st ∧ (∀ k, F' k → w.heap.size ≤ k) ∧ Below w.heap.size w w'
open Go.RowKit
theorem q7H (n : Int) (w : World) : Calls Tryz.prog 99 #[.int .i64 n] w fun r w' => r = .returned (.bool (q2S n)) ∧ w = w' := by
 unfold q2S
 by_cases h1 : 1 ≤ n
 ·have d1 : decide (1 ≤ n) = true := by rw [decide_eq_true_iff]; exact h1
  go_enter Tryz.func99, Tryz.ntmps99
  go_wp2
  go_ret
  exact ⟨by simp [d1], rfl⟩
 ·have d1 : decide (1 ≤ n) = false := by rw [decide_eq_false_iff_not]; exact h1
  go_enter Tryz.func99, Tryz.ntmps99
  go_wp2
  go_ret
  exact ⟨by simp, rfl⟩
theorem qfD (L : LimS) (m r v : Int) (w : World) : Calls Tryz.prog 55 #[q3A L m r v] w fun r w' => r = .returned (.bool (MayS L)) ∧ Below w.heap.size w w' := by
 obtain ⟨keys, vers, byts, last⟩ := L
 have HB := qh ((Below.refl _ w).alloc (Nat.le_refl _) (.cells #[.int .i64 keys, .int .i64 vers, .int .i64 byts, .int .i64 m, .int .i64 r, .int .i64 v, .int .u64 last] 24))
 have H1 := qh (fun W => q7H keys W)
 have H2 := qh (fun W => q7H vers W)
 have H3 := qh (fun W => q7H byts W)
 have HM : Hid (MayS ⟨keys, vers, byts, last⟩ = (q2S keys && q2S vers && q2S byts && decide (1 ≤ last))) := qh rfl
 have d0 : decide (1 ≤ (last : Int)) = decide (1 ≤ last) := by rw [decide_eq_decide]; omega
 unfold q3A
 simp only
 rw [HM.out]
 generalize q2S keys = r1 at *
 generalize q2S vers = r2 at *
 generalize q2S byts = r3 at *
 clear HM
 cases r1
 ·go_enter Tryz.func55, Tryz.ntmps55
  go_wp2_with fail
  refine (H1.out _).mono ?_
  rintro r w' ⟨rfl, rfl⟩
  go_wp2_with fail
  go_ret
  exact ⟨rfl, HB.out⟩
 ·cases r2
  ·go_enter Tryz.func55, Tryz.ntmps55
   go_wp2_with fail
   refine (H1.out _).mono ?_
   rintro r w' ⟨rfl, rfl⟩
   go_wp2_with fail
   refine (H2.out _).mono ?_
   rintro r w' ⟨rfl, rfl⟩
   go_wp2_with fail
   go_ret
   exact ⟨rfl, HB.out⟩
  ·cases r3
   ·go_enter Tryz.func55, Tryz.ntmps55
    go_wp2_with fail
    refine (H1.out _).mono ?_
    rintro r w' ⟨rfl, rfl⟩
    go_wp2_with fail
    refine (H2.out _).mono ?_
    rintro r w' ⟨rfl, rfl⟩
    go_wp2_with fail
    refine (H3.out _).mono ?_
    rintro r w' ⟨rfl, rfl⟩
    go_wp2_with fail
    go_ret
    exact ⟨rfl, HB.out⟩
   ·go_enter Tryz.func55, Tryz.ntmps55
    go_wp2_with fail
    refine (H1.out _).mono ?_
    rintro r w' ⟨rfl, rfl⟩
    go_wp2_with fail
    refine (H2.out _).mono ?_
    rintro r w' ⟨rfl, rfl⟩
    go_wp2_with fail
    refine (H3.out _).mono ?_
    rintro r w' ⟨rfl, rfl⟩
    go_wp2_with fail
    go_ret
    exact ⟨by simp, HB.out⟩
end Go.Proofs.YtdpbllacfljmoaaGreat
namespace Go.Proofs.YtdpbllacfljmoaaGreat
open Go.RowKit
theorem qej (m : Nat) (h : m < 256) : ((UInt8.ofNat m).toNat : Int) = (m : Int) := by
 have : (UInt8.ofNat m).toNat = m := by simp; omega
 omega
open Go.RowKit
open Go.RowKit
open Go.RowKit
theorem qao {w : World} {lo hi c n : Nat} {A : Option Addr} {m : List UInt8} (hn : n = m.length) (hr : Rd w lo hi A m) : (convert 35 9 (.slice A n c)).run Tryz.prog w = .ok (.string ⟨m.toArray⟩) w :=
 qce 35 9 5 Tryz.underlying35 Tryz.underlying5 Tryz.underlying9 hn hr
open Go.RowKit
def qgo (k : IntKind) (w : World) (a : Option Addr) (len cap : Nat) (zs : List Int) : Prop :=
 (a = none ∧ len = 0 ∧ cap = 0 ∧ zs = []) ∨
 ∃ x, a = some x ∧ len ≤ cap ∧ cap ≤ maxLen ∧ zs.length = cap ∧ (∀ i, i < zs.length → w.cell? (x.add i) = some (.int k (zs.getD i 0))) ∧ ∀ n ∈ zs, (Lit.int k n).wf = true
theorem qek {w : World} {a : Option Addr} {len cap : Nat} {zs : List Int} (h : qgo .u8 w a len cap zs) :
  ∃ l : List UInt8, len = l.length ∧ len ≤ cap ∧ cap ≤ maxLen ∧ (a = none → cap = 0) ∧ Rd w 0 w.heap.size a l := by
 rcases h with ⟨rfl, rfl, rfl, rfl⟩ | ⟨x, rfl, h1, h2, h3, hc, hw⟩
 ·exact ⟨[], rfl, Nat.le_refl _, Nat.zero_le _, fun _ => rfl, Rd.nil_⟩
 ·refine ⟨(zs.take len).map fun n => UInt8.ofNat n.toNat, by rw [List.length_map, List.length_take]; omega, h1, h2, fun h => (by cases h), fun hp => ?_⟩
  rw [List.length_map, List.length_take] at hp
  obtain ⟨b, off, rfl, hc'⟩ := ints_at hc (by omega)
  refine ⟨b, off, rfl, Nat.zero_le _, World.block_lt_of_cell? w ⟨b, off + 0, none⟩ (hc' 0 (by omega)), fun j hj => ?_⟩
  rw [List.length_map, List.length_take] at hj
  have hjz : j < zs.length := by omega
  rw [hc' j hjz, List.getElem_map, List.getElem_take, List.getD_eq_getElem?_getD, List.getElem?_eq_getElem hjz]
  have hb := bounds_u8 (hw _ (List.getElem_mem hjz))
  have e : ((UInt8.ofNat (zs[j]).toNat).toNat : Int) = zs[j] := by rw [qej _ (by omega)]; omega
  rw [e]
  rfl
open Go.RowKit
theorem q04 {P : Program} {C : World → Prop} {id : Nat} {Q : Exit → Act → World → Prop} {a : Act} {w : World} {l : List Oper} (hm : P.follows .mixedOrders = true) (hB : Region.lexB .any l.toArray = true) (hC : C w.drew)
  (h : wpQuiet P l.toArray C (fun a' => ∀ w', C w' → Q .normal a' w') l a) : (Code.region id l.toArray true).wp P Q a w :=
 wp_region_quiet (C := C) hm hB hC (by simpa using h)
open Go.RowKit
def q5D (w w' : World) : Prop := w'.heap = w.heap ∧ Below w.heap.size w w'
def q4Z (a b : List (KeyS × List UInt8)) : Bool := decide (a = b)
theorem q3i (l m : List (KeyS × List UInt8)) (A B : Option Addr) (c d : Nat) (lo1 hi1 lo2 hi2 : Nat) (w : World) (hl : l.length ≤ 9223372036854775807) (hm : m.length ≤ 9223372036854775807) (hr : RowP w lo1 hi1 A l) (hrm : RowP w lo2 hi2 B m) :
    Calls Tryz.prog 32 #[.slice A l.length c, .slice B m.length d] w fun r w' => r = .returned (.bool (q4Z l m)) ∧ Below w.heap.size w w' := by
  by_cases hlen : l.length = m.length
  · have HR := qh hr
    have HRM := qh hrm
    rw [hlen]
    have HLen := qh hlen
    clear hr hrm hlen hl
    go_enter Tryz.func32, Tryz.ntmps32
    go_wp2
    go_loopg [5, 13] m.length (fun q _ i wr => ∃ j : Nat, j + q = m.length ∧ i = .int .i64 j ∧ l.take j = m.take j ∧ Below w.heap.size w wr ∧ wr.heap = w.heap)
    case atStart => exact ⟨0, by omega, rfl, rfl, Below.refl _ _, rfl⟩
    case round =>
      obtain ⟨j, hk, rfl, hall, hb, hh⟩ := hrel
      have HK := qh hk
      have HA := qh hall
      have HB := qh hb
      have HH := qh hh
      clear hall hb hk hh
      by_cases hjm : j < m.length
      · have hlt : decide ((j : Int) < (m.length : Int)) = true := by simpa using hjm
        have hlt3 : decide (j < m.length) = true := by simpa using hjm
        have hj : j < l.length := by rw [HLen.out]; exact hjm
        obtain ⟨b, o, A', c', rfl, hbl, c0, c1, hs⟩ := HR.out.at_ hj
        obtain ⟨b', o', B', d', rfl, hbl2, e0, e1, hs2⟩ := HRM.out.at_ hjm
        have hcell : ∀ W, q5D wr W → ∀ p, W.cell? p = w.cell? p := fun W h p => World.cell?_of_block (by rw [h.1, HH.out])
        have HCl := qh (fun (W : World) (h : q5D wr W) => And.intro ((hcell W h _).trans c0) (And.intro ((hcell W h _).trans c1) (And.intro ((hcell W h _).trans e0) ((hcell W h _).trans e1))))
        have HK1 : Hid (∀ W : World, q5D wr W → (convert 35 9 (.slice A' l[j].2.length c')).run Tryz.prog W = .ok (.string (bs l[j].2)) W) := qh fun W h => qao rfl (hs.2.2.2.keep fun p _ _ => hcell W h p)
        have HK2 : Hid (∀ W : World, q5D wr W → (convert 35 9 (.slice B' m[j].2.length d')).run Tryz.prog W = .ok (.string (bs m[j].2)) W) := qh fun W h => qao rfl (hs2.2.2.2.keep fun p _ _ => hcell W h p)
        clear c0 c1 e0 e1
        have HT1 := qh (show l.take (j + 1) = l.take j ++ [l[j]] from by rw [List.take_succ_eq_append_getElem hj])
        have HT2 := qh (show m.take (j + 1) = m.take j ++ [m[j]] from by rw [List.take_succ_eq_append_getElem hjm])
        have HNe := qh (fun (h : l[j] ≠ m[j]) => (show q4Z l m = false by
          unfold q4Z
          rw [decide_eq_false_iff_not]
          intro e
          subst e
          exact h rfl))
        clear hs hs2 hcell
        generalize l[j] = x at *
        generalize m[j] = y at *
        obtain ⟨x1, x2⟩ := x
        obtain ⟨y1, y2⟩ := y
        simp only at HCl HK1 HK2
        by_cases hx : x1 = y1
        · subst hx
          have q1 : ((bs x1).toList == (bs x1).toList) = true := beq_self_eq_true _
          by_cases hy : x2 = y2
          · subst hy
            have q2 : ((bs x2).toList == (bs x2).toList) = true := beq_self_eq_true _
            go_wp2
            refine q04 (C := q5D wr) (by kernel_rfl) (by kernel_rfl) ⟨rfl, (Below.refl _ _).drew⟩ ?_
            repeat (
              refine no_implicit_lambda% (wpQuiet_step ?_)
              intro K hK
              go_simp
              first
              | (refine no_implicit_lambda% (hK _ ?_); clear hK K)
              | (apply Exists.intro
                 refine ⟨fun _ => ?_, hK _ ?_⟩
                 (first
                   | (intro _; with_reducible rfl)
                   | (intro hw; obtain ⟨z0, z1, z2, z3⟩ := HCl.out _ hw; go_simp; with_reducible exact ⟨rfl, rfl⟩)
                   | (intro hw; obtain ⟨z0, z1, z2, z3⟩ := HCl.out _ hw; go_simp; with_reducible rfl)
                   | (intro hw; have z1 := HK1.out _ hw; have z2 := HK2.out _ hw; go_simp; with_reducible exact ⟨rfl, rfl⟩)
                   | (intro hw; have z1 := HK1.out _ hw; have z2 := HK2.out _ hw; go_simp; with_reducible rfl)
                   | (intro hw; go_simp; with_reducible exact ⟨rfl, rfl⟩))
                 clear hK K))
            refine wpQuiet_nil ?_
            intro w8 hb8
            have HB8 := qh hb8
            clear hb8
            go_wp2_with fail
            go_roundg (gk - 1)
            case measure => have := HK.out; omega
            case rel => exact ⟨j + 1, by have := HK.out; omega, by go_num, by rw [HT1.out, HT2.out, HA.out], HB.out.trans (HB8.out.2.mono HB.out.size), HB8.out.1.trans HH.out⟩
          · have q2 : ((bs x2).toList == (bs y2).toList) = false := by rw [q43]; exact q5G hy
            have HF := qh (HNe.out (by simp [hy]))
            clear hy
            go_wp2
            refine q04 (C := q5D wr) (by kernel_rfl) (by kernel_rfl) ⟨rfl, (Below.refl _ _).drew⟩ ?_
            repeat (
              refine no_implicit_lambda% (wpQuiet_step ?_)
              intro K hK
              go_simp
              first
              | (refine no_implicit_lambda% (hK _ ?_); clear hK K)
              | (apply Exists.intro
                 refine ⟨fun _ => ?_, hK _ ?_⟩
                 (first
                   | (intro _; with_reducible rfl)
                   | (intro hw; obtain ⟨z0, z1, z2, z3⟩ := HCl.out _ hw; go_simp; with_reducible exact ⟨rfl, rfl⟩)
                   | (intro hw; obtain ⟨z0, z1, z2, z3⟩ := HCl.out _ hw; go_simp; with_reducible rfl)
                   | (intro hw; have z1 := HK1.out _ hw; have z2 := HK2.out _ hw; go_simp; with_reducible exact ⟨rfl, rfl⟩)
                   | (intro hw; have z1 := HK1.out _ hw; have z2 := HK2.out _ hw; go_simp; with_reducible rfl)
                   | (intro hw; go_simp; with_reducible exact ⟨rfl, rfl⟩))
                 clear hK K))
            refine wpQuiet_nil ?_
            intro w8 hb8
            have HB8 := qh hb8
            clear hb8
            go_wp2_with fail
            go_ret
            rw [HF.out]
            exact ⟨rfl, HB.out.trans (HB8.out.2.mono HB.out.size)⟩
        · have q1 : ((bs x1).toList == (bs y1).toList) = false := by rw [q43]; exact q5G hx
          have HF := qh (HNe.out (by simp [hx]))
          clear hx
          go_wp2
          refine q04 (C := q5D wr) (by kernel_rfl) (by kernel_rfl) ⟨rfl, (Below.refl _ _).drew⟩ ?_
          repeat (
            refine no_implicit_lambda% (wpQuiet_step ?_)
            intro K hK
            go_simp
            first
            | (refine no_implicit_lambda% (hK _ ?_); clear hK K)
            | (apply Exists.intro
               refine ⟨fun _ => ?_, hK _ ?_⟩
               (first
                 | (intro _; with_reducible rfl)
                 | (intro hw; obtain ⟨z0, z1, z2, z3⟩ := HCl.out _ hw; go_simp; with_reducible exact ⟨rfl, rfl⟩)
                 | (intro hw; obtain ⟨z0, z1, z2, z3⟩ := HCl.out _ hw; go_simp; with_reducible rfl)
                 | (intro hw; have z1 := HK1.out _ hw; have z2 := HK2.out _ hw; go_simp; with_reducible exact ⟨rfl, rfl⟩)
                 | (intro hw; have z1 := HK1.out _ hw; have z2 := HK2.out _ hw; go_simp; with_reducible rfl)
                 | (intro hw; go_simp; with_reducible exact ⟨rfl, rfl⟩))
               clear hK K))
          refine wpQuiet_nil ?_
          intro w8 hb8
          have HB8 := qh hb8
          clear hb8
          go_wp2_with fail
          go_ret
          rw [HF.out]
          exact ⟨rfl, HB.out.trans (HB8.out.2.mono HB.out.size)⟩
      · have hj' : j = m.length := by have := HK.out; omega
        have hlt : decide ((j : Int) < (m.length : Int)) = false := by simpa using hjm
        have HF := qh (show q4Z l m = true by
          have h := HA.out
          rw [hj', List.take_length, ← HLen.out, List.take_length] at h
          unfold q4Z
          rw [decide_eq_true_iff]
          exact h)
        clear hj'
        go_wp2
        go_ret
        rw [HF.out]
        exact ⟨rfl, HB.out⟩
  · have hle : ((l.length : Int) == (m.length : Int)) = false := by rw [beq_eq_false_iff_ne]; omega
    have hle2 : ((l.length : Int) != (m.length : Int)) = true := by rw [bne, hle]; rfl
    have e : q4Z l m = false := by unfold q4Z; rw [decide_eq_false_iff_not]; intro e; exact hlen (by rw [e])
    rw [e]
    clear e hlen hr hrm
    go_enter Tryz.func32, Tryz.ntmps32
    go_wp2
    go_ret
    exact ⟨rfl, Below.refl _ _⟩
end Go.Proofs.YtdpbllacfljmoaaGreat
