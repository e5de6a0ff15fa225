import Derived.Test.YtdpbllacfljmoaaGreatZC00
import Derived.BigQuiet
import Derived.Test.YtdpbllacfljmoaaGreatZC03
import Derived.Deep.DeepCutAuto
import Derived.Test.YtdpbllacfljmoaaGreatZC01
import Derived.Deep.LoopGhost
import Derived.RegionTactic
import Derived.Deep.RegionHeld3
set_option maxRecDepth 100000
set_option maxHeartbeats 16000000
set_option linter.unusedVariables false
namespace Go.Proofs.YtdpbllacfljmoaaGreat
open Go.RowKit
theorem q05 {P : Program} {C : World → Prop} {id : Nat} {Q : Exit → Act → World → Prop} {a : Act} {w : World} {l : List Oper} (hm : P.follows .mixedOrders = true) (hB : Region.lexB .any l.toArray = true) (hC : C w.drew)
  (h : wpQuiet P l.toArray C (fun a' => ∀ w', C w' → Q .normal a' w') l a) : (Code.region id l.toArray true).wp P Q a w :=
 wp_region_quiet (C := C) hm hB hC (by simpa using h)
open Go.RowKit
open Go.RowKit
def q2o (t : q4h) (A : Option Addr) (c : Nat) (B : Option Addr) (d : Nat) : Value := .agg #[.int .u64 t.n, .int .i64 t.e, .slice A t.b.length c, .bool t.is, .slice B t.scan.length d]
open Go.RowKit
theorem qei {w : World} {b : Nat} {e : TypeId} {a0 a1 a2 a3 a4 a5 a6 : Value} (h : w.heap[b]? = some (.cells #[a0, a1, a2, a3, a4, a5, a6] e (0, 0))) (v0 v1 v2 v3 v4 v5 v6 : Value) :
  (((((((w.setCell ⟨b, 0, none⟩ v0).setCell ⟨b, 1, none⟩ v1).setCell ⟨b, 2, none⟩ v2).setCell ⟨b, 3, none⟩ v3).setCell ⟨b, 4, none⟩ v4).setCell ⟨b, 5, none⟩ v5).setCell ⟨b, 6, none⟩ v6).heap[b]? = some (.cells #[v0, v1, v2, v3, v4, v5, v6] e (0, 0)) := by
 simp [World.setCell, Array.getElem?_modify, h]
theorem Below.box7 {w w' : World} {B b : Nat} (h : Below B w w') (hb : B ≤ b) (v0 v1 v2 v3 v4 v5 v6 : Value) : Below B w (((((((w'.setCell ⟨b, 0, none⟩ v0).setCell ⟨b, 1, none⟩ v1).setCell ⟨b, 2, none⟩ v2).setCell ⟨b, 3, none⟩ v3).setCell ⟨b, 4, none⟩ v4).setCell ⟨b, 5, none⟩ v5).setCell ⟨b, 6, none⟩ v6) :=
 ((((((h.setCell hb _).setCell hb _).setCell hb _).setCell hb _).setCell hb _).setCell hb _).setCell hb _
open Go.RowKit
theorem q2O {w : World} {b : Nat} {e : TypeId} {a0 a1 a2 a3 a4 : Value} (h : w.heap[b]? = some (.cells #[a0, a1, a2, a3, a4] e (0, 0))) (v0 v1 v2 v3 v4 : Value) :
  (((((w.setCell ⟨b, 0, none⟩ v0).setCell ⟨b, 1, none⟩ v1).setCell ⟨b, 2, none⟩ v2).setCell ⟨b, 3, none⟩ v3).setCell ⟨b, 4, none⟩ v4).heap[b]? = some (.cells #[v0, v1, v2, v3, v4] e (0, 0)) := by
 simp [World.setCell, Array.getElem?_modify, h]
theorem q4r (w : World) (p : Addr) (v : Value) : Mut (fun k => k = p.block) w (w.setCell p v) := by
 have h := (Below.refl 0 w).setCell (Nat.zero_le p.block) v
 refine ⟨h.os, h.tape, h.output, h.size, fun k _ hk => ?_⟩
 have hk' : p.block ≠ k := fun e => hk e.symm
 simp [World.setCell, Array.getElem?_modify, hk']
theorem q29 (w : World) (b : Nat) (v0 v1 v2 v3 v4 : Value) : Mut (fun k => k = b) w (((((w.setCell ⟨b, 0, none⟩ v0).setCell ⟨b, 1, none⟩ v1).setCell ⟨b, 2, none⟩ v2).setCell ⟨b, 3, none⟩ v3).setCell ⟨b, 4, none⟩ v4) :=
 (((((q4r w ⟨b, 0, none⟩ v0).trans (q4r _ ⟨b, 1, none⟩ v1) (fun _ h => .inl h)).trans (q4r _ ⟨b, 2, none⟩ v2) (fun _ h => .inl h)).trans (q4r _ ⟨b, 3, none⟩ v3) (fun _ h => .inl h)).trans (q4r _ ⟨b, 4, none⟩ v4) (fun _ h => .inl h))
open Go.RowKit
def st2 : PS := ⟨2, [([97], [⟨1, false, [120]⟩, ⟨2, true, []⟩])]⟩
open Go.RowKit
theorem qa1 (t : TypeId) (a b : ByteArray) : binOp .leq t (.string a) (.string b) = pure (.bool (Op.bytesLess a.toList b.toList || a.toList == b.toList)) := by simp [binOp, Op.stringOp]
theorem q0c {w : World} {b g : Nat} (hg : g ≠ b) (o : Nat) (v : Value) : (w.setCell ⟨b, o, none⟩ v).heap[g]? = w.heap[g]? := by
 have hg' : b ≠ g := fun e => hg e.symm
 simp [World.setCell, Array.getElem?_modify, hg']
section
variable {St : q7b} {w : World}
end
open Go.RowKit
theorem q8Q (a b : List Ver) : q0z (a ++ b) = q0z a + q0z b := by
 induction a with
 | nil => simp [q0z]
 | cons x a ih =>
  have e : ∀ l : List Ver, q0z (x :: l) = x.dat.length + q0z l := fun l => by simp [q0z]
  rw [List.cons_append, e, e, ih]
  omega
theorem qbM {l : List Ver} {j : Nat} (hj : j < l.length) : q0z (l.take (j + 1)) = q0z (l.take j) + (l[j]'hj).dat.length := by
 rw [List.take_succ_eq_append_getElem hj, q8Q]
 rfl
theorem q7G (l : List Ver) (j : Nat) : q0z (l.take j) ≤ q0z l := by
 have h : q0z l = q0z (l.take j) + q0z (l.drop j) := by
  rw [← q8Q, List.take_append_drop]
 omega
open Go.RowKit
def optH (o : Option Ver) : Ver := o.getD Ver0
open Go.RowKit
open Go.RowKit
def ChH (w : World) (hi : Nat) (A : Option Addr) (c : Nat) (l : List Ver) : Prop := l.length ≤ c ∧ c ≤ maxLen ∧ (A = none → c = 0) ∧ RowH w hi A l
theorem ChH.none_ (w : World) (hi : Nat) : ChH w hi none 0 [] := ⟨Nat.le_refl _, Nat.zero_le _, fun _ => rfl, RowH.nil_ _ _ _⟩
open Go.RowKit
section
variable {w w' : World} {hi hi' B : Nat} {A : Option Addr} {ms : List MV}
end
open Go.RowKit
structure MOne where
 key : KeyS
 A : Option Addr
 c : Nat
 ms : List MV
def RowS {α : Type} (cs : α → List Value) (w : World) (S : Nat → Prop) (A : Option Addr) (l : List α) : Prop :=
 0 < l.length → ∃ b o, A = some ⟨b, o, none⟩ ∧ S b ∧ ∀ j u, (q0g cs l)[j]? = some u → w.cell? ⟨b, o + j, none⟩ = some u
def RdS (w : World) (S : Nat → Prop) (A : Option Addr) (l : List UInt8) : Prop :=
 0 < l.length → ∃ b o, A = some ⟨b, o, none⟩ ∧ S b ∧ ∀ j (h : j < l.length), w.cell? ⟨b, o + j, none⟩ = some (.int .u8 ((l[j]'h).toNat : Int))
section
variable {α : Type} {k : Nat} {cs : α → List Value} {w w' : World} {S T : Nat → Prop} {A : Option Addr} {l : List α}
theorem RowS.block (hF : q12 k cs) (h : RowS cs w S A l) (hn : 0 < l.length) : ∃ b o, A = some ⟨b, o, none⟩ ∧ S b ∧ b < w.heap.size ∧ ∀ j u, (q0g cs l)[j]? = some u → w.cell? ⟨b, o + j, none⟩ = some u := by
 obtain ⟨b, o, e, hs, hc⟩ := h hn
 have h0 : 0 < (q0g cs l).length := by rw [hF.flat_len]; exact Nat.mul_pos hn hF.pos
 have := World.block_lt_of_cell? w _ (hc 0 _ (List.getElem?_eq_getElem h0))
 exact ⟨b, o, e, hs, by simpa using this, hc⟩
theorem RowS.rowG (hF : q12 k cs) (h : RowS cs w S A l) : RowG cs w 0 w.heap.size A l := fun hn => by
 obtain ⟨b, o, e, _, hb, hc⟩ := h.block hF hn
 exact ⟨b, o, e, Nat.zero_le _, hb, hc⟩
theorem RowS.keep (hF : q12 k cs) (h : RowS cs w S A l) (hk : ∀ g, S g → g < w.heap.size → w'.heap[g]? = w.heap[g]? ∧ T g) : RowS cs w' T A l := fun hn => by
 obtain ⟨b, o, e, hs, hb, hc⟩ := h.block hF hn
 obtain ⟨h1, h2⟩ := hk b hs hb
 exact ⟨b, o, e, h2, fun j u hj => (World.cell?_of_block (a := ⟨b, o + j, none⟩) h1).trans (hc j u hj)⟩
theorem RowS.of_new {lo hi : Nat} (h : RowG cs w lo hi A l) (hS : ∀ g, lo ≤ g → S g) : RowS cs w S A l := fun hn => by
 obtain ⟨b, o, e, h1, _, hc⟩ := h hn
 exact ⟨b, o, e, hS b h1, hc⟩
theorem RdS.block {d : List UInt8} (h : RdS w S A d) (hn : 0 < d.length) : ∃ b o, A = some ⟨b, o, none⟩ ∧ S b ∧ b < w.heap.size ∧ ∀ j (h : j < d.length), w.cell? ⟨b, o + j, none⟩ = some (.int .u8 ((d[j]'h).toNat : Int)) := by
 obtain ⟨b, o, e, hs, hc⟩ := h hn
 have := World.block_lt_of_cell? w _ (hc 0 hn)
 exact ⟨b, o, e, hs, by simpa using this, hc⟩
theorem RdS.rd {d : List UInt8} (h : RdS w S A d) : Rd w 0 w.heap.size A d := fun hn => by
 obtain ⟨b, o, e, _, hb, hc⟩ := h.block hn
 exact ⟨b, o, e, Nat.zero_le _, hb, hc⟩
theorem RdS.keep {d : List UInt8} (h : RdS w S A d) (hk : ∀ g, S g → g < w.heap.size → w'.heap[g]? = w.heap[g]? ∧ T g) : RdS w' T A d := fun hn => by
 obtain ⟨b, o, e, hs, hb, hc⟩ := h.block hn
 obtain ⟨h1, h2⟩ := hk b hs hb
 exact ⟨b, o, e, h2, fun j hj => (World.cell?_of_block (a := ⟨b, o + j, none⟩) h1).trans (hc j hj)⟩
theorem RdS.of_rd {d : List UInt8} {lo hi : Nat} (h : Rd w lo hi A d) (hS : ∀ g, lo ≤ g → g < hi → S g) : RdS w S A d := fun hn => by
 obtain ⟨b, o, e, h1, h2, hc⟩ := h hn
 exact ⟨b, o, e, hS b h1 h2, hc⟩
end
section
variable {w w' : World} {p : Nat} {S T : Nat → Prop} {L : LimS} {m r v : Int} {time : Nat} {A : Option Addr} {c : Nat} {os : List MOne}
end
structure Sp where
 lo : List UInt8
 hi : List UInt8
abbrev blo (a b : List UInt8) : Bool := !blt b a
def endS (hi k : List UInt8) : Bool := hi.isEmpty || blt k hi
def hasS (s : Sp) (k : List UInt8) : Bool := blo s.lo k && endS s.hi k
def q0f (s : Sp) : Bool := endS s.hi s.lo
def inP (l : List Sp) (k : List UInt8) : Bool := l.any fun s => hasS s k
def gapS (s t : Sp) : Prop := s.hi ≠ [] ∧ blt s.hi t.lo = true
def q0D : List Sp → Prop
 | [] => True
 | s :: l => q0f s = true ∧ (∀ t ∈ l, gapS s t) ∧ q0D l
theorem q1r (a : List UInt8) : blo a a = true := by simp [blo, q0X]
theorem q20 {a b : List UInt8} (h : blt a b = true) : blo a b = true := by simp [blo, q1S h]
theorem q7g {a b : List UInt8} : blo a b = true ↔ blt a b = true ∨ a = b := by
 constructor
 ·intro h
  rcases q21 a b with g | g | g
  ·exact .inl g
  ·exact .inr g
  ·simp [blo, g] at h
 ·rintro (h | rfl)
  ·exact q20 h
  ·exact q1r _
theorem qah {a b c : List UInt8} (h : blo a b = true) (h2 : blt b c = true) : blt a c = true := by
 rcases q7g.1 h with g | rfl
 ·exact q0o g h2
 ·exact h2
theorem q5d {a b c : List UInt8} (h : blt a b = true) (h2 : blo b c = true) : blt a c = true := by
 rcases q7g.1 h2 with g | rfl
 ·exact q0o h g
 ·exact h
theorem q1h {a b c : List UInt8} (h : blo a b = true) (h2 : blo b c = true) : blo a c = true := by
 rcases q7g.1 h with g | rfl
 ·exact q20 (q5d g h2)
 ·exact h2
theorem qag {a b : List UInt8} (h : blo a b = true) (h2 : blo b a = true) : a = b := by
 rcases q7g.1 h with g | g
 ·rw [blo, g] at h2; cases h2
 ·exact g
theorem q4a {a b : List UInt8} (h : ¬ blo a b = true) : blt b a = true := by
 rcases q21 a b with g | g | g
 ·exact absurd (q20 g) h
 ·exact absurd (g ▸ q1r a) h
 ·exact g
theorem q6S {s : Sp} (h : q0f s = true) : hasS s s.lo = true := by
 unfold hasS
 rw [q1r]
 exact h
theorem q0w {s : Sp} {k : List UInt8} : hasS s k = true ↔ blo s.lo k = true ∧ endS s.hi k = true := by
 unfold hasS
 rw [Bool.and_eq_true]
theorem q0B {hi k : List UInt8} : endS hi k = true ↔ hi = [] ∨ blt k hi = true := by
 unfold endS
 rw [Bool.or_eq_true, List.isEmpty_iff]
theorem q1l {l : List Sp} {k : List UInt8} : inP l k = true ↔ ∃ s ∈ l, hasS s k = true := by
 unfold inP
 rw [List.any_eq_true]
theorem q4o {s t : Sp} (h : q0f s = true) (hg : gapS s t) : blt s.lo t.lo = true := by
 rcases q0B.1 h with g | g
 ·exact absurd g hg.1
 ·exact q0o g hg.2
theorem q9H {s : Sp} {l : List Sp} (hg : ∀ t ∈ l, gapS s t) {k : List UInt8} (hk : blo k s.hi = true) : inP l k = false := by
 cases h : inP l k
 ·rfl
 ·obtain ⟨t, ht, hh⟩ := q1l.1 h
  have h1 := (q0w.1 hh).1
  have h2 := q5d (hg t ht).2 h1
  have h3 := qah hk h2
  rw [q0X] at h3
  cases h3
theorem qdm {s : Sp} {l : List Sp} (h : q0D (s :: l)) {k : List UInt8} (hk : inP (s :: l) k = true) : blo s.lo k = true := by
 obtain ⟨t, ht, hh⟩ := q1l.1 hk
 rcases List.mem_cons.1 ht with rfl | ht
 ·exact (q0w.1 hh).1
 ·exact q1h (q20 (q4o h.1 (h.2.1 t ht))) (q0w.1 hh).1
theorem qdl : ∀ {a b : List Sp}, q0D a → q0D b → (∀ k, inP a k = inP b k) → a = b
 | [], [], _, _, _ => rfl
 | [], t :: b, _, hb, h => by
  have := h t.lo
  rw [q1l.2 ⟨t, List.mem_cons_self .., q6S hb.1⟩] at this
  cases this
 | s :: a, [], ha, _, h => by
  have := h s.lo
  rw [q1l.2 ⟨s, List.mem_cons_self .., q6S ha.1⟩] at this
  cases this
 | s :: a, t :: b, ha, hb, h => by
  have hs : inP (s :: a) s.lo = true := q1l.2 ⟨s, List.mem_cons_self .., q6S ha.1⟩
  have ht : inP (t :: b) t.lo = true := q1l.2 ⟨t, List.mem_cons_self .., q6S hb.1⟩
  have e1 : s.lo = t.lo := qag (qdm ha (by rw [h]; exact ht)) (qdm hb (by rw [← h]; exact hs))
  have key : ∀ {x y : Sp} {p q : List Sp}, q0D (x :: p) → q0D (y :: q) → x.lo = y.lo → (∀ k, inP (x :: p) k = inP (y :: q) k) → x.hi ≠ [] → endS y.hi x.hi = true → False := by
   intro x y p q hx hy e hh hne hend
   have hxl : blt x.lo x.hi = true := by
    rcases q0B.1 hx.1 with g | g
    ·exact absurd g hne
    ·exact g
   have h1 : inP (y :: q) x.hi = true := q1l.2 ⟨y, List.mem_cons_self .., q0w.2 ⟨by rw [← e]; exact q20 hxl, hend⟩⟩
   rw [← hh] at h1
   obtain ⟨z, hz, hzz⟩ := q1l.1 h1
   rcases List.mem_cons.1 hz with rfl | hz
   ·rcases q0B.1 (q0w.1 hzz).2 with g | g
    ·exact hne g
    ·rw [q0X] at g; cases g
   ·have := q9H hx.2.1 (q1r x.hi)
    rw [q1l.2 ⟨z, hz, hzz⟩] at this
    cases this
  have e2 : s.hi = t.hi := by
   by_cases hs0 : s.hi = []
   ·by_cases ht0 : t.hi = []
    ·rw [hs0, ht0]
    ·exact (key hb ha e1.symm (fun k => (h k).symm) ht0 (q0B.2 (.inl hs0))).elim
   ·by_cases ht0 : t.hi = []
    ·exact (key ha hb e1 h hs0 (q0B.2 (.inl ht0))).elim
    ·rcases q21 s.hi t.hi with g | g | g
     ·exact (key ha hb e1 h hs0 (q0B.2 (.inr g))).elim
     ·exact g
     ·exact (key hb ha e1.symm (fun k => (h k).symm) ht0 (q0B.2 (.inr g))).elim
  have e : s = t := by cases s; cases t; simp only at e1 e2; subst e1 e2; rfl
  subst e
  have ht : ∀ k, inP a k = inP b k := fun k => by
   have hk := h k
   have c : ∀ l : List Sp, inP (s :: l) k = (hasS s k || inP l k) := fun l => by simp [inP]
   rw [c, c] at hk
   cases hq : hasS s k
   ·rw [hq, Bool.false_or, Bool.false_or] at hk
    exact hk
   ·rcases q0B.1 (q0w.1 hq).2 with g | g
    ·have na : a = [] := by
      cases a with
      | nil => rfl
      | cons x a => exact absurd g (ha.2.1 x (List.mem_cons_self ..)).1
     have nb : b = [] := by
      cases b with
      | nil => rfl
      | cons x b => exact absurd g (hb.2.1 x (List.mem_cons_self ..)).1
     rw [na, nb]
    ·rw [q9H ha.2.1 (q20 g), q9H hb.2.1 (q20 g)]
  rw [qdl ha.2.2 hb.2.2 ht]
def maxS (a b : List UInt8) : List UInt8 := if blt a b = true then b else a
def minS (a b : List UInt8) : List UInt8 := if blt a b = true then a else b
def q2r (a b : Sp) : Bool := hasS a (maxS a.lo b.lo) && hasS b (maxS a.lo b.lo)
theorem qfa {a b k : List UInt8} : blo (maxS a b) k = true ↔ blo a k = true ∧ blo b k = true := by
 unfold maxS
 split
 ·next h => exact ⟨fun g => ⟨q1h (q20 h) g, g⟩, fun g => g.2⟩
 ·next h =>
  have hba : blo b a = true := by simp [blo, h]
  exact ⟨fun g => ⟨g, q1h hba g⟩, fun g => g.1⟩
theorem q1s {hi k j : List UInt8} (h : endS hi k = true) (hj : blo j k = true) : endS hi j = true := by
 rcases q0B.1 h with g | g
 ·exact q0B.2 (.inl g)
 ·exact q0B.2 (.inr (qah hj g))
theorem q6d (a b : Sp) : q2r a b = true ↔ ∃ k, hasS a k = true ∧ hasS b k = true := by
 unfold q2r
 rw [Bool.and_eq_true]
 constructor
 ·exact fun h => ⟨_, h⟩
 ·rintro ⟨k, ha, hb⟩
  obtain ⟨a1, a2⟩ := q0w.1 ha
  obtain ⟨b1, b2⟩ := q0w.1 hb
  have hm := qfa.2 ⟨a1, b1⟩
  have hr := qfa.1 (q1r (maxS a.lo b.lo))
  exact ⟨q0w.2 ⟨hr.1, q1s a2 hm⟩, q0w.2 ⟨hr.2, q1s b2 hm⟩⟩
def q0R (a b : Sp) : Bool := (a.hi.isEmpty || blo b.lo a.hi) && (b.hi.isEmpty || blo a.lo b.hi)
def q3n (a b : Sp) : Sp := ⟨minS a.lo b.lo, if a.hi = [] ∨ b.hi = [] then [] else maxS a.hi b.hi⟩
theorem q4C {a b : Sp} : q0R a b = true ↔ (a.hi = [] ∨ blo b.lo a.hi = true) ∧ (b.hi = [] ∨ blo a.lo b.hi = true) := by
 unfold q0R
 rw [Bool.and_eq_true, Bool.or_eq_true, Bool.or_eq_true, List.isEmpty_iff, List.isEmpty_iff]
theorem q6i {a b : Sp} (h : q0R a b = false) : gapS a b ∨ gapS b a := by
 by_cases h1 : a.hi = [] ∨ blo b.lo a.hi = true
 ·by_cases h2 : b.hi = [] ∨ blo a.lo b.hi = true
  ·rw [q4C.2 ⟨h1, h2⟩] at h
   cases h
  ·right
   exact ⟨fun e => h2 (.inl e), q4a fun e => h2 (.inr e)⟩
 ·left
  exact ⟨fun e => h1 (.inl e), q4a fun e => h1 (.inr e)⟩
theorem q8q {a b : Sp} (h : gapS a b) : q0R a b = false := by
 cases ht : q0R a b
 ·rfl
 ·rcases (q4C.1 ht).1 with g | g
  ·exact absurd g h.1
  ·have := q5d h.2 g
   rw [q0X] at this
   cases this
theorem qbR (a b : Sp) : q0R a b = q0R b a := by
 unfold q0R
 exact Bool.and_comm _ _
theorem qdg {a b k : List UInt8} : blo (minS a b) k = true ↔ blo a k = true ∨ blo b k = true := by
 unfold minS
 split
 ·next h => exact ⟨fun g => .inl g, fun g => g.elim id fun g => q1h (q20 h) g⟩
 ·next h =>
  have hba : blo b a = true := by simp [blo, h]
  exact ⟨fun g => .inr g, fun g => g.elim (fun g => q1h hba g) id⟩
theorem qge {a b k : List UInt8} : blt k (maxS a b) = true ↔ blt k a = true ∨ blt k b = true := by
 unfold maxS
 split
 ·next h => exact ⟨fun g => .inr g, fun g => g.elim (fun g => q0o g h) id⟩
 ·next h =>
  have hba : blo b a = true := by simp [blo, h]
  exact ⟨fun g => .inl g, fun g => g.elim id fun g => q5d g hba⟩
theorem qgh {a b : List UInt8} (ha : a ≠ []) (hb : b ≠ []) : maxS a b ≠ [] := by
 unfold maxS
 split
 ·exact hb
 ·exact ha
theorem q5I (a b : Sp) (k : List UInt8) : endS (q3n a b).hi k = (endS a.hi k || endS b.hi k) := by
 rw [Bool.eq_iff_iff, Bool.or_eq_true, q0B, q0B, q0B]
 show (if a.hi = [] ∨ b.hi = [] then [] else maxS a.hi b.hi) = [] ∨ blt k (if a.hi = [] ∨ b.hi = [] then [] else maxS a.hi b.hi) = true ↔ _
 by_cases h : a.hi = [] ∨ b.hi = []
 ·rw [if_pos h]
  simp only [true_or, true_iff]
  rcases h with h | h
  ·exact .inl (.inl h)
  ·exact .inr (.inl h)
 ·rw [if_neg h, qge]
  have ha : a.hi ≠ [] := fun e => h (.inl e)
  have hb : b.hi ≠ [] := fun e => h (.inr e)
  have hm := qgh ha hb
  simp only [hm, ha, hb, false_or]
theorem q3b {a b : Sp} (ha : q0f a = true) : q0f (q3n a b) = true := by
 unfold q0f
 rw [q5I, Bool.or_eq_true]
 exact .inl (q1s ha (qdg.2 (.inl (q1r _))))
theorem q5J {a b : Sp} (h : q0R a b = true) (k : List UInt8) : hasS (q3n a b) k = (hasS a k || hasS b k) := by
 obtain ⟨t1, t2⟩ := q4C.1 h
 rw [Bool.eq_iff_iff, Bool.or_eq_true, q0w, q0w, q0w, q5I, Bool.or_eq_true]
 show blo (minS a.lo b.lo) k = true ∧ _ ↔ _
 rw [qdg]
 constructor
 ·rintro ⟨h1, h2⟩
  by_cases ea : endS a.hi k = true
  ·by_cases la : blo a.lo k = true
   ·exact .inl ⟨la, ea⟩
   ·have lb : blo b.lo k = true := h1.resolve_left la
    have : endS b.hi k = true := by
     rcases t2 with g | g
     ·exact q0B.2 (.inl g)
     ·exact q0B.2 (.inr (q5d (q4a la) g))
    exact .inr ⟨lb, this⟩
  ·have eb := h2.resolve_left ea
   by_cases lb : blo b.lo k = true
   ·exact .inr ⟨lb, eb⟩
   ·have : endS a.hi k = true := by
     rcases t1 with g | g
     ·exact q0B.2 (.inl g)
     ·exact q0B.2 (.inr (q5d (q4a lb) g))
    exact absurd this ea
 ·rintro (⟨h1, h2⟩ | ⟨h1, h2⟩)
  ·exact ⟨.inl h1, .inl h2⟩
  ·exact ⟨.inr h1, .inr h2⟩
def q2d (l : List Sp) (s : Sp) : Sp := l.foldl (fun s x => if q0R x s = true then q3n x s else s) s
def q5i (l : List Sp) (s : Sp) : List Sp :=
 (l.filter fun x => !q0R x (q2d l s) && blt x.lo (q2d l s).lo) ++ q2d l s :: l.filter fun x => !q0R x (q2d l s) && blt (q2d l s).lo x.lo
theorem q3L : ∀ (l : List Sp) {s : Sp}, q0f s = true → q0f (q2d l s) = true
 | [], _, h => h
 | x :: l, s, h => by
  show q0f (q2d l (if q0R x s = true then q3n x s else s)) = true
  split
  ·refine q3L l ?_
   unfold q0f
   rw [q5I, Bool.or_eq_true]
   exact .inr (q1s h (qdg.2 (.inr (q1r _))))
  ·exact q3L l h
theorem q9I : ∀ (l : List Sp) {s : Sp}, q0D l → q0f s = true → ∀ k, (hasS (q2d l s) k || inP l k) = (hasS s k || inP l k)
 | [], _, _, _, _ => rfl
 | x :: l, s, hn, hs, k => by
  have c : inP (x :: l) k = (hasS x k || inP l k) := by simp [inP]
  show (hasS (q2d l (if q0R x s = true then q3n x s else s)) k || _) = _
  rw [c]
  by_cases ht : q0R x s = true
  ·rw [if_pos ht]
   have hr : q0f (q3n x s) = true := q3b hn.1
   have ih := q9I l hn.2.2 hr k
   rw [q5J ht] at ih
   cases h1 : hasS (q2d l (q3n x s)) k <;> cases h2 : hasS x k <;> cases h3 : hasS s k <;> cases h4 : inP l k <;> simp_all
  ·rw [if_neg ht]
   have ih := q9I l hn.2.2 hs k
   cases h1 : hasS (q2d l s) k <;> cases h2 : hasS x k <;> cases h3 : hasS s k <;> cases h4 : inP l k <;> simp_all
theorem q7r : ∀ (l : List Sp) {s : Sp} (k : List UInt8), hasS s k = true → q0f s = true → q0D l → hasS (q2d l s) k = true
 | [], _, _, h, _, _ => h
 | x :: l, s, k, h, hs, hn => by
  show hasS (q2d l (if q0R x s = true then q3n x s else s)) k = true
  by_cases ht : q0R x s = true
  ·rw [if_pos ht]
   refine q7r l k ?_ (q3b hn.1) hn.2.2
   rw [q5J ht, h, Bool.or_true]
  ·rw [if_neg ht]
   exact q7r l k h hs hn.2.2
theorem qcM : ∀ (l : List Sp) {s : Sp} {k : List UInt8}, blt k s.lo = true → (∀ x ∈ l, blt k x.lo = true) → blt k (q2d l s).lo = true
 | [], _, _, h, _ => h
 | x :: l, s, k, h, hl => by
  show blt k (q2d l (if q0R x s = true then q3n x s else s)).lo = true
  refine qcM l ?_ fun y hy => hl y (List.mem_cons_of_mem _ hy)
  split
  ·show blt k (minS x.lo s.lo) = true
   unfold minS
   split
   ·exact hl x (List.mem_cons_self ..)
   ·exact h
  ·exact h
theorem q8t : ∀ (l : List Sp) {s : Sp}, (∀ x ∈ l, gapS s x) → q2d l s = s
 | [], _, _ => rfl
 | x :: l, s, h => by
  show q2d l (if q0R x s = true then q3n x s else s) = s
  rw [qbR, q8q (h x (List.mem_cons_self ..)), if_neg (by simp)]
  exact q8t l fun y hy => h y (List.mem_cons_of_mem _ hy)
theorem qcN {a b : Sp} {k : List UInt8} (ha : hasS a k = true) (hb : hasS b k = true) : q0R a b = true := by
 obtain ⟨a1, a2⟩ := q0w.1 ha
 obtain ⟨b1, b2⟩ := q0w.1 hb
 refine q4C.2 ⟨?_, ?_⟩
 ·rcases q0B.1 a2 with g | g
  ·exact .inl g
  ·exact .inr (q20 (qah b1 g))
 ·rcases q0B.1 b2 with g | g
  ·exact .inl g
  ·exact .inr (q20 (qah a1 g))
theorem q64 : ∀ (l : List Sp) {s : Sp}, q0D l → q0f s = true → ∀ x ∈ l, q0R x (q2d l s) = true → ∀ k, hasS x k = true → hasS (q2d l s) k = true
 | [], _, _, _, _, hx, _, _, _ => by cases hx
 | y :: l, s, hn, hs, x, hx, ht, k, hk => by
  rw [show q2d (y :: l) s = q2d l (if q0R y s = true then q3n y s else s) from rfl] at ht ⊢
  by_cases hy : q0R y s = true
  ·rw [if_pos hy] at ht ⊢
   rcases List.mem_cons.1 hx with rfl | hx
   ·refine q7r l k ?_ (q3b hn.1) hn.2.2
    rw [q5J hy, hk, Bool.true_or]
   ·exact q64 l hn.2.2 (q3b hn.1) x hx ht k hk
  ·rw [if_neg hy] at ht ⊢
   rcases List.mem_cons.1 hx with rfl | hx
   ·have hf : q0R x s = false := by simpa using hy
    rcases q6i hf with g | g
    ·have h1 : gapS x (q2d l s) := ⟨g.1, qcM l g.2 fun z hz => (hn.2.1 z hz).2⟩
     rw [q8q h1] at ht
     cases ht
    ·have h2 : q2d l s = s := q8t l fun z hz => ⟨g.1, q0o g.2 (q4o hn.1 (hn.2.1 z hz))⟩
     rw [h2, hf] at ht
     cases ht
   ·exact q64 l hn.2.2 hs x hx ht k hk
theorem q3g (p : Sp → Bool) : ∀ {l : List Sp}, q0D l → q0D (l.filter p)
 | [], _ => trivial
 | x :: l, h => by
  rw [List.filter_cons]
  split
  ·exact ⟨h.1, fun t ht => h.2.1 t (List.mem_filter.1 ht).1, q3g p h.2.2⟩
  ·exact q3g p h.2.2
theorem q3f : ∀ {a b : List Sp}, q0D a → q0D b → (∀ x ∈ a, ∀ y ∈ b, gapS x y) → q0D (a ++ b)
 | [], _, _, hb, _ => hb
 | x :: a, b, ha, hb, h => by
  refine ⟨ha.1, fun t ht => ?_, q3f ha.2.2 hb fun y hy => h y (List.mem_cons_of_mem _ hy)⟩
  rcases List.mem_append.1 ht with ht | ht
  ·exact ha.2.1 t ht
  ·exact h x (List.mem_cons_self ..) t ht
theorem q2x : ∀ {l : List Sp}, q0D l → ∀ x ∈ l, q0f x = true
 | x :: l, h, y, hy => by
  rcases List.mem_cons.1 hy with rfl | hy
  ·exact h.1
  ·exact q2x h.2.2 y hy
theorem q63 {a b c : Sp} (hb : q0f b = true) (h1 : gapS a b) (h2 : gapS b c) : gapS a c := ⟨h1.1, q0o h1.2 (q4o hb h2)⟩
theorem qaD {l : List Sp} {s : Sp} (hl : q0D l) (hs : q0f s = true) : q0D (q5i l s) := by
 have hg := q3L l hs
 unfold q5i
 generalize q2d l s = g at *
 have before : ∀ x ∈ l, q0R x g = false → blt x.lo g.lo = true → gapS x g := fun x hx ht hlt => by
  rcases q6i ht with h | h
  ·exact h
  ·have := q0o hlt (q4o hg h)
   rw [q0X] at this
   cases this
 have behind : ∀ x ∈ l, q0R x g = false → blt g.lo x.lo = true → gapS g x := fun x hx ht hlt => by
  rcases q6i ht with h | h
  ·have := q0o hlt (q4o (q2x hl x hx) h)
   rw [q0X] at this
   cases this
  ·exact h
 refine q3f (q3g _ hl) ⟨hg, fun t ht => ?_, q3g _ hl⟩ fun x hx y hy => ?_
 ·obtain ⟨h1, h2⟩ := List.mem_filter.1 ht
  rw [Bool.and_eq_true, Bool.not_eq_true'] at h2
  exact behind t h1 h2.1 h2.2
 ·obtain ⟨h1, h2⟩ := List.mem_filter.1 hx
  rw [Bool.and_eq_true, Bool.not_eq_true'] at h2
  have hxg := before x h1 h2.1 h2.2
  rcases List.mem_cons.1 hy with rfl | hy
  ·exact hxg
  ·obtain ⟨h3, h4⟩ := List.mem_filter.1 hy
   rw [Bool.and_eq_true, Bool.not_eq_true'] at h4
   exact q63 hg hxg (behind y h3 h4.1 h4.2)
theorem qgk {l : List Sp} {s : Sp} (hl : q0D l) (hs : q0f s = true) (k : List UInt8) : inP (q5i l s) k = (inP l k || hasS s k) := by
 have h1 := q9I l hl hs k
 have h2 := q64 l hl hs
 have hg := q3L l hs
 have h3 := fun h => q7r l (s := s) k h hs hl
 unfold q5i
 generalize q2d l s = g at *
 rw [Bool.eq_iff_iff, Bool.or_eq_true, q1l]
 constructor
 ·rintro ⟨x, hx, hk⟩
  rcases List.mem_append.1 hx with hx | hx
  ·exact .inl (q1l.2 ⟨x, (List.mem_filter.1 hx).1, hk⟩)
  ·rcases List.mem_cons.1 hx with rfl | hx
   ·rw [hk, Bool.true_or] at h1
    have h1 := h1.symm
    rw [Bool.or_eq_true] at h1
    exact h1.symm
   ·exact .inl (q1l.2 ⟨x, (List.mem_filter.1 hx).1, hk⟩)
 ·rintro (h | h)
  ·obtain ⟨x, hx, hk⟩ := q1l.1 h
   cases ht : q0R x g
   ·have hne : ¬ x.lo = g.lo := fun e => by
     have h4 := q6S (q2x hl x hx)
     have h5 := q6S hg
     rw [e] at h4
     rw [qcN h4 h5] at ht
     cases ht
    rcases q21 x.lo g.lo with q | q | q
    ·exact ⟨x, List.mem_append_left _ (List.mem_filter.2 ⟨hx, by rw [ht, q]; rfl⟩), hk⟩
    ·exact absurd q hne
    ·exact ⟨x, List.mem_append_right _ (List.mem_cons_of_mem _ (List.mem_filter.2 ⟨hx, by rw [ht, q]; rfl⟩)), hk⟩
   ·exact ⟨g, List.mem_append_right _ (List.mem_cons_self ..), h2 x hx ht k hk⟩
  ·exact ⟨g, List.mem_append_right _ (List.mem_cons_self ..), h3 h⟩
def q0b (l : List Sp) : List Sp := l.foldl (fun out s => if q0f s = true then q5i out s else out) []
theorem qfb {s : Sp} (h : q0f s = false) (k : List UInt8) : hasS s k = false := by
 cases hk : hasS s k
 ·rfl
 ·obtain ⟨h1, h2⟩ := q0w.1 hk
  have := q1s h2 h1
  rw [q0f, this] at h
  cases h
theorem q4p : ∀ (l out : List Sp), q0D out → q0D (l.foldl (fun out s => if q0f s = true then q5i out s else out) out) ∧ ∀ k, inP (l.foldl (fun out s => if q0f s = true then q5i out s else out) out) k = (inP out k || inP l k)
 | [], out, h => ⟨h, fun k => by simp [inP]⟩
 | s :: l, out, h => by
  rw [List.foldl_cons]
  have c : ∀ k, inP (s :: l) k = (hasS s k || inP l k) := fun k => by simp [inP]
  by_cases hs : q0f s = true
  ·rw [if_pos hs]
   obtain ⟨h1, h2⟩ := q4p l (q5i out s) (qaD h hs)
   refine ⟨h1, fun k => ?_⟩
   rw [h2, qgk h hs, c, Bool.or_assoc]
  ·rw [if_neg hs]
   obtain ⟨h1, h2⟩ := q4p l out h
   refine ⟨h1, fun k => ?_⟩
   rw [h2, c, qfb (by simpa using hs), Bool.false_or]
theorem q1E (l : List Sp) : q0D (q0b l) := (q4p l [] trivial).1
theorem q3x (l : List Sp) (k : List UInt8) : inP (q0b l) k = inP l k := by
 rw [q0b, (q4p l [] trivial).2]
 simp [inP]
theorem q45 {l m : List Sp} (hm : q0D m) (h : ∀ k, inP m k = inP l k) : m = q0b l := qdl hm (q1E l) fun k => by rw [h, q3x]
def fitS : Nat → List Sp → List Sp
 | n, a :: b :: l => if max n 1 < (a :: b :: l).length then fitS n (⟨a.lo, b.hi⟩ :: l) else a :: b :: l
 | _, l => l
 termination_by _ l => l.length
theorem qcE (n : Nat) : ∀ (m : Nat) (l : List Sp), l.length ≤ m → (fitS n l).length ≤ max n 1
 | _, [], _ => by unfold fitS; simp
 | _, [a], _ => by unfold fitS; simp; omega
 | 0, a :: b :: l, h => by simp at h
 | m + 1, a :: b :: l, h => by
  unfold fitS
  split
  ·exact qcE n m _ (by simp at h ⊢; omega)
  ·omega
theorem qcD {n : Nat} {l : List Sp} (h : l.length ≤ max n 1) : fitS n l = l := by
 match l, h with
 | [], _ => unfold fitS; rfl
 | [a], _ => unfold fitS; rfl
 | a :: b :: l, h =>
  unfold fitS
  rw [if_neg (by omega)]
theorem qdu {a b : Sp} {l : List Sp} (h : q0D (a :: b :: l)) : q0D (⟨a.lo, b.hi⟩ :: l) := by
 have hab := h.2.1 b (List.mem_cons_self ..)
 refine ⟨?_, fun t ht => h.2.2.2.1 t ht, h.2.2.2.2⟩
 show endS b.hi a.lo = true
 exact q1s h.2.2.1 (q20 (q4o h.1 hab))
theorem qfQ {a b : Sp} {l : List Sp} (h : q0D (a :: b :: l)) {k : List UInt8} (hk : inP (a :: b :: l) k = true) : inP (⟨a.lo, b.hi⟩ :: l) k = true := by
 have hab := h.2.1 b (List.mem_cons_self ..)
 obtain ⟨x, hx, hh⟩ := q1l.1 hk
 obtain ⟨h1, h2⟩ := q0w.1 hh
 rcases List.mem_cons.1 hx with rfl | hx
 ·refine q1l.2 ⟨_, List.mem_cons_self .., q0w.2 ⟨h1, ?_⟩⟩
  rcases q0B.1 h2 with g | g
  ·exact absurd g hab.1
  ·exact q1s h.2.2.1 (q20 (q0o g hab.2))
 ·rcases List.mem_cons.1 hx with rfl | hx
  ·exact q1l.2 ⟨_, List.mem_cons_self .., q0w.2 ⟨q1h (q20 (q4o (s := a) h.1 hab)) h1, h2⟩⟩
  ·exact q1l.2 ⟨x, List.mem_cons_of_mem _ hx, hh⟩
theorem q7o (n : Nat) : ∀ (m : Nat) (l : List Sp), l.length ≤ m → q0D l → q0D (fitS n l) ∧ ∀ k, inP l k = true → inP (fitS n l) k = true
 | _, [], _, h => by unfold fitS; exact ⟨h, fun _ h => h⟩
 | _, [a], _, h => by unfold fitS; exact ⟨h, fun _ h => h⟩
 | 0, a :: b :: l, h, _ => by simp at h
 | m + 1, a :: b :: l, h, hn => by
  unfold fitS
  split
  ·obtain ⟨h1, h2⟩ := q7o n m (⟨a.lo, b.hi⟩ :: l) (by simp at h ⊢; omega) (qdu hn)
   exact ⟨h1, fun k hk => h2 k (qfQ hn hk)⟩
  ·exact ⟨hn, fun _ h => h⟩
end Go.Proofs.YtdpbllacfljmoaaGreat
