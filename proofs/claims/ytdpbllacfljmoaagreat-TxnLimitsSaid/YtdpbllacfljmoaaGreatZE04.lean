import Derived.Test.YtdpbllacfljmoaaGreatZE00
import Derived.BigQuiet
import Derived.Test.YtdpbllacfljmoaaGreatZE03
import Derived.Deep.DeepCutAuto
import Derived.Test.YtdpbllacfljmoaaGreatZE01
import Derived.Deep.LoopGhost
import Derived.RegionTactic
import Derived.Deep.RegionHeld3
set_option maxRecDepth 100000
set_option maxHeartbeats 16000000
set_option linter.unusedVariables false
namespace Go.Proofs.YtdpbllacfljmoaaGreat
open Go.RowKit
theorem q04 {P : Program} {C : World → Prop} {id : Nat} {Q : Exit → Act → World → Prop} {a : Act} {w : World} {l : List Oper} (hm : P.follows .mixedOrders = true) (hB : Region.lexB .any l.toArray = true) (hC : C w.drew)
  (h : wpQuiet P l.toArray C (fun a' => ∀ w', C w' → Q .normal a' w') l a) : (Code.region id l.toArray true).wp P Q a w :=
 wp_region_quiet (C := C) hm hB hC (by simpa using h)
open Go.RowKit
open Go.RowKit
def q2q (t : q4k) (A : Option Addr) (c : Nat) (B : Option Addr) (d : Nat) : Value := .agg #[.int .u64 t.n, .int .i64 t.e, .slice A t.b.length c, .bool t.is, .slice B t.scan.length d]
open Go.RowKit
theorem qeb {w : World} {b : Nat} {e : TypeId} {a0 a1 a2 a3 a4 a5 a6 : Value} (h : w.heap[b]? = some (.cells #[a0, a1, a2, a3, a4, a5, a6] e (0, 0))) (v0 v1 v2 v3 v4 v5 v6 : Value) :
  (((((((w.setCell ⟨b, 0, none⟩ v0).setCell ⟨b, 1, none⟩ v1).setCell ⟨b, 2, none⟩ v2).setCell ⟨b, 3, none⟩ v3).setCell ⟨b, 4, none⟩ v4).setCell ⟨b, 5, none⟩ v5).setCell ⟨b, 6, none⟩ v6).heap[b]? = some (.cells #[v0, v1, v2, v3, v4, v5, v6] e (0, 0)) := by
 simp [World.setCell, Array.getElem?_modify, h]
theorem Below.box7 {w w' : World} {B b : Nat} (h : Below B w w') (hb : B ≤ b) (v0 v1 v2 v3 v4 v5 v6 : Value) : Below B w (((((((w'.setCell ⟨b, 0, none⟩ v0).setCell ⟨b, 1, none⟩ v1).setCell ⟨b, 2, none⟩ v2).setCell ⟨b, 3, none⟩ v3).setCell ⟨b, 4, none⟩ v4).setCell ⟨b, 5, none⟩ v5).setCell ⟨b, 6, none⟩ v6) :=
 ((((((h.setCell hb _).setCell hb _).setCell hb _).setCell hb _).setCell hb _).setCell hb _).setCell hb _
open Go.RowKit
theorem q2O {w : World} {b : Nat} {e : TypeId} {a0 a1 a2 a3 a4 : Value} (h : w.heap[b]? = some (.cells #[a0, a1, a2, a3, a4] e (0, 0))) (v0 v1 v2 v3 v4 : Value) :
  (((((w.setCell ⟨b, 0, none⟩ v0).setCell ⟨b, 1, none⟩ v1).setCell ⟨b, 2, none⟩ v2).setCell ⟨b, 3, none⟩ v3).setCell ⟨b, 4, none⟩ v4).heap[b]? = some (.cells #[v0, v1, v2, v3, v4] e (0, 0)) := by
 simp [World.setCell, Array.getElem?_modify, h]
theorem q4v (w : World) (p : Addr) (v : Value) : Mut (fun k => k = p.block) w (w.setCell p v) := by
 have h := (Below.refl 0 w).setCell (Nat.zero_le p.block) v
 refine ⟨h.os, h.tape, h.output, h.size, fun k _ hk => ?_⟩
 have hk' : p.block ≠ k := fun e => hk e.symm
 simp [World.setCell, Array.getElem?_modify, hk']
theorem q2b (w : World) (b : Nat) (v0 v1 v2 v3 v4 : Value) : Mut (fun k => k = b) w (((((w.setCell ⟨b, 0, none⟩ v0).setCell ⟨b, 1, none⟩ v1).setCell ⟨b, 2, none⟩ v2).setCell ⟨b, 3, none⟩ v3).setCell ⟨b, 4, none⟩ v4) :=
 (((((q4v w ⟨b, 0, none⟩ v0).trans (q4v _ ⟨b, 1, none⟩ v1) (fun _ h => .inl h)).trans (q4v _ ⟨b, 2, none⟩ v2) (fun _ h => .inl h)).trans (q4v _ ⟨b, 3, none⟩ v3) (fun _ h => .inl h)).trans (q4v _ ⟨b, 4, none⟩ v4) (fun _ h => .inl h))
open Go.RowKit
def st2 : PS := ⟨2, [([97], [⟨1, false, [120]⟩, ⟨2, true, []⟩])]⟩
open Go.RowKit
theorem qa6 (t : TypeId) (a b : ByteArray) : binOp .leq t (.string a) (.string b) = pure (.bool (Op.bytesLess a.toList b.toList || a.toList == b.toList)) := by simp [binOp, Op.stringOp]
theorem q0b {w : World} {b g : Nat} (hg : g ≠ b) (o : Nat) (v : Value) : (w.setCell ⟨b, o, none⟩ v).heap[g]? = w.heap[g]? := by
 have hg' : b ≠ g := fun e => hg e.symm
 simp [World.setCell, Array.getElem?_modify, hg']
section
variable {St : q7d} {w : World}
end
open Go.RowKit
theorem q8W (a b : List Ver) : q0x (a ++ b) = q0x a + q0x b := by
 induction a with
 | nil => simp [q0x]
 | cons x a ih =>
  have e : ∀ l : List Ver, q0x (x :: l) = x.dat.length + q0x l := fun l => by simp [q0x]
  rw [List.cons_append, e, e, ih]
  omega
theorem qbQ {l : List Ver} {j : Nat} (hj : j < l.length) : q0x (l.take (j + 1)) = q0x (l.take j) + (l[j]'hj).dat.length := by
 rw [List.take_succ_eq_append_getElem hj, q8W]
 rfl
theorem q7J (l : List Ver) (j : Nat) : q0x (l.take j) ≤ q0x l := by
 have h : q0x l = q0x (l.take j) + q0x (l.drop j) := by
  rw [← q8W, List.take_append_drop]
 omega
open Go.RowKit
def optH (o : Option Ver) : Ver := o.getD Ver0
open Go.RowKit
open Go.RowKit
def ChH (w : World) (hi : Nat) (A : Option Addr) (c : Nat) (l : List Ver) : Prop := l.length ≤ c ∧ c ≤ maxLen ∧ (A = none → c = 0) ∧ RowH w hi A l
theorem ChH.none_ (w : World) (hi : Nat) : ChH w hi none 0 [] := ⟨Nat.le_refl _, Nat.zero_le _, fun _ => rfl, RowH.nil_ _ _ _⟩
open Go.RowKit
section
variable {w w' : World} {hi hi' B : Nat} {A : Option Addr} {ms : List MV}
end
open Go.RowKit
structure MOne where
 key : KeyS
 A : Option Addr
 c : Nat
 ms : List MV
def RowS {α : Type} (cs : α → List Value) (w : World) (S : Nat → Prop) (A : Option Addr) (l : List α) : Prop :=
 0 < l.length → ∃ b o, A = some ⟨b, o, none⟩ ∧ S b ∧ ∀ j u, (q0g cs l)[j]? = some u → w.cell? ⟨b, o + j, none⟩ = some u
def RdS (w : World) (S : Nat → Prop) (A : Option Addr) (l : List UInt8) : Prop :=
 0 < l.length → ∃ b o, A = some ⟨b, o, none⟩ ∧ S b ∧ ∀ j (h : j < l.length), w.cell? ⟨b, o + j, none⟩ = some (.int .u8 ((l[j]'h).toNat : Int))
section
variable {α : Type} {k : Nat} {cs : α → List Value} {w w' : World} {S T : Nat → Prop} {A : Option Addr} {l : List α}
theorem RowS.block (hF : q0X k cs) (h : RowS cs w S A l) (hn : 0 < l.length) : ∃ b o, A = some ⟨b, o, none⟩ ∧ S b ∧ b < w.heap.size ∧ ∀ j u, (q0g cs l)[j]? = some u → w.cell? ⟨b, o + j, none⟩ = some u := by
 obtain ⟨b, o, e, hs, hc⟩ := h hn
 have h0 : 0 < (q0g cs l).length := by rw [hF.flat_len]; exact Nat.mul_pos hn hF.pos
 have := World.block_lt_of_cell? w _ (hc 0 _ (List.getElem?_eq_getElem h0))
 exact ⟨b, o, e, hs, by simpa using this, hc⟩
theorem RowS.rowG (hF : q0X k cs) (h : RowS cs w S A l) : RowG cs w 0 w.heap.size A l := fun hn => by
 obtain ⟨b, o, e, _, hb, hc⟩ := h.block hF hn
 exact ⟨b, o, e, Nat.zero_le _, hb, hc⟩
theorem RowS.keep (hF : q0X k cs) (h : RowS cs w S A l) (hk : ∀ g, S g → g < w.heap.size → w'.heap[g]? = w.heap[g]? ∧ T g) : RowS cs w' T A l := fun hn => by
 obtain ⟨b, o, e, hs, hb, hc⟩ := h.block hF hn
 obtain ⟨h1, h2⟩ := hk b hs hb
 exact ⟨b, o, e, h2, fun j u hj => (World.cell?_of_block (a := ⟨b, o + j, none⟩) h1).trans (hc j u hj)⟩
theorem RowS.of_new {lo hi : Nat} (h : RowG cs w lo hi A l) (hS : ∀ g, lo ≤ g → S g) : RowS cs w S A l := fun hn => by
 obtain ⟨b, o, e, h1, _, hc⟩ := h hn
 exact ⟨b, o, e, hS b h1, hc⟩
theorem RdS.block {d : List UInt8} (h : RdS w S A d) (hn : 0 < d.length) : ∃ b o, A = some ⟨b, o, none⟩ ∧ S b ∧ b < w.heap.size ∧ ∀ j (h : j < d.length), w.cell? ⟨b, o + j, none⟩ = some (.int .u8 ((d[j]'h).toNat : Int)) := by
 obtain ⟨b, o, e, hs, hc⟩ := h hn
 have := World.block_lt_of_cell? w _ (hc 0 hn)
 exact ⟨b, o, e, hs, by simpa using this, hc⟩
theorem RdS.rd {d : List UInt8} (h : RdS w S A d) : Rd w 0 w.heap.size A d := fun hn => by
 obtain ⟨b, o, e, _, hb, hc⟩ := h.block hn
 exact ⟨b, o, e, Nat.zero_le _, hb, hc⟩
theorem RdS.keep {d : List UInt8} (h : RdS w S A d) (hk : ∀ g, S g → g < w.heap.size → w'.heap[g]? = w.heap[g]? ∧ T g) : RdS w' T A d := fun hn => by
 obtain ⟨b, o, e, hs, hb, hc⟩ := h.block hn
 obtain ⟨h1, h2⟩ := hk b hs hb
 exact ⟨b, o, e, h2, fun j hj => (World.cell?_of_block (a := ⟨b, o + j, none⟩) h1).trans (hc j hj)⟩
theorem RdS.of_rd {d : List UInt8} {lo hi : Nat} (h : Rd w lo hi A d) (hS : ∀ g, lo ≤ g → g < hi → S g) : RdS w S A d := fun hn => by
 obtain ⟨b, o, e, h1, h2, hc⟩ := h hn
 exact ⟨b, o, e, hS b h1 h2, hc⟩
end
section
variable {w w' : World} {p : Nat} {S T : Nat → Prop} {L : LimS} {m r v : Int} {time : Nat} {A : Option Addr} {c : Nat} {os : List MOne}
end
structure Sp where
 lo : List UInt8
 hi : List UInt8
abbrev blo (a b : List UInt8) : Bool := !blt b a
def endS (hi k : List UInt8) : Bool := hi.isEmpty || blt k hi
def hasS (s : Sp) (k : List UInt8) : Bool := blo s.lo k && endS s.hi k
def q0e (s : Sp) : Bool := endS s.hi s.lo
def inP (l : List Sp) (k : List UInt8) : Bool := l.any fun s => hasS s k
def gapS (s t : Sp) : Prop := s.hi ≠ [] ∧ blt s.hi t.lo = true
def q0B : List Sp → Prop
 | [] => True
 | s :: l => q0e s = true ∧ (∀ t ∈ l, gapS s t) ∧ q0B l
theorem q1n (a : List UInt8) : blo a a = true := by simp [blo, q0I]
theorem q1Z {a b : List UInt8} (h : blt a b = true) : blo a b = true := by simp [blo, q1e h]
theorem q7g {a b : List UInt8} : blo a b = true ↔ blt a b = true ∨ a = b := by
 constructor
 ·intro h
  rcases q1Q a b with g | g | g
  ·exact .inl g
  ·exact .inr g
  ·simp [blo, g] at h
 ·rintro (h | rfl)
  ·exact q1Z h
  ·exact q1n _
theorem qao {a b c : List UInt8} (h : blo a b = true) (h2 : blt b c = true) : blt a c = true := by
 rcases q7g.1 h with g | rfl
 ·exact q0n g h2
 ·exact h2
theorem q5d {a b c : List UInt8} (h : blt a b = true) (h2 : blo b c = true) : blt a c = true := by
 rcases q7g.1 h2 with g | rfl
 ·exact q0n h g
 ·exact h
theorem q1d {a b c : List UInt8} (h : blo a b = true) (h2 : blo b c = true) : blo a c = true := by
 rcases q7g.1 h with g | rfl
 ·exact q1Z (q5d g h2)
 ·exact h2
theorem qan {a b : List UInt8} (h : blo a b = true) (h2 : blo b a = true) : a = b := by
 rcases q7g.1 h with g | g
 ·rw [blo, g] at h2; cases h2
 ·exact g
theorem q4d {a b : List UInt8} (h : ¬ blo a b = true) : blt b a = true := by
 rcases q1Q a b with g | g | g
 ·exact absurd (q1Z g) h
 ·exact absurd (g ▸ q1n a) h
 ·exact g
theorem q6V {s : Sp} (h : q0e s = true) : hasS s s.lo = true := by
 unfold hasS
 rw [q1n]
 exact h
theorem q0w {s : Sp} {k : List UInt8} : hasS s k = true ↔ blo s.lo k = true ∧ endS s.hi k = true := by
 unfold hasS
 rw [Bool.and_eq_true]
theorem q0A {hi k : List UInt8} : endS hi k = true ↔ hi = [] ∨ blt k hi = true := by
 unfold endS
 rw [Bool.or_eq_true, List.isEmpty_iff]
theorem q1i {l : List Sp} {k : List UInt8} : inP l k = true ↔ ∃ s ∈ l, hasS s k = true := by
 unfold inP
 rw [List.any_eq_true]
theorem q4r {s t : Sp} (h : q0e s = true) (hg : gapS s t) : blt s.lo t.lo = true := by
 rcases q0A.1 h with g | g
 ·exact absurd g hg.1
 ·exact q0n g hg.2
theorem q9L {s : Sp} {l : List Sp} (hg : ∀ t ∈ l, gapS s t) {k : List UInt8} (hk : blo k s.hi = true) : inP l k = false := by
 cases h : inP l k
 ·rfl
 ·obtain ⟨t, ht, hh⟩ := q1i.1 h
  have h1 := (q0w.1 hh).1
  have h2 := q5d (hg t ht).2 h1
  have h3 := qao hk h2
  rw [q0I] at h3
  cases h3
theorem qdh {s : Sp} {l : List Sp} (h : q0B (s :: l)) {k : List UInt8} (hk : inP (s :: l) k = true) : blo s.lo k = true := by
 obtain ⟨t, ht, hh⟩ := q1i.1 hk
 rcases List.mem_cons.1 ht with rfl | ht
 ·exact (q0w.1 hh).1
 ·exact q1d (q1Z (q4r h.1 (h.2.1 t ht))) (q0w.1 hh).1
theorem qdg : ∀ {a b : List Sp}, q0B a → q0B b → (∀ k, inP a k = inP b k) → a = b
 | [], [], _, _, _ => rfl
 | [], t :: b, _, hb, h => by
  have := h t.lo
  rw [q1i.2 ⟨t, List.mem_cons_self .., q6V hb.1⟩] at this
  cases this
 | s :: a, [], ha, _, h => by
  have := h s.lo
  rw [q1i.2 ⟨s, List.mem_cons_self .., q6V ha.1⟩] at this
  cases this
 | s :: a, t :: b, ha, hb, h => by
  have hs : inP (s :: a) s.lo = true := q1i.2 ⟨s, List.mem_cons_self .., q6V ha.1⟩
  have ht : inP (t :: b) t.lo = true := q1i.2 ⟨t, List.mem_cons_self .., q6V hb.1⟩
  have e1 : s.lo = t.lo := qan (qdh ha (by rw [h]; exact ht)) (qdh hb (by rw [← h]; exact hs))
  have key : ∀ {x y : Sp} {p q : List Sp}, q0B (x :: p) → q0B (y :: q) → x.lo = y.lo → (∀ k, inP (x :: p) k = inP (y :: q) k) → x.hi ≠ [] → endS y.hi x.hi = true → False := by
   intro x y p q hx hy e hh hne hend
   have hxl : blt x.lo x.hi = true := by
    rcases q0A.1 hx.1 with g | g
    ·exact absurd g hne
    ·exact g
   have h1 : inP (y :: q) x.hi = true := q1i.2 ⟨y, List.mem_cons_self .., q0w.2 ⟨by rw [← e]; exact q1Z hxl, hend⟩⟩
   rw [← hh] at h1
   obtain ⟨z, hz, hzz⟩ := q1i.1 h1
   rcases List.mem_cons.1 hz with rfl | hz
   ·rcases q0A.1 (q0w.1 hzz).2 with g | g
    ·exact hne g
    ·rw [q0I] at g; cases g
   ·have := q9L hx.2.1 (q1n x.hi)
    rw [q1i.2 ⟨z, hz, hzz⟩] at this
    cases this
  have e2 : s.hi = t.hi := by
   by_cases hs0 : s.hi = []
   ·by_cases ht0 : t.hi = []
    ·rw [hs0, ht0]
    ·exact (key hb ha e1.symm (fun k => (h k).symm) ht0 (q0A.2 (.inl hs0))).elim
   ·by_cases ht0 : t.hi = []
    ·exact (key ha hb e1 h hs0 (q0A.2 (.inl ht0))).elim
    ·rcases q1Q s.hi t.hi with g | g | g
     ·exact (key ha hb e1 h hs0 (q0A.2 (.inr g))).elim
     ·exact g
     ·exact (key hb ha e1.symm (fun k => (h k).symm) ht0 (q0A.2 (.inr g))).elim
  have e : s = t := by cases s; cases t; simp only at e1 e2; subst e1 e2; rfl
  subst e
  have ht : ∀ k, inP a k = inP b k := fun k => by
   have hk := h k
   have c : ∀ l : List Sp, inP (s :: l) k = (hasS s k || inP l k) := fun l => by simp [inP]
   rw [c, c] at hk
   cases hq : hasS s k
   ·rw [hq, Bool.false_or, Bool.false_or] at hk
    exact hk
   ·rcases q0A.1 (q0w.1 hq).2 with g | g
    ·have na : a = [] := by
      cases a with
      | nil => rfl
      | cons x a => exact absurd g (ha.2.1 x (List.mem_cons_self ..)).1
     have nb : b = [] := by
      cases b with
      | nil => rfl
      | cons x b => exact absurd g (hb.2.1 x (List.mem_cons_self ..)).1
     rw [na, nb]
    ·rw [q9L ha.2.1 (q1Z g), q9L hb.2.1 (q1Z g)]
  rw [qdg ha.2.2 hb.2.2 ht]
def maxS (a b : List UInt8) : List UInt8 := if blt a b = true then b else a
def minS (a b : List UInt8) : List UInt8 := if blt a b = true then a else b
def q2t (a b : Sp) : Bool := hasS a (maxS a.lo b.lo) && hasS b (maxS a.lo b.lo)
theorem qf0 {a b k : List UInt8} : blo (maxS a b) k = true ↔ blo a k = true ∧ blo b k = true := by
 unfold maxS
 split
 ·next h => exact ⟨fun g => ⟨q1d (q1Z h) g, g⟩, fun g => g.2⟩
 ·next h =>
  have hba : blo b a = true := by simp [blo, h]
  exact ⟨fun g => ⟨g, q1d hba g⟩, fun g => g.1⟩
theorem q1o {hi k j : List UInt8} (h : endS hi k = true) (hj : blo j k = true) : endS hi j = true := by
 rcases q0A.1 h with g | g
 ·exact q0A.2 (.inl g)
 ·exact q0A.2 (.inr (qao hj g))
theorem q6c (a b : Sp) : q2t a b = true ↔ ∃ k, hasS a k = true ∧ hasS b k = true := by
 unfold q2t
 rw [Bool.and_eq_true]
 constructor
 ·exact fun h => ⟨_, h⟩
 ·rintro ⟨k, ha, hb⟩
  obtain ⟨a1, a2⟩ := q0w.1 ha
  obtain ⟨b1, b2⟩ := q0w.1 hb
  have hm := qf0.2 ⟨a1, b1⟩
  have hr := qf0.1 (q1n (maxS a.lo b.lo))
  exact ⟨q0w.2 ⟨hr.1, q1o a2 hm⟩, q0w.2 ⟨hr.2, q1o b2 hm⟩⟩
def q0P (a b : Sp) : Bool := (a.hi.isEmpty || blo b.lo a.hi) && (b.hi.isEmpty || blo a.lo b.hi)
def q3p (a b : Sp) : Sp := ⟨minS a.lo b.lo, if a.hi = [] ∨ b.hi = [] then [] else maxS a.hi b.hi⟩
theorem q4G {a b : Sp} : q0P a b = true ↔ (a.hi = [] ∨ blo b.lo a.hi = true) ∧ (b.hi = [] ∨ blo a.lo b.hi = true) := by
 unfold q0P
 rw [Bool.and_eq_true, Bool.or_eq_true, Bool.or_eq_true, List.isEmpty_iff, List.isEmpty_iff]
theorem q6h {a b : Sp} (h : q0P a b = false) : gapS a b ∨ gapS b a := by
 by_cases h1 : a.hi = [] ∨ blo b.lo a.hi = true
 ·by_cases h2 : b.hi = [] ∨ blo a.lo b.hi = true
  ·rw [q4G.2 ⟨h1, h2⟩] at h
   cases h
  ·right
   exact ⟨fun e => h2 (.inl e), q4d fun e => h2 (.inr e)⟩
 ·left
  exact ⟨fun e => h1 (.inl e), q4d fun e => h1 (.inr e)⟩
theorem q8v {a b : Sp} (h : gapS a b) : q0P a b = false := by
 cases ht : q0P a b
 ·rfl
 ·rcases (q4G.1 ht).1 with g | g
  ·exact absurd g h.1
  ·have := q5d h.2 g
   rw [q0I] at this
   cases this
theorem qbV (a b : Sp) : q0P a b = q0P b a := by
 unfold q0P
 exact Bool.and_comm _ _
theorem qdb {a b k : List UInt8} : blo (minS a b) k = true ↔ blo a k = true ∨ blo b k = true := by
 unfold minS
 split
 ·next h => exact ⟨fun g => .inl g, fun g => g.elim id fun g => q1d (q1Z h) g⟩
 ·next h =>
  have hba : blo b a = true := by simp [blo, h]
  exact ⟨fun g => .inr g, fun g => g.elim (fun g => q1d hba g) id⟩
theorem qg5 {a b k : List UInt8} : blt k (maxS a b) = true ↔ blt k a = true ∨ blt k b = true := by
 unfold maxS
 split
 ·next h => exact ⟨fun g => .inr g, fun g => g.elim (fun g => q0n g h) id⟩
 ·next h =>
  have hba : blo b a = true := by simp [blo, h]
  exact ⟨fun g => .inl g, fun g => g.elim id fun g => q5d g hba⟩
theorem qg8 {a b : List UInt8} (ha : a ≠ []) (hb : b ≠ []) : maxS a b ≠ [] := by
 unfold maxS
 split
 ·exact hb
 ·exact ha
theorem q5I (a b : Sp) (k : List UInt8) : endS (q3p a b).hi k = (endS a.hi k || endS b.hi k) := by
 rw [Bool.eq_iff_iff, Bool.or_eq_true, q0A, q0A, q0A]
 show (if a.hi = [] ∨ b.hi = [] then [] else maxS a.hi b.hi) = [] ∨ blt k (if a.hi = [] ∨ b.hi = [] then [] else maxS a.hi b.hi) = true ↔ _
 by_cases h : a.hi = [] ∨ b.hi = []
 ·rw [if_pos h]
  simp only [true_or, true_iff]
  rcases h with h | h
  ·exact .inl (.inl h)
  ·exact .inr (.inl h)
 ·rw [if_neg h, qg5]
  have ha : a.hi ≠ [] := fun e => h (.inl e)
  have hb : b.hi ≠ [] := fun e => h (.inr e)
  have hm := qg8 ha hb
  simp only [hm, ha, hb, false_or]
theorem q3d {a b : Sp} (ha : q0e a = true) : q0e (q3p a b) = true := by
 unfold q0e
 rw [q5I, Bool.or_eq_true]
 exact .inl (q1o ha (qdb.2 (.inl (q1n _))))
theorem q5J {a b : Sp} (h : q0P a b = true) (k : List UInt8) : hasS (q3p a b) k = (hasS a k || hasS b k) := by
 obtain ⟨t1, t2⟩ := q4G.1 h
 rw [Bool.eq_iff_iff, Bool.or_eq_true, q0w, q0w, q0w, q5I, Bool.or_eq_true]
 show blo (minS a.lo b.lo) k = true ∧ _ ↔ _
 rw [qdb]
 constructor
 ·rintro ⟨h1, h2⟩
  by_cases ea : endS a.hi k = true
  ·by_cases la : blo a.lo k = true
   ·exact .inl ⟨la, ea⟩
   ·have lb : blo b.lo k = true := h1.resolve_left la
    have : endS b.hi k = true := by
     rcases t2 with g | g
     ·exact q0A.2 (.inl g)
     ·exact q0A.2 (.inr (q5d (q4d la) g))
    exact .inr ⟨lb, this⟩
  ·have eb := h2.resolve_left ea
   by_cases lb : blo b.lo k = true
   ·exact .inr ⟨lb, eb⟩
   ·have : endS a.hi k = true := by
     rcases t1 with g | g
     ·exact q0A.2 (.inl g)
     ·exact q0A.2 (.inr (q5d (q4d lb) g))
    exact absurd this ea
 ·rintro (⟨h1, h2⟩ | ⟨h1, h2⟩)
  ·exact ⟨.inl h1, .inl h2⟩
  ·exact ⟨.inr h1, .inr h2⟩
def q2g (l : List Sp) (s : Sp) : Sp := l.foldl (fun s x => if q0P x s = true then q3p x s else s) s
def q5h (l : List Sp) (s : Sp) : List Sp :=
 (l.filter fun x => !q0P x (q2g l s) && blt x.lo (q2g l s).lo) ++ q2g l s :: l.filter fun x => !q0P x (q2g l s) && blt (q2g l s).lo x.lo
theorem q3M : ∀ (l : List Sp) {s : Sp}, q0e s = true → q0e (q2g l s) = true
 | [], _, h => h
 | x :: l, s, h => by
  show q0e (q2g l (if q0P x s = true then q3p x s else s)) = true
  split
  ·refine q3M l ?_
   unfold q0e
   rw [q5I, Bool.or_eq_true]
   exact .inr (q1o h (qdb.2 (.inr (q1n _))))
  ·exact q3M l h
theorem q9M : ∀ (l : List Sp) {s : Sp}, q0B l → q0e s = true → ∀ k, (hasS (q2g l s) k || inP l k) = (hasS s k || inP l k)
 | [], _, _, _, _ => rfl
 | x :: l, s, hn, hs, k => by
  have c : inP (x :: l) k = (hasS x k || inP l k) := by simp [inP]
  show (hasS (q2g l (if q0P x s = true then q3p x s else s)) k || _) = _
  rw [c]
  by_cases ht : q0P x s = true
  ·rw [if_pos ht]
   have hr : q0e (q3p x s) = true := q3d hn.1
   have ih := q9M l hn.2.2 hr k
   rw [q5J ht] at ih
   cases h1 : hasS (q2g l (q3p x s)) k <;> cases h2 : hasS x k <;> cases h3 : hasS s k <;> cases h4 : inP l k <;> simp_all
  ·rw [if_neg ht]
   have ih := q9M l hn.2.2 hs k
   cases h1 : hasS (q2g l s) k <;> cases h2 : hasS x k <;> cases h3 : hasS s k <;> cases h4 : inP l k <;> simp_all
theorem q7r : ∀ (l : List Sp) {s : Sp} (k : List UInt8), hasS s k = true → q0e s = true → q0B l → hasS (q2g l s) k = true
 | [], _, _, h, _, _ => h
 | x :: l, s, k, h, hs, hn => by
  show hasS (q2g l (if q0P x s = true then q3p x s else s)) k = true
  by_cases ht : q0P x s = true
  ·rw [if_pos ht]
   refine q7r l k ?_ (q3d hn.1) hn.2.2
   rw [q5J ht, h, Bool.or_true]
  ·rw [if_neg ht]
   exact q7r l k h hs hn.2.2
theorem qcL : ∀ (l : List Sp) {s : Sp} {k : List UInt8}, blt k s.lo = true → (∀ x ∈ l, blt k x.lo = true) → blt k (q2g l s).lo = true
 | [], _, _, h, _ => h
 | x :: l, s, k, h, hl => by
  show blt k (q2g l (if q0P x s = true then q3p x s else s)).lo = true
  refine qcL l ?_ fun y hy => hl y (List.mem_cons_of_mem _ hy)
  split
  ·show blt k (minS x.lo s.lo) = true
   unfold minS
   split
   ·exact hl x (List.mem_cons_self ..)
   ·exact h
  ·exact h
theorem q8y : ∀ (l : List Sp) {s : Sp}, (∀ x ∈ l, gapS s x) → q2g l s = s
 | [], _, _ => rfl
 | x :: l, s, h => by
  show q2g l (if q0P x s = true then q3p x s else s) = s
  rw [qbV, q8v (h x (List.mem_cons_self ..)), if_neg (by simp)]
  exact q8y l fun y hy => h y (List.mem_cons_of_mem _ hy)
theorem qcM {a b : Sp} {k : List UInt8} (ha : hasS a k = true) (hb : hasS b k = true) : q0P a b = true := by
 obtain ⟨a1, a2⟩ := q0w.1 ha
 obtain ⟨b1, b2⟩ := q0w.1 hb
 refine q4G.2 ⟨?_, ?_⟩
 ·rcases q0A.1 a2 with g | g
  ·exact .inl g
  ·exact .inr (q1Z (qao b1 g))
 ·rcases q0A.1 b2 with g | g
  ·exact .inl g
  ·exact .inr (q1Z (qao a1 g))
theorem q65 : ∀ (l : List Sp) {s : Sp}, q0B l → q0e s = true → ∀ x ∈ l, q0P x (q2g l s) = true → ∀ k, hasS x k = true → hasS (q2g l s) k = true
 | [], _, _, _, _, hx, _, _, _ => by cases hx
 | y :: l, s, hn, hs, x, hx, ht, k, hk => by
  rw [show q2g (y :: l) s = q2g l (if q0P y s = true then q3p y s else s) from rfl] at ht ⊢
  by_cases hy : q0P y s = true
  ·rw [if_pos hy] at ht ⊢
   rcases List.mem_cons.1 hx with rfl | hx
   ·refine q7r l k ?_ (q3d hn.1) hn.2.2
    rw [q5J hy, hk, Bool.true_or]
   ·exact q65 l hn.2.2 (q3d hn.1) x hx ht k hk
  ·rw [if_neg hy] at ht ⊢
   rcases List.mem_cons.1 hx with rfl | hx
   ·have hf : q0P x s = false := by simpa using hy
    rcases q6h hf with g | g
    ·have h1 : gapS x (q2g l s) := ⟨g.1, qcL l g.2 fun z hz => (hn.2.1 z hz).2⟩
     rw [q8v h1] at ht
     cases ht
    ·have h2 : q2g l s = s := q8y l fun z hz => ⟨g.1, q0n g.2 (q4r hn.1 (hn.2.1 z hz))⟩
     rw [h2, hf] at ht
     cases ht
   ·exact q65 l hn.2.2 hs x hx ht k hk
theorem q3i (p : Sp → Bool) : ∀ {l : List Sp}, q0B l → q0B (l.filter p)
 | [], _ => trivial
 | x :: l, h => by
  rw [List.filter_cons]
  split
  ·exact ⟨h.1, fun t ht => h.2.1 t (List.mem_filter.1 ht).1, q3i p h.2.2⟩
  ·exact q3i p h.2.2
theorem q3h : ∀ {a b : List Sp}, q0B a → q0B b → (∀ x ∈ a, ∀ y ∈ b, gapS x y) → q0B (a ++ b)
 | [], _, _, hb, _ => hb
 | x :: a, b, ha, hb, h => by
  refine ⟨ha.1, fun t ht => ?_, q3h ha.2.2 hb fun y hy => h y (List.mem_cons_of_mem _ hy)⟩
  rcases List.mem_append.1 ht with ht | ht
  ·exact ha.2.1 t ht
  ·exact h x (List.mem_cons_self ..) t ht
theorem q2y : ∀ {l : List Sp}, q0B l → ∀ x ∈ l, q0e x = true
 | x :: l, h, y, hy => by
  rcases List.mem_cons.1 hy with rfl | hy
  ·exact h.1
  ·exact q2y h.2.2 y hy
theorem q64 {a b c : Sp} (hb : q0e b = true) (h1 : gapS a b) (h2 : gapS b c) : gapS a c := ⟨h1.1, q0n h1.2 (q4r hb h2)⟩
theorem qaK {l : List Sp} {s : Sp} (hl : q0B l) (hs : q0e s = true) : q0B (q5h l s) := by
 have hg := q3M l hs
 unfold q5h
 generalize q2g l s = g at *
 have before : ∀ x ∈ l, q0P x g = false → blt x.lo g.lo = true → gapS x g := fun x hx ht hlt => by
  rcases q6h ht with h | h
  ·exact h
  ·have := q0n hlt (q4r hg h)
   rw [q0I] at this
   cases this
 have behind : ∀ x ∈ l, q0P x g = false → blt g.lo x.lo = true → gapS g x := fun x hx ht hlt => by
  rcases q6h ht with h | h
  ·have := q0n hlt (q4r (q2y hl x hx) h)
   rw [q0I] at this
   cases this
  ·exact h
 refine q3h (q3i _ hl) ⟨hg, fun t ht => ?_, q3i _ hl⟩ fun x hx y hy => ?_
 ·obtain ⟨h1, h2⟩ := List.mem_filter.1 ht
  rw [Bool.and_eq_true, Bool.not_eq_true'] at h2
  exact behind t h1 h2.1 h2.2
 ·obtain ⟨h1, h2⟩ := List.mem_filter.1 hx
  rw [Bool.and_eq_true, Bool.not_eq_true'] at h2
  have hxg := before x h1 h2.1 h2.2
  rcases List.mem_cons.1 hy with rfl | hy
  ·exact hxg
  ·obtain ⟨h3, h4⟩ := List.mem_filter.1 hy
   rw [Bool.and_eq_true, Bool.not_eq_true'] at h4
   exact q64 hg hxg (behind y h3 h4.1 h4.2)
theorem qgb {l : List Sp} {s : Sp} (hl : q0B l) (hs : q0e s = true) (k : List UInt8) : inP (q5h l s) k = (inP l k || hasS s k) := by
 have h1 := q9M l hl hs k
 have h2 := q65 l hl hs
 have hg := q3M l hs
 have h3 := fun h => q7r l (s := s) k h hs hl
 unfold q5h
 generalize q2g l s = g at *
 rw [Bool.eq_iff_iff, Bool.or_eq_true, q1i]
 constructor
 ·rintro ⟨x, hx, hk⟩
  rcases List.mem_append.1 hx with hx | hx
  ·exact .inl (q1i.2 ⟨x, (List.mem_filter.1 hx).1, hk⟩)
  ·rcases List.mem_cons.1 hx with rfl | hx
   ·rw [hk, Bool.true_or] at h1
    have h1 := h1.symm
    rw [Bool.or_eq_true] at h1
    exact h1.symm
   ·exact .inl (q1i.2 ⟨x, (List.mem_filter.1 hx).1, hk⟩)
 ·rintro (h | h)
  ·obtain ⟨x, hx, hk⟩ := q1i.1 h
   cases ht : q0P x g
   ·have hne : ¬ x.lo = g.lo := fun e => by
     have h4 := q6V (q2y hl x hx)
     have h5 := q6V hg
     rw [e] at h4
     rw [qcM h4 h5] at ht
     cases ht
    rcases q1Q x.lo g.lo with q | q | q
    ·exact ⟨x, List.mem_append_left _ (List.mem_filter.2 ⟨hx, by rw [ht, q]; rfl⟩), hk⟩
    ·exact absurd q hne
    ·exact ⟨x, List.mem_append_right _ (List.mem_cons_of_mem _ (List.mem_filter.2 ⟨hx, by rw [ht, q]; rfl⟩)), hk⟩
   ·exact ⟨g, List.mem_append_right _ (List.mem_cons_self ..), h2 x hx ht k hk⟩
  ·exact ⟨g, List.mem_append_right _ (List.mem_cons_self ..), h3 h⟩
def q09 (l : List Sp) : List Sp := l.foldl (fun out s => if q0e s = true then q5h out s else out) []
theorem qf1 {s : Sp} (h : q0e s = false) (k : List UInt8) : hasS s k = false := by
 cases hk : hasS s k
 ·rfl
 ·obtain ⟨h1, h2⟩ := q0w.1 hk
  have := q1o h2 h1
  rw [q0e, this] at h
  cases h
theorem q4s : ∀ (l out : List Sp), q0B out → q0B (l.foldl (fun out s => if q0e s = true then q5h out s else out) out) ∧ ∀ k, inP (l.foldl (fun out s => if q0e s = true then q5h out s else out) out) k = (inP out k || inP l k)
 | [], out, h => ⟨h, fun k => by simp [inP]⟩
 | s :: l, out, h => by
  rw [List.foldl_cons]
  have c : ∀ k, inP (s :: l) k = (hasS s k || inP l k) := fun k => by simp [inP]
  by_cases hs : q0e s = true
  ·rw [if_pos hs]
   obtain ⟨h1, h2⟩ := q4s l (q5h out s) (qaK h hs)
   refine ⟨h1, fun k => ?_⟩
   rw [h2, qgb h hs, c, Bool.or_assoc]
  ·rw [if_neg hs]
   obtain ⟨h1, h2⟩ := q4s l out h
   refine ⟨h1, fun k => ?_⟩
   rw [h2, c, qf1 (by simpa using hs), Bool.false_or]
theorem q1A (l : List Sp) : q0B (q09 l) := (q4s l [] trivial).1
theorem q3y (l : List Sp) (k : List UInt8) : inP (q09 l) k = inP l k := by
 rw [q09, (q4s l [] trivial).2]
 simp [inP]
theorem q48 {l m : List Sp} (hm : q0B m) (h : ∀ k, inP m k = inP l k) : m = q09 l := qdg hm (q1A l) fun k => by rw [h, q3y]
def fitS : Nat → List Sp → List Sp
 | n, a :: b :: l => if max n 1 < (a :: b :: l).length then fitS n (⟨a.lo, b.hi⟩ :: l) else a :: b :: l
 | _, l => l
 termination_by _ l => l.length
theorem qcG (n : Nat) : ∀ (m : Nat) (l : List Sp), l.length ≤ m → (fitS n l).length ≤ max n 1
 | _, [], _ => by unfold fitS; simp
 | _, [a], _ => by unfold fitS; simp; omega
 | 0, a :: b :: l, h => by simp at h
 | m + 1, a :: b :: l, h => by
  unfold fitS
  split
  ·exact qcG n m _ (by simp at h ⊢; omega)
  ·omega
theorem qcF {n : Nat} {l : List Sp} (h : l.length ≤ max n 1) : fitS n l = l := by
 match l, h with
 | [], _ => unfold fitS; rfl
 | [a], _ => unfold fitS; rfl
 | a :: b :: l, h =>
  unfold fitS
  rw [if_neg (by omega)]
theorem qdo {a b : Sp} {l : List Sp} (h : q0B (a :: b :: l)) : q0B (⟨a.lo, b.hi⟩ :: l) := by
 have hab := h.2.1 b (List.mem_cons_self ..)
 refine ⟨?_, fun t ht => h.2.2.2.1 t ht, h.2.2.2.2⟩
 show endS b.hi a.lo = true
 exact q1o h.2.2.1 (q1Z (q4r h.1 hab))
theorem qfI {a b : Sp} {l : List Sp} (h : q0B (a :: b :: l)) {k : List UInt8} (hk : inP (a :: b :: l) k = true) : inP (⟨a.lo, b.hi⟩ :: l) k = true := by
 have hab := h.2.1 b (List.mem_cons_self ..)
 obtain ⟨x, hx, hh⟩ := q1i.1 hk
 obtain ⟨h1, h2⟩ := q0w.1 hh
 rcases List.mem_cons.1 hx with rfl | hx
 ·refine q1i.2 ⟨_, List.mem_cons_self .., q0w.2 ⟨h1, ?_⟩⟩
  rcases q0A.1 h2 with g | g
  ·exact absurd g hab.1
  ·exact q1o h.2.2.1 (q1Z (q0n g hab.2))
 ·rcases List.mem_cons.1 hx with rfl | hx
  ·exact q1i.2 ⟨_, List.mem_cons_self .., q0w.2 ⟨q1d (q1Z (q4r (s := a) h.1 hab)) h1, h2⟩⟩
  ·exact q1i.2 ⟨x, List.mem_cons_of_mem _ hx, hh⟩
theorem q7o (n : Nat) : ∀ (m : Nat) (l : List Sp), l.length ≤ m → q0B l → q0B (fitS n l) ∧ ∀ k, inP l k = true → inP (fitS n l) k = true
 | _, [], _, h => by unfold fitS; exact ⟨h, fun _ h => h⟩
 | _, [a], _, h => by unfold fitS; exact ⟨h, fun _ h => h⟩
 | 0, a :: b :: l, h, _ => by simp at h
 | m + 1, a :: b :: l, h, hn => by
  unfold fitS
  split
  ·obtain ⟨h1, h2⟩ := q7o n m (⟨a.lo, b.hi⟩ :: l) (by simp at h ⊢; omega) (qdo hn)
   exact ⟨h1, fun k hk => h2 k (qfI hn hk)⟩
  ·exact ⟨hn, fun _ h => h⟩
end Go.Proofs.YtdpbllacfljmoaaGreat
