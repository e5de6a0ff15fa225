import Derived.Test.YtdpbllacfljmoaaGreatZD04
import Derived.Test.YtdpbllacfljmoaaGreatZD00
import Derived.Test.YtdpbllacfljmoaaGreatZD01
import Derived.Test.YtdpbllacfljmoaaGreatZD03
set_option maxRecDepth 100000
set_option maxHeartbeats 16000000
set_option linter.unusedVariables false
namespace Go.Proofs.YtdpbllacfljmoaaGreat
instance : DecidableEq Sp := fun a b => decidable_of_iff (a.lo = b.lo ∧ a.hi = b.hi) (by cases a; cases b; simp)
def sp0 : Sp := ⟨[], []⟩
def gapB (s t : Sp) : Bool := !s.hi.isEmpty && blt s.hi t.lo
theorem q7s {s t : Sp} : gapB s t = true ↔ gapS s t := by
 unfold gapB gapS
 rw [Bool.and_eq_true, Bool.not_eq_true', List.isEmpty_eq_false_iff]
def q3E : List Sp → Bool
 | [] => true
 | [s] => q0f s
 | s :: t :: l => q0f s && gapB s t && q3E (t :: l)
theorem q6j : ∀ {l : List Sp}, q3E l = true ↔ q0B l
 | [] => ⟨fun _ => trivial, fun _ => rfl⟩
 | [s] => by
  show q0f s = true ↔ _
  exact ⟨fun h => ⟨h, (fun _ ht => by cases ht), trivial⟩, fun h => h.1⟩
 | s :: t :: l => by
  show (q0f s && gapB s t && q3E (t :: l)) = true ↔ _
  rw [Bool.and_eq_true, Bool.and_eq_true, q7s, q6j]
  constructor
  ·rintro ⟨⟨h1, h2⟩, h3⟩
   refine ⟨h1, fun x hx => ?_, h3⟩
   rcases List.mem_cons.1 hx with rfl | hx
   ·exact h2
   ·exact q67 h3.1 h2 (h3.2.1 x hx)
  ·rintro ⟨h1, h2, h3⟩
   exact ⟨⟨h1, h2 t (List.mem_cons_self ..)⟩, h3⟩
theorem q7C : ∀ {l : List Sp}, q3E l = true → ∀ (j : Nat) (h : j < l.length), q0f (l[j]'h) = true ∧ ∀ (i : Nat) (hi : i + 1 = j), gapB (l[i]'(by omega)) (l[j]'h) = true
 | [s], h, 0, _ => ⟨h, fun i hi => by omega⟩
 | s :: t :: l, h, j, hj => by
  have h' : (q0f s && gapB s t && q3E (t :: l)) = true := h
  rw [Bool.and_eq_true, Bool.and_eq_true] at h'
  cases j with
  | zero => exact ⟨h'.1.1, fun i hi => by omega⟩
  | succ j =>
   obtain ⟨k1, k2⟩ := q7C h'.2 j (by simpa using hj)
   refine ⟨k1, fun i hi => ?_⟩
   cases i with
   | zero =>
    obtain rfl : j = 0 := by omega
    exact h'.1.2
   | succ i => exact k2 i (by omega)
theorem qaI : ∀ {l : List Sp}, (∀ (j : Nat) (h : j < l.length), q0f (l[j]'h) = true) → (∀ (j : Nat) (h : j + 1 < l.length), gapB (l[j]'(by omega)) (l[j + 1]'h) = true) → q3E l = true
 | [], _, _ => rfl
 | [s], h, _ => h 0 (by simp)
 | s :: t :: l, h, g => by
  show (q0f s && gapB s t && q3E (t :: l)) = true
  rw [Bool.and_eq_true, Bool.and_eq_true]
  exact ⟨⟨h 0 (by simp), g 0 (by simp)⟩, qaI (fun j hj => h (j + 1) (by simpa using hj)) (fun j hj => g (j + 1) (by simpa using hj))⟩
def q8y (l : List Sp) (j : Nat) : Prop := (∀ (i : Nat) (h : i < l.length), i < j → q0f (l[i]'h) = true) ∧ (∀ (i : Nat) (h : i + 1 < l.length), i + 1 < j → gapB (l[i]'(by omega)) (l[i + 1]'h) = true)
theorem qcP (l : List Sp) : q8y l 0 := ⟨fun i _ h => by omega, fun i _ h => by omega⟩
theorem qew {l : List Sp} (h : q8y l l.length) : q3E l = true := qaI (fun j hj => h.1 j hj hj) (fun j hj => h.2 j hj hj)
theorem qcO {l : List Sp} {j : Nat} (h : q8y l j) (hj : j < l.length) (h1 : q0f (l[j]'hj) = true) (h2 : ∀ i (hi : i + 1 = j), gapB (l[i]'(by omega)) (l[j]'hj) = true) : q8y l (j + 1) := by
 refine ⟨fun i hi hlt => ?_, fun i hi hlt => ?_⟩
 ·by_cases e : i = j
  ·subst e; exact h1
  ·exact h.1 i hi (by omega)
 ·by_cases e : i + 1 = j
  ·subst e; exact h2 i rfl
  ·exact h.2 i hi (by omega)
theorem qc1 {l : List Sp} {j : Nat} (hj : j < l.length) (h : q0f (l[j]'hj) = false) : q3E l = false := by
 cases hn : q3E l
 ·rfl
 ·rw [(q7C hn j hj).1] at h
  cases h
theorem qfk {l : List Sp} {i j : Nat} (hi : i + 1 = j) (hj : j < l.length) (h : gapB (l[i]'(by omega)) (l[j]'hj) = false) : q3E l = false := by
 cases hn : q3E l
 ·rfl
 ·rw [(q7C hn j hj).2 i hi] at h
  cases h
def q1Y (a b : List Sp) : Bool := a.any fun x => b.any fun y => q2r x y
theorem q8H (a b : List Sp) : q1Y a b = true ↔ ∃ k, inP a k = true ∧ inP b k = true := by
 unfold q1Y
 rw [List.any_eq_true]
 constructor
 ·rintro ⟨x, hx, h⟩
  obtain ⟨y, hy, h⟩ := List.any_eq_true.1 h
  obtain ⟨k, h1, h2⟩ := (q6f x y).1 h
  exact ⟨k, q1h.2 ⟨x, hx, h1⟩, q1h.2 ⟨y, hy, h2⟩⟩
 ·rintro ⟨k, h1, h2⟩
  obtain ⟨x, hx, h1⟩ := q1h.1 h1
  obtain ⟨y, hy, h2⟩ := q1h.1 h2
  exact ⟨x, hx, List.any_eq_true.2 ⟨y, hy, (q6f x y).2 ⟨k, h1, h2⟩⟩⟩
theorem qde {a b a' b' : List Sp} (ha : ∀ k, inP a k = inP a' k) (hb : ∀ k, inP b k = inP b' k) : q1Y a b = q1Y a' b' := by
 rw [Bool.eq_iff_iff, q8H, q8H]
 simp only [ha, hb]
theorem qdd (a b : List Sp) : q1Y (q0a a) (q0a b) = q1Y a b := qde (q3z a) (q3z b)
theorem q72 {a b : List Sp} (h : ∀ x ∈ a, ∀ y ∈ b, q2r x y = false) : q1Y a b = false := by
 cases hm : q1Y a b
 ·rfl
 ·unfold q1Y at hm
  rw [List.any_eq_true] at hm
  obtain ⟨x, hx, hm⟩ := hm
  obtain ⟨y, hy, hm⟩ := List.any_eq_true.1 hm
  rw [h x hx y hy] at hm
  cases hm
theorem qdf {a b : List Sp} {x y : Sp} (hx : x ∈ a) (hy : y ∈ b) (h : q2r x y = true) : q1Y a b = true := by
 unfold q1Y
 rw [List.any_eq_true]
 exact ⟨x, hx, List.any_eq_true.2 ⟨y, hy, h⟩⟩
theorem q3R (a b : Sp) : q2r a b = (q0f a && q0f b && endS b.hi a.lo && endS a.hi b.lo) := by
 rw [Bool.eq_iff_iff, q6f, Bool.and_eq_true, Bool.and_eq_true, Bool.and_eq_true]
 constructor
 ·rintro ⟨k, h1, h2⟩
  obtain ⟨a1, a2⟩ := q0v.1 h1
  obtain ⟨b1, b2⟩ := q0v.1 h2
  exact ⟨⟨⟨q1o a2 a1, q1o b2 b1⟩, q1o b2 a1⟩, q1o a2 b1⟩
 ·rintro ⟨⟨⟨h1, h2⟩, h3⟩, h4⟩
  by_cases hl : blo a.lo b.lo = true
  ·exact ⟨b.lo, q0v.2 ⟨hl, h4⟩, q0v.2 ⟨q1n _, h2⟩⟩
  ·exact ⟨a.lo, q0v.2 ⟨q1n _, h1⟩, q0v.2 ⟨q1Z (q4d hl), h3⟩⟩
theorem qdk {l : List Sp} (h : q0B l) {i j : Nat} (hij : i < j) (hj : j < l.length) : gapS (l[i]'(by omega)) (l[j]'hj) := by
 induction l generalizing i j with
 | nil => exact absurd hj (by simp)
 | cons s l ih =>
  cases j with
  | zero => omega
  | succ j =>
   have hj' : j < l.length := by simpa using hj
   cases i with
   | zero => exact h.2.1 _ (List.getElem_mem hj')
   | succ i => exact ih h.2.2 (by omega) hj'
def q3X (a b : List Sp) (i n : Nat) : Prop := (∀ (p : Nat) (hp : p < a.length) (q : Nat) (hq : q < b.length), p < i → q2r (a[p]'hp) (b[q]'hq) = false) ∧ (∀ (p : Nat) (hp : p < a.length) (q : Nat) (hq : q < b.length), q < n → q2r (a[p]'hp) (b[q]'hq) = false)
theorem qcz (a b : List Sp) : q3X a b 0 0 := ⟨fun _ _ _ _ h => by omega, fun _ _ _ _ h => by omega⟩
theorem qg4 {a b : List Sp} {i n : Nat} (hi : a.length ≤ i) (h : q3X a b i n) : q1Y a b = false := q72 fun x hx y hy => by
 obtain ⟨p, hp, rfl⟩ := List.getElem_of_mem hx
 obtain ⟨q, hq, rfl⟩ := List.getElem_of_mem hy
 exact h.1 p hp q hq (by omega)
theorem qg5 {a b : List Sp} {i n : Nat} (hn : b.length ≤ n) (h : q3X a b i n) : q1Y a b = false := q72 fun x hx y hy => by
 obtain ⟨p, hp, rfl⟩ := List.getElem_of_mem hx
 obtain ⟨q, hq, rfl⟩ := List.getElem_of_mem hy
 exact h.2 p hp q hq (by omega)
theorem q9V {x y : Sp} (h : endS x.hi y.lo = false) : q2r x y = false := by
 rw [q3R, h, Bool.and_false]
theorem q8K {x y : Sp} (h : endS y.hi x.lo = false) : q2r x y = false := by
 rw [q3R, h, Bool.and_false, Bool.false_and]
theorem qcA {hi k j : List UInt8} (h : endS hi k = false) (hj : blo k j = true) : endS hi j = false := by
 cases he : endS hi j
 ·rfl
 ·rw [q1o he hj] at h
  cases h
theorem q9H {a b : List Sp} (hb : q0B b) {i n : Nat} (h : q3X a b i n) (hi : i < a.length) (hn : n < b.length) (he : endS (a[i]'hi).hi (b[n]'hn).lo = false) : q3X a b (i + 1) n := by
 refine ⟨fun p hp q hq hlt => ?_, h.2⟩
 by_cases e : p = i
 ·subst e
  by_cases hqn : q < n
  ·exact h.2 p hp q hq hqn
  ·refine q9V (qcA he ?_)
   by_cases e2 : n = q
   ·subst e2; exact q1n _
   ·exact q1Z (q4s (q2w hb _ (List.getElem_mem hn)) (qdk hb (by omega) hq))
 ·exact h.1 p hp q hq (by omega)
theorem q9I {a b : List Sp} (ha : q0B a) (hb : q0B b) {i n : Nat} (h : q3X a b i n) (hi : i < a.length) (hn : n < b.length) (he : endS (a[i]'hi).hi (b[n]'hn).lo = true) (hm : q2r (a[i]'hi) (b[n]'hn) = false) : q3X a b i (n + 1) := by
 refine ⟨h.1, fun p hp q hq hlt => ?_⟩
 by_cases e : q = n
 ·subst e
  by_cases hpi : p < i
  ·exact h.1 p hp q hq hpi
  ·have h1 := q2w ha _ (List.getElem_mem hi)
   have h2 := q2w hb _ (List.getElem_mem hn)
   rw [q3R, h1, h2, he] at hm
   have h3 : endS (b[q]'hq).hi (a[i]'hi).lo = false := by simpa using hm
   refine q8K (qcA h3 ?_)
   by_cases e2 : i = p
   ·subst e2; exact q1n _
   ·exact q1Z (q4s h1 (qdk ha (by omega) hp))
 ·exact h.2 p hp q hq (by omega)
def q2D (a b : List UInt8) : List UInt8 := if a ≠ [] ∧ endS b a = true then b else a
theorem q8F (a b k : List UInt8) : endS (q2D a b) k = (endS a k || endS b k) := by
 rw [Bool.eq_iff_iff, Bool.or_eq_true]
 unfold q2D
 split
 ·next h =>
  refine ⟨.inr, fun g => g.elim (fun g => ?_) id⟩
  rcases q0z.1 g with g | g
  ·exact absurd g h.1
  ·exact q1o h.2 (q1Z g)
 ·next h =>
  refine ⟨.inl, fun g => g.elim id fun g => ?_⟩
  by_cases ha : a = []
  ·exact q0z.2 (.inl ha)
  ·have hb : ¬ endS b a = true := fun e => h ⟨ha, e⟩
   have hb2 : endS b a = false := by simpa using hb
   cases hk : blo a k
   ·exact q0z.2 (.inr (q4d (by rw [hk]; simp)))
   ·rw [qcA hb2 hk] at g
    cases g
def q4e (out : List Sp) (s : Sp) : List Sp :=
 match out.getLast? with
 | none => [s]
 | some t => if gapB t s = true then out ++ [s] else out.dropLast ++ [⟨t.lo, q2D t.hi s.hi⟩]
theorem qdH (s : Sp) : q4e [] s = [s] := rfl
theorem q51 (o : List Sp) (t s : Sp) : q4e (o ++ [t]) s = if gapB t s = true then o ++ [t] ++ [s] else o ++ [⟨t.lo, q2D t.hi s.hi⟩] := by
 unfold q4e
 rw [List.getLast?_concat, List.dropLast_concat]
theorem q74 : ∀ {a b : List Sp}, q0B (a ++ b) → q0B a ∧ q0B b ∧ ∀ x ∈ a, ∀ y ∈ b, gapS x y
 | [], _, h => ⟨trivial, h, fun _ hx => by cases hx⟩
 | x :: a, b, h => by
  obtain ⟨h1, h2, h3⟩ := q74 (a := a) h.2.2
  refine ⟨⟨h.1, fun t ht => h.2.1 t (List.mem_append_left _ ht), h1⟩, h2, fun y hy z hz => ?_⟩
  rcases List.mem_cons.1 hy with rfl | hy
  ·exact h.2.1 z (List.mem_append_right _ hz)
  ·exact h3 y hy z hz
theorem q69 (a b : List Sp) (k : List UInt8) : inP (a ++ b) k = (inP a k || inP b k) := by simp [inP]
theorem qaz (s : Sp) (k : List UInt8) : inP [s] k = hasS s k := by simp [inP]
theorem qdL {out : List Sp} {s : Sp} (hn : q0B out) (hs : q0f s = true) (hle : ∀ x ∈ out, blo x.lo s.lo = true) : q0B (q4e out s) ∧ (∀ k, inP (q4e out s) k = (inP out k || hasS s k)) ∧ ∀ x ∈ q4e out s, blo x.lo s.lo = true := by
 rcases List.eq_nil_or_concat out with rfl | ⟨o, t, rfl⟩
 ·rw [qdH]
  refine ⟨⟨hs, (fun _ h => by cases h), trivial⟩, fun k => by rw [qaz]; simp [inP], fun x hx => ?_⟩
  rw [List.mem_singleton] at hx
  rw [hx]
  exact q1n _
 ·rw [List.concat_eq_append] at hn hle ⊢
  rw [q51]
  obtain ⟨n1, n2, n3⟩ := q74 hn
  have ht := n2.1
  have hlt := hle t (List.mem_append_right _ (List.mem_singleton.2 rfl))
  by_cases hg : gapB t s = true
  ·rw [if_pos hg]
   have hg' := q7s.1 hg
   refine ⟨q3f hn ⟨hs, (fun _ h => by cases h), trivial⟩ fun x hx y hy => ?_, fun k => by rw [q69 _ [s], qaz], fun x hx => ?_⟩
   ·rw [List.mem_singleton] at hy
    subst hy
    rcases List.mem_append.1 hx with hx | hx
    ·exact q67 ht (n3 x hx t (List.mem_singleton.2 rfl)) hg'
    ·rw [List.mem_singleton] at hx
     subst hx
     exact hg'
   ·rcases List.mem_append.1 hx with hx | hx
    ·exact hle x hx
    ·rw [List.mem_singleton] at hx
     rw [hx]
     exact q1n _
  ·rw [if_neg hg]
   have hr : q0f ⟨t.lo, q2D t.hi s.hi⟩ = true := by
    show endS (q2D t.hi s.hi) t.lo = true
    rw [q8F, Bool.or_eq_true]
    exact .inl ht
   refine ⟨q3f n1 ⟨hr, (fun _ h => by cases h), trivial⟩ fun x hx y hy => ?_, fun k => ?_, fun x hx => ?_⟩
   ·rw [List.mem_singleton] at hy
    subst hy
    have := n3 x hx t (List.mem_singleton.2 rfl)
    exact ⟨this.1, this.2⟩
   ·rw [q69, q69, qaz, qaz, Bool.or_assoc]
    congr 1
    rw [Bool.eq_iff_iff, Bool.or_eq_true, q0v, q0v, q0v]
    show blo t.lo k = true ∧ endS (q2D t.hi s.hi) k = true ↔ _
    rw [q8F, Bool.or_eq_true]
    constructor
    ·rintro ⟨h1, h2⟩
     by_cases he : endS t.hi k = true
     ·exact .inl ⟨h1, he⟩
     ·have h3 := h2.resolve_left he
      refine .inr ⟨?_, h3⟩
      have hne : t.hi ≠ [] := fun e => he (q0z.2 (.inl e))
      have hle2 : blo s.lo t.hi = true := by
       cases hb : blt t.hi s.lo
       ·simp [blo, hb]
       ·exact absurd (q7s.2 ⟨hne, hb⟩) hg
      have hk : blo t.hi k = true := by
       cases hb : blo t.hi k
       ·exact absurd (q0z.2 (.inr (q4d (by rw [hb]; simp)))) he
       ·rfl
      exact q1e hle2 hk
    ·rintro (⟨h1, h2⟩ | ⟨h1, h2⟩)
     ·exact ⟨h1, .inl h2⟩
     ·exact ⟨q1e hlt h1, .inr h2⟩
   ·rcases List.mem_append.1 hx with hx | hx
    ·exact hle x (List.mem_append_left _ hx)
    ·rw [List.mem_singleton] at hx
     rw [hx]
     exact hlt
def q76 (l : List Sp) : Prop := l.Pairwise fun a b => blo a.lo b.lo = true
theorem q8t : ∀ (l out : List Sp), q0B out → (∀ s ∈ l, q0f s = true) → q76 l → (∀ x ∈ out, ∀ s ∈ l, blo x.lo s.lo = true) → q0B (l.foldl q4e out) ∧ ∀ k, inP (l.foldl q4e out) k = (inP out k || inP l k)
 | [], out, h, _, _, _ => ⟨h, fun k => by simp [inP]⟩
 | s :: l, out, h, hr, hs, hle => by
  obtain ⟨h1, h2, h3⟩ := qdL h (hr s (List.mem_cons_self ..)) fun x hx => hle x hx s (List.mem_cons_self ..)
  obtain ⟨k1, k2⟩ := q8t l (q4e out s) h1 (fun x hx => hr x (List.mem_cons_of_mem _ hx)) (List.pairwise_cons.1 hs).2 fun x hx y hy => q1e (h3 x hx) ((List.pairwise_cons.1 hs).1 y hy)
  refine ⟨k1, fun k => ?_⟩
  rw [List.foldl_cons, k2, h2, Bool.or_assoc]
  congr 1
theorem qdV {l m : List Sp} (hm : ∀ s, s ∈ m ↔ s ∈ l ∧ q0f s = true) (hr : q76 m) : m.foldl q4e [] = q0a l := by
 obtain ⟨h1, h2⟩ := q8t m [] trivial (fun s hs => ((hm s).1 hs).2) hr fun _ hx => by cases hx
 refine q48 h1 fun k => ?_
 rw [h2, show inP [] k = false from rfl, Bool.false_or, Bool.eq_iff_iff, q1h, q1h]
 constructor
 ·rintro ⟨s, hs, hk⟩
  exact ⟨s, ((hm s).1 hs).1, hk⟩
 ·rintro ⟨s, hs, hk⟩
  refine ⟨s, (hm s).2 ⟨hs, ?_⟩, hk⟩
  cases h : q0f s
  ·rw [qf7 h] at hk
   cases hk
  ·rfl
theorem fit_drop (n : Nat) : ∀ (m : Nat) (l : List Sp) (hm : m + 1 ≤ l.length), l.length = max n 1 + m → fitS n l = ⟨(l[0]'(by omega)).lo, (l[m]'(by omega)).hi⟩ :: l.drop (m + 1)
 | 0, l, hm, he => by
  match l, hm with
  | a :: l, _ =>
   rw [qcH (by omega)]
   rfl
 | m + 1, l, hm, he => by
  match l, hm with
  | a :: b :: l, _ =>
   unfold fitS
   rw [if_pos (by omega)]
   have ih := fit_drop n m (⟨a.lo, b.hi⟩ :: l) (by simp at he ⊢; omega) (by simp at he ⊢; omega)
   rw [ih]
   cases m with
   | zero => rfl
   | succ m => rfl
theorem q1p (l : List Sp) : (q0a l).length ≤ l.length := by
 have key : ∀ (l out : List Sp), q0B out → (l.foldl (fun out s => if q0f s = true then q5l out s else out) out).length ≤ out.length + l.length := by
  intro l
  induction l with
  | nil => intro out _; simp
  | cons s l ih =>
   intro out hn
   rw [List.foldl_cons]
   by_cases hs : q0f s = true
   ·rw [if_pos hs]
    have h1 := ih (q5l out s) (qaM hn hs)
    have h2 : (q5l out s).length ≤ out.length + 1 := by
     unfold q5l
     rw [List.length_append, List.length_cons]
     generalize q2e out s = g
     have : ∀ q : List Sp, (q.filter fun x => !q0P x g && blt x.lo g.lo).length + (q.filter fun x => !q0P x g && blt g.lo x.lo).length ≤ q.length := by
      intro q
      induction q with
      | nil => simp
      | cons x q ih =>
       rw [List.filter_cons, List.filter_cons]
       cases h1 : blt x.lo g.lo
       ·split <;> split <;> simp_all <;> omega
       ·have h2 := q1Q h1
        split <;> split <;> simp_all <;> omega
     have := this out
     omega
    rw [List.length_cons]
    omega
   ·rw [if_neg hs]
    have h1 := ih out hn
    rw [List.length_cons]
    omega
 have := key l [] trivial
 simpa [q0a] using this
open Go.RowKit
def q06 (s : Sp) : List Value := [.string (bs s.lo), .string (bs s.hi)]
theorem spF : q12 2 q06 := ⟨by decide, fun _ => rfl, fun x v hv => by
 simp only [q06, List.mem_cons, List.not_mem_nil, or_false] at hv
 rcases hv with rfl | rfl <;> rfl⟩
def q0S (s : Sp) : Value := .agg #[.string (bs s.lo), .string (bs s.hi)]
theorem qaQ : q20 Tryz.prog 131 2 32 := q20.of (by kernel_rfl)
def ChI (w : World) (hi : Nat) (A : Option Addr) (c : Nat) (l : List Sp) : Prop := l.length ≤ c ∧ c ≤ maxLen ∧ (A = none → c = 0) ∧ RowG q06 w 0 hi A l
section
variable {w w' : World} {hi hi' B : Nat} {A : Option Addr} {c : Nat} {l : List Sp}
theorem ChI.below (h : ChI w hi A c l) (hb : Below B w w') (hB : hi ≤ B) (hh : hi ≤ hi') : ChI w' hi' A c l := ⟨h.1, h.2.1, h.2.2.1, (h.2.2.2.below hb hB).wide (Nat.le_refl _) hh⟩
theorem ChI.none_ (w : World) (hi : Nat) : ChI w hi none 0 [] := ⟨Nat.le_refl _, Nat.zero_le _, fun _ => rfl, RowG.nil_⟩
theorem ChI.at_ (h : ChI w hi A c l) {j : Nat} (hj : j < l.length) : ∃ b o, A = some ⟨b, o, none⟩ ∧ b < hi ∧ w.cell? ⟨b, o + j * 2, none⟩ = some (.string (bs (l[j]'hj).lo)) ∧ w.cell? ⟨b, o + j * 2 + 1, none⟩ = some (.string (bs (l[j]'hj).hi)) := by
 obtain ⟨b, o, e, _, hb, hc⟩ := h.2.2.2.at_ spF hj
 exact ⟨b, o, e, hb, by simpa using hc 0 _ rfl, hc 1 _ rfl⟩
theorem OwnG.chI {e : TypeId} {lo : Nat} {v : Value} (h : OwnG e 2 q06 w lo v l) : ∃ A c, v = .slice A l.length c ∧ ChI w w.heap.size A c l := by
 obtain ⟨A, c, rfl, k1, k2, k3, k4⟩ := h.form
 exact ⟨A, c, rfl, k1, k2, k3, k4.wide (Nat.zero_le _) (Nat.le_refl _)⟩
end
def RetI (m : List Sp) (w : World) (r : Ending) (w' : World) : Prop := ∃ A c, r = .returned (.slice A m.length c) ∧ ChI w' w'.heap.size A c m ∧ Below w.heap.size w w'
structure RecS where
 first : Nat
 last : Nat
 began : Nat
 out : Nat
 reads : List Sp
 writes : List Sp
def q75 (r : RecS) : Bool := decide (1 ≤ r.first) && decide (r.first ≤ r.last) && decide (r.began ≤ r.last) && q3E r.reads && q3E r.writes
def q0c (l : List RecS) (low : Nat) : List RecS := l.filter fun r => decide (low < r.last)
def q9G (a b : RecS) : Bool := if b.writes.isEmpty then decide (a.first ≤ b.began) else decide (a.first ≤ b.last)
def outB (t a : RecS) : Bool := !(a.out == 0) && (!t.writes.isEmpty || decide (a.out ≤ t.began))
def qgD (l : List RecS) (t a : RecS) : Bool := l.any fun b => q1Y b.reads t.writes && q9G a b
def q3t (l : List RecS) (t : RecS) : List RecS := l.filter fun a => q1Y t.reads a.writes
def q2g (o : Option Nat) (a : RecS) : Option Nat := match o with
 | none => some a.first
 | some x => some (if a.first < x then a.first else x)
def outR (l : List RecS) : Nat := (l.foldl q2g none).getD 0
def q1r (l : List RecS) (t : RecS) : Option Nat :=
 if (q3t (q0c l t.began) t).any (fun a => outB t a || qgD (q0c l t.began) t a) = true then none else some (outR (q3t (q0c l t.began) t))
theorem q2Z : ∀ (l : List RecS) (o : Option Nat), (∀ a ∈ l, ∃ x, l.foldl q2g o = some x ∧ x ≤ a.first) ∧ (∀ y, o = some y → ∃ x, l.foldl q2g o = some x ∧ x ≤ y) ∧
  (∀ x, l.foldl q2g o = some x → o = some x ∨ ∃ a ∈ l, x = a.first)
 | [], o => ⟨(fun a ha => by cases ha), (fun y h => ⟨y, h, Nat.le_refl _⟩), fun x h => .inl h⟩
 | b :: l, o => by
  have hs : ∃ y, q2g o b = some y ∧ y ≤ b.first ∧ (∀ z, o = some z → y ≤ z) ∧ (o = some y ∨ y = b.first) := by
   cases o with
   | none => exact ⟨_, rfl, Nat.le_refl _, (fun z h => by cases h), .inr rfl⟩
   | some z =>
    by_cases h : b.first < z
    ·exact ⟨b.first, by simp [q2g, h], Nat.le_refl _, (fun u hu => by cases hu; omega), .inr rfl⟩
    ·exact ⟨z, by simp [q2g, h], by omega, (fun u hu => by cases hu; omega), .inl rfl⟩
  obtain ⟨y, hy, h1, h2, h3⟩ := hs
  obtain ⟨k1, k2, k3⟩ := q2Z l (some y)
  rw [List.foldl_cons, hy]
  obtain ⟨x, hx, hxy⟩ := k2 y rfl
  refine ⟨fun a ha => ?_, fun z hz => ⟨x, hx, Nat.le_trans hxy (h2 z hz)⟩, fun u hu => ?_⟩
  ·rcases List.mem_cons.1 ha with rfl | ha
   ·exact ⟨x, hx, Nat.le_trans hxy h1⟩
   ·exact k1 a ha
  ·rcases k3 u hu with h | ⟨a, ha, e⟩
   ·cases h
    rcases h3 with h | h
    ·exact .inl h
    ·exact .inr ⟨b, List.mem_cons_self .., h⟩
   ·exact .inr ⟨a, List.mem_cons_of_mem _ ha, e⟩
theorem qgg {l : List RecS} {a : RecS} (ha : a ∈ l) : outR l ≤ a.first := by
 obtain ⟨x, hx, h⟩ := (q2Z l none).1 a ha
 unfold outR
 rw [hx]
 exact h
theorem qfM {l : List RecS} (h : l ≠ []) : ∃ a ∈ l, outR l = a.first := by
 match l, h with
 | b :: l, _ =>
  obtain ⟨x, hx, _⟩ := (q2Z (b :: l) none).1 b (List.mem_cons_self ..)
  rcases (q2Z (b :: l) none).2.2 x hx with h | ⟨a, ha, e⟩
  ·cases h
  ·exact ⟨a, ha, by unfold outR; rw [hx]; exact e⟩
def q3p (a b : Nat) : Nat := if a = 0 ∨ b = 0 then max a b else min a b
def q2u (J : List Sp → List Sp → List Sp) (a b : RecS) : RecS := ⟨min a.first b.first, max a.last b.last, max a.began b.began, q3p a.out b.out, J a.reads b.reads, J a.writes b.writes⟩
structure qfX (J : List Sp → List Sp → List Sp) : Prop where
 norm : ∀ a b, q0B (J a b)
 left : ∀ a b k, inP a k = true → inP (J a b) k = true
 right : ∀ a b k, inP b k = true → inP (J a b) k = true
def fitR (J : List Sp → List Sp → List Sp) : Nat → List RecS → List RecS
 | n, a :: b :: l => if max n 1 < (a :: b :: l).length then fitR J n (q2u J a b :: l) else a :: b :: l
 | _, l => l
 termination_by _ l => l.length
section
variable {J : List Sp → List Sp → List Sp}
theorem q3S (r : RecS) : q75 r = true ↔ 1 ≤ r.first ∧ r.first ≤ r.last ∧ r.began ≤ r.last ∧ q0B r.reads ∧ q0B r.writes := by
 simp only [q75, Bool.and_eq_true, decide_eq_true_eq, q6j]
 constructor
 ·rintro ⟨⟨⟨⟨h1, h2⟩, h3⟩, h4⟩, h5⟩
  exact ⟨h1, h2, h3, h4, h5⟩
 ·rintro ⟨h1, h2, h3, h4, h5⟩
  exact ⟨⟨⟨⟨h1, h2⟩, h3⟩, h4⟩, h5⟩
theorem qbw (hJ : qfX J) {a b : RecS} (ha : q75 a = true) (hb : q75 b = true) : q75 (q2u J a b) = true := by
 rw [q3S] at *
 obtain ⟨h1, h2, h3, _, _⟩ := ha
 obtain ⟨g1, g2, g3, _, _⟩ := hb
 refine ⟨?_, ?_, ?_, hJ.norm _ _, hJ.norm _ _⟩
 ·show 1 ≤ min a.first b.first
  omega
 ·show min a.first b.first ≤ max a.last b.last
  omega
 ·show max a.began b.began ≤ max a.last b.last
  omega
theorem q3N {n : Nat} {l : List RecS} (h : l.length ≤ max n 1) : fitR J n l = l := by
 match l, h with
 | [], _ => unfold fitR; rfl
 | [a], _ => unfold fitR; rfl
 | a :: b :: l, h =>
  unfold fitR
  rw [if_neg (by omega)]
theorem qav (n : Nat) : ∀ (m : Nat) (l : List RecS), l.length ≤ m → max n 1 ≤ l.length → (fitR J n l).length = max n 1
 | _, [], _, h2 => by simp at h2
 | _, [x], _, h2 => by unfold fitR; simp at h2 ⊢; omega
 | 0, x :: y :: l, h, _ => by simp at h
 | m + 1, x :: y :: l, h, h2 => by
  unfold fitR
  split
  ·rename_i hlt
   exact qav n m _ (by simp at h ⊢; omega) (by simp at hlt ⊢; omega)
  ·rename_i hlt
   simp only [List.length_cons] at hlt h2 ⊢
   omega
theorem qcG {n : Nat} {a b : RecS} {l : List RecS} (h : max n 1 < l.length + 2) : fitR J n (a :: b :: l) = fitR J n (q2u J a b :: l) := by
 rw [fitR, if_pos (by simpa using h)]
end
open Go.RowKit
structure MR where
 r : RecS
 A : Option Addr
 c : Nat
 B : Option Addr
 d : Nat
def q0d (x : MR) : List Value := [.int .u64 x.r.first, .int .u64 x.r.last, .int .u64 x.r.began, .int .u64 x.r.out, .slice x.A x.r.reads.length x.c, .slice x.B x.r.writes.length x.d]
def q0w (x : MR) : Value := .agg #[.int .u64 x.r.first, .int .u64 x.r.last, .int .u64 x.r.began, .int .u64 x.r.out, .slice x.A x.r.reads.length x.c, .slice x.B x.r.writes.length x.d]
theorem mrF : q12 6 q0d := ⟨by decide, fun _ => rfl, fun x v hv => by
 simp only [q0d, List.mem_cons, List.not_mem_nil, or_false] at hv
 rcases hv with rfl | rfl | rfl | rfl | rfl | rfl <;> rfl⟩
theorem qdh : q20 Tryz.prog 86 6 80 := q20.of (by kernel_rfl)
structure OkMR (w : World) (hi : Nat) (x : MR) : Prop where
 first : x.r.first < 18446744073709551616
 last : x.r.last < 18446744073709551616
 began : x.r.began < 18446744073709551616
 out : x.r.out < 18446744073709551616
 reads : ChI w hi x.A x.c x.r.reads
 writes : ChI w hi x.B x.d x.r.writes
def RowR (w : World) (hi : Nat) (A : Option Addr) (l : List RecS) : Prop := ∃ ms : List MR, ms.map MR.r = l ∧ RowG q0d w 0 hi A ms ∧ ∀ x ∈ ms, OkMR w hi x
def ChR (w : World) (hi : Nat) (A : Option Addr) (c : Nat) (l : List RecS) : Prop := l.length ≤ c ∧ c ≤ maxLen ∧ (A = none → c = 0) ∧ RowR w hi A l
section
variable {w w' : World} {hi hi' B : Nat} {A : Option Addr} {c : Nat} {l : List RecS} {x : MR}
theorem OkMR.below (h : OkMR w hi x) (hb : Below B w w') (hB : hi ≤ B) (hh : hi ≤ hi') : OkMR w' hi' x := ⟨h.first, h.last, h.began, h.out, h.reads.below hb hB hh, h.writes.below hb hB hh⟩
theorem RowR.below (h : RowR w hi A l) (hb : Below B w w') (hB : hi ≤ B) (hh : hi ≤ hi') : RowR w' hi' A l := by
 obtain ⟨ms, e, h1, h2⟩ := h
 exact ⟨ms, e, (h1.below hb hB).wide (Nat.le_refl _) hh, fun x hx => (h2 x hx).below hb hB hh⟩
theorem ChR.below (h : ChR w hi A c l) (hb : Below B w w') (hB : hi ≤ B) (hh : hi ≤ hi') : ChR w' hi' A c l := ⟨h.1, h.2.1, h.2.2.1, h.2.2.2.below hb hB hh⟩
theorem RowR.at_ (h : RowR w hi A l) {j : Nat} (hj : j < l.length) :
  ∃ b o, A = some ⟨b, o, none⟩ ∧ b < hi ∧ ∃ x : MR, x.r = l[j]'hj ∧ OkMR w hi x ∧ w.cell? ⟨b, o + j * 6, none⟩ = some (.int .u64 x.r.first) ∧ w.cell? ⟨b, o + j * 6 + 1, none⟩ = some (.int .u64 x.r.last) ∧ w.cell? ⟨b, o + j * 6 + 2, none⟩ = some (.int .u64 x.r.began) ∧
   w.cell? ⟨b, o + j * 6 + 3, none⟩ = some (.int .u64 x.r.out) ∧ w.cell? ⟨b, o + j * 6 + 4, none⟩ = some (.slice x.A x.r.reads.length x.c) ∧ w.cell? ⟨b, o + j * 6 + 5, none⟩ = some (.slice x.B x.r.writes.length x.d) := by
 obtain ⟨ms, rfl, h1, h2⟩ := h
 have hj' : j < ms.length := by simpa using hj
 obtain ⟨b, o, e, _, hb, hc⟩ := h1.at_ mrF hj'
 exact ⟨b, o, e, hb, ms[j], by simp, h2 _ (List.getElem_mem hj'), by simpa using hc 0 _ rfl, hc 1 _ rfl, hc 2 _ rfl, hc 3 _ rfl, hc 4 _ rfl, hc 5 _ rfl⟩
theorem OwnG.chR {e : TypeId} {lo : Nat} {v : Value} {ms : List MR} (h : OwnG e 6 q0d w lo v ms) (hm : ∀ x ∈ ms, OkMR w w.heap.size x) : ∃ A c, v = .slice A ms.length c ∧ ChR w w.heap.size A c (ms.map MR.r) := by
 obtain ⟨A, c, rfl, k1, k2, k3, k4⟩ := h.form
 exact ⟨A, c, rfl, by rw [List.length_map]; exact k1, k2, k3, ms, rfl, k4.wide (Nat.zero_le _) (Nat.le_refl _), hm⟩
end
def q7T (m : List RecS) (w : World) (r : Ending) (w' : World) : Prop := ∃ A c, r = .returned (.slice A m.length c) ∧ ChR w' w'.heap.size A c m ∧ Below w.heap.size w w'
def qbY (m : RecS) (w : World) (r : Ending) (w' : World) : Prop := ∃ x : MR, x.r = m ∧ r = .returned (q0w x) ∧ OkMR w' w'.heap.size x ∧ Below w.heap.size w w'
def q3Q : Option Nat → Value
 | some n => .tuple #[.int .u64 n, .int .i64 0]
 | none => .tuple #[.int .u64 0, .int .i64 101]
theorem q65 {l : List RecS} {low j : Nat} (hj : j < l.length) : q0c (l.take (j + 1)) low = q0c (l.take j) low ++ (if low < (l[j]'hj).last then [l[j]'hj] else []) := by
 unfold q0c
 rw [List.take_succ_eq_append_getElem hj, List.filter_append]
 congr 1
 by_cases h : low < (l[j]'hj).last
 ·rw [if_pos h, List.filter_cons, if_pos (by simpa using h)]; rfl
 ·rw [if_neg h, List.filter_cons, if_neg (by simpa using h)]; rfl
theorem q4U (l : List RecS) (low : Nat) : (q0c l low).length ≤ l.length := List.length_filter_le _ _
def q0A (l : List RecS) : Nat := (l.map fun r => r.reads.length + r.writes.length).sum
theorem qeF {l : List RecS} {r : RecS} (h : r ∈ l) : r.reads.length + r.writes.length ≤ q0A l := by
 induction l with
 | nil => cases h
 | cons x l ih =>
  have e : q0A (x :: l) = (x.reads.length + x.writes.length) + q0A l := by simp [q0A]
  rcases List.mem_cons.1 h with rfl | h
  ·omega
  ·have := ih h
   omega
theorem q8G {J : List Sp → List Sp → List Sp} (hJ : ∀ a b, (J a b).length ≤ a.length + b.length) (a b : RecS) (l : List RecS) : q0A (q2u J a b :: l) ≤ q0A (a :: b :: l) := by
 have h1 := hJ a.reads b.reads
 have h2 := hJ a.writes b.writes
 have e1 : q0A (q2u J a b :: l) = ((J a.reads b.reads).length + (J a.writes b.writes).length) + q0A l := by simp [q0A, q2u]
 have e2 : q0A (a :: b :: l) = (a.reads.length + a.writes.length) + ((b.reads.length + b.writes.length) + q0A l) := by simp [q0A]
 omega
structure LimT where
 s : LimS
 marks : Int
 recs : Int
 live : Int
structure TxS where
 id : Nat
 began : Nat
 start : Nat
 marks : List Sp
 ws : List Wr
structure q5j where
 id : Nat
 began : Nat
 at_ : Nat
 start : Nat
 end_ : Nat
 reads : List Sp
 writes : List Sp
structure q08 where
 st : PS
 live : List TxS
 recs : List RecS
 hist : List q5j
 last : Nat
 event : Nat
def q3u : q08 := ⟨⟨0, []⟩, [], [], [], 0, 0⟩
def q8P (L : LimT) : Nat := (max L.recs 1).toNat
def q0j (k : KeyS) : Sp := ⟨k, k ++ [0]⟩
def lowT (b : q08) : Nat := b.live.foldl (fun l t => min l t.began) b.st.time
def ofT (b : q08) (id : Int) : Option TxS := b.live.find? fun t => decide ((t.id : Int) = id)
def setT (b : q08) (t : TxS) : q08 := ⟨b.st, b.live.map fun x => if x.id = t.id then t else x, b.recs, b.hist, b.last, b.event⟩
def errT (e : Int) : q4l := ⟨0, e, [], false, []⟩
def q0J (L : LimT) (b : q08) : q08 × q4l :=
 if L.live ≤ (b.live.length : Int) then (b, errT 5) else (⟨b.st, b.live ++ [⟨b.last + 1, b.st.time, b.event + 1, [], []⟩], b.recs, b.hist, b.last + 1, b.event + 1⟩, ⟨b.last + 1, 0, [], false, []⟩)
def qbG (l : List (KeyS × List UInt8)) (w : Wr) : List (KeyS × List UInt8) := l.filter (fun p => blt p.1 w.key) ++ (if w.gone = true then [] else [(w.key, w.dat)]) ++ l.filter (fun p => blt w.key p.1)
def q4a (lo hi : KeyS) (ws : List Wr) (l : List (KeyS × List UInt8)) : List (KeyS × List UInt8) := ws.foldl (fun l w => if hasS ⟨lo, hi⟩ w.key = true then qbG l w else l) l
def putW (ws : List Wr) (w : Wr) : List Wr := ws.filter (fun x => blt x.key w.key) ++ [w] ++ ws.filter (fun x => blt w.key x.key)
def q0F (b : q08) (id : Int) (w : Wr) : q08 × q4l := match ofT b id with
 | none => (b, errT 4)
 | some t => if q0h [] [w] ≠ 0 then (b, errT (q0h [] [w])) else (setT b ⟨t.id, t.began, t.start, t.marks, putW t.ws w⟩, errT 0)
def q1P (st : PS) (t : TxS) (w : Wr) : Bool := w.gone && (q0E st.K w.key t.began).isNone
def q05 (st : PS) (t : TxS) : List Wr := t.ws.filter fun w => !q1P st t w
def q6J (st : PS) (t : TxS) : Bool := t.ws.any fun w => decide (t.began < q2L (q03 st.K w.key))
section
variable (F : List Sp → List Sp)
def q8A (a b : List Sp) : List Sp := F (q0a (a ++ b))
def addF (m : List Sp) (s : Sp) : List Sp := F (q0a (m ++ [s]))
def q30 (t : TxS) (s : Sp) : TxS := ⟨t.id, t.began, t.start, addF F t.marks s, t.ws⟩
def q15 (b : q08) (id : Int) (key : KeyS) : q08 × q4l := match ofT b id with
 | none => (b, errT 4)
 | some t => match t.ws.find? fun w => w.key == key with
  | some w => (b, ⟨0, 0, w.dat, !w.gone, []⟩)
  | none => (setT b (q30 F t (q0j key)), ⟨0, 0, (q0E b.st.K key t.began).getD [], (q0E b.st.K key t.began).isSome, []⟩)
def q1E (b : q08) (id : Int) (lo hi : KeyS) : q08 × q4l := match ofT b id with
 | none => (b, errT 4)
 | some t => if q0f ⟨lo, hi⟩ = false then (b, errT 1) else (setT b (q30 F t ⟨lo, hi⟩), ⟨0, 0, [], false, q4a lo hi t.ws (q1q b.st.K lo hi t.began)⟩)
def q2J (L : LimT) (b : q08) (t : TxS) : q08 :=
 ⟨b.st, b.live.filter (fun x => decide (x.id ≠ t.id)), fitR (q8A F) (q8P L) (q0c b.recs (lowT ⟨b.st, b.live.filter (fun x => decide (x.id ≠ t.id)), b.recs, b.hist, b.last, b.event⟩)), b.hist, b.last, b.event⟩
def q1U (st : PS) (t : TxS) : List Sp := t.ws.foldl (fun m w => if q1P st t w = true then addF F m (q0j w.key) else m) t.marks
def q1w (l : List Wr) : List Sp := F (l.foldl (fun m w => q0a (m ++ [q0j w.key])) [])
def askT (st : PS) (t : TxS) : RecS := ⟨0, 0, t.began, 0, q1U F st t, q1w F (q05 st t)⟩
def q0l (L : LimT) (b : q08) (id : Int) : q08 × q4l := match ofT b id with
 | none => (b, errT 4)
 | some t =>
  if q6J b.st t = true then (q2J F L b t, errT 100)
  else match q1r b.recs (askT F b.st t) with
   | none => (q2J F L b t, errT 101)
   | some out =>
    if (q09 L.s b.st (q05 b.st t) (lowT b)).2.2 ≠ 0 then (q2J F L ⟨(q09 L.s b.st (q05 b.st t) (lowT b)).1, b.live, b.recs, b.hist, b.last, b.event⟩ t, errT (q09 L.s b.st (q05 b.st t) (lowT b)).2.2)
    else (q2J F L ⟨(q09 L.s b.st (q05 b.st t) (lowT b)).1, b.live,
      b.recs ++ [⟨max (q09 L.s b.st (q05 b.st t) (lowT b)).2.1 1, max (q09 L.s b.st (q05 b.st t) (lowT b)).2.1 1, t.began, out, q1U F b.st t, q1w F (q05 b.st t)⟩],
      b.hist ++ [⟨t.id, t.began, (q09 L.s b.st (q05 b.st t) (lowT b)).2.1, t.start, b.event + 1, q1U F b.st t, q1w F (q05 b.st t)⟩], b.last, b.event + 1⟩ t,
     ⟨(q09 L.s b.st (q05 b.st t) (lowT b)).2.1, 0, [], false, []⟩)
def q1M (L : LimT) (b : q08) (id : Int) : q08 × q4l := match ofT b id with
 | none => (b, errT 4)
 | some t => (q2J F L b t, errT 0)
def q1G (b : q08) : q08 × q4l :=
 (⟨⟨b.st.time, q07 b.st.K (lowT b)⟩, b.live, b.recs, b.hist, b.last, b.event⟩, ⟨q1l b.st.K - q1l (q07 b.st.K (lowT b)), 0, [], false, []⟩)
structure OpT where
 what : Int
 id : Int
 w : Wr
 hi : KeyS
def q0Q (L : LimT) (b : q08) (o : OpT) : q08 × q4l :=
 if o.what = 0 then q0J L b
 else if o.what = 1 then q15 F b o.id o.w.key
 else if o.what = 2 then q1E F b o.id o.w.key o.hi
 else if o.what = 3 then q0F b o.id o.w
 else if o.what = 4 then q0l F L b o.id
 else if o.what = 5 then q1M F L b o.id
 else if o.what = 6 then q1G b
 else (b, qgk)
end
theorem q7z : ∀ (l : List TxS) (n : Nat), l.foldl (fun l t => min l t.began) n ≤ n ∧ ∀ t ∈ l, l.foldl (fun l t => min l t.began) n ≤ t.began
 | [], n => ⟨Nat.le_refl _, fun t h => by cases h⟩
 | x :: l, n => by
  obtain ⟨h1, h2⟩ := q7z l (min n x.began)
  refine ⟨Nat.le_trans h1 (Nat.min_le_left _ _), fun t ht => ?_⟩
  rcases List.mem_cons.1 ht with rfl | ht
  ·exact Nat.le_trans h1 (Nat.min_le_right _ _)
  ·exact h2 t ht
theorem q7A (b : q08) : lowT b ≤ b.st.time := (q7z _ _).1
theorem qd6 {b : q08} {t : TxS} (h : t ∈ b.live) : lowT b ≤ t.began := (q7z _ _).2 t h
theorem q1V {b : q08} {id : Int} {t : TxS} (h : ofT b id = some t) : t ∈ b.live ∧ (t.id : Int) = id := ⟨List.mem_of_find?_eq_some h, by simpa using List.find?_some h⟩
def IdsT (l : List TxS) : Prop := l.Pairwise fun x y => x.id < y.id
theorem q7u : ∀ {l : List TxS}, IdsT l → ∀ x ∈ l, ∀ y ∈ l, x.id = y.id → x = y
 | z :: l, h, x, hx, y, hy, e => by
  obtain ⟨h1, h2⟩ := List.pairwise_cons.1 h
  rcases List.mem_cons.1 hx with ex | hx2
  ·rcases List.mem_cons.1 hy with ey | hy2
   ·rw [ex, ey]
   ·have := h1 y hy2; subst ex; omega
  ·rcases List.mem_cons.1 hy with ey | hy2
   ·have := h1 x hx2; subst ey; omega
   ·exact q7u h2 x hx2 y hy2 e
theorem q3P {b : q08} (hi : IdsT b.live) (t : TxS) : IdsT (setT b t).live := by
 have e : (setT b t).live.map TxS.id = b.live.map TxS.id := by
  unfold setT
  simp only [List.map_map]
  refine List.map_congr_left fun x _ => ?_
  simp only [Function.comp]
  split
  ·rename_i h; exact h.symm
  ·rfl
 unfold IdsT at *
 have h1 : (b.live.map TxS.id).Pairwise (· < ·) := List.pairwise_map.2 hi
 rw [← e] at h1
 exact List.pairwise_map.1 h1
theorem q4v {b : q08} {t x : TxS} (h : x ∈ (setT b t).live) : (x = t ∧ ∃ y ∈ b.live, y.id = t.id) ∨ (x ∈ b.live ∧ x.id ≠ t.id) := by
 unfold setT at h
 simp only [List.mem_map] at h
 obtain ⟨y, hy, e⟩ := h
 split at e
 ·rename_i hid
  exact .inl ⟨e.symm, y, hy, hid⟩
 ·rename_i hid
  subst e
  exact .inr ⟨hy, hid⟩
end Go.Proofs.YtdpbllacfljmoaaGreat
