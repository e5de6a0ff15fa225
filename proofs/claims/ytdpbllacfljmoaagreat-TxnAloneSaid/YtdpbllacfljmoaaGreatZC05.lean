import Derived.Test.YtdpbllacfljmoaaGreatZC04
import Derived.Test.YtdpbllacfljmoaaGreatZC00
import Derived.Test.YtdpbllacfljmoaaGreatZC01
import Derived.Test.YtdpbllacfljmoaaGreatZC03
set_option maxRecDepth 100000
set_option maxHeartbeats 16000000
set_option linter.unusedVariables false
namespace Go.Proofs.YtdpbllacfljmoaaGreat
instance : DecidableEq Sp := fun a b => decidable_of_iff (a.lo = b.lo ∧ a.hi = b.hi) (by cases a; cases b; simp)
def sp0 : Sp := ⟨[], []⟩
def gapB (s t : Sp) : Bool := !s.hi.isEmpty && blt s.hi t.lo
theorem q7q {s t : Sp} : gapB s t = true ↔ gapS s t := by
 unfold gapB gapS
 rw [Bool.and_eq_true, Bool.not_eq_true', List.isEmpty_eq_false_iff]
def q3B : List Sp → Bool
 | [] => true
 | [s] => q0f s
 | s :: t :: l => q0f s && gapB s t && q3B (t :: l)
theorem q6h : ∀ {l : List Sp}, q3B l = true ↔ q0D l
 | [] => ⟨fun _ => trivial, fun _ => rfl⟩
 | [s] => by
  show q0f s = true ↔ _
  exact ⟨fun h => ⟨h, (fun _ ht => by cases ht), trivial⟩, fun h => h.1⟩
 | s :: t :: l => by
  show (q0f s && gapB s t && q3B (t :: l)) = true ↔ _
  rw [Bool.and_eq_true, Bool.and_eq_true, q7q, q6h]
  constructor
  ·rintro ⟨⟨h1, h2⟩, h3⟩
   refine ⟨h1, fun x hx => ?_, h3⟩
   rcases List.mem_cons.1 hx with rfl | hx
   ·exact h2
   ·exact q63 h3.1 h2 (h3.2.1 x hx)
  ·rintro ⟨h1, h2, h3⟩
   exact ⟨⟨h1, h2 t (List.mem_cons_self ..)⟩, h3⟩
theorem q7z : ∀ {l : List Sp}, q3B l = true → ∀ (j : Nat) (h : j < l.length), q0f (l[j]'h) = true ∧ ∀ (i : Nat) (hi : i + 1 = j), gapB (l[i]'(by omega)) (l[j]'h) = true
 | [s], h, 0, _ => ⟨h, fun i hi => by omega⟩
 | s :: t :: l, h, j, hj => by
  have h' : (q0f s && gapB s t && q3B (t :: l)) = true := h
  rw [Bool.and_eq_true, Bool.and_eq_true] at h'
  cases j with
  | zero => exact ⟨h'.1.1, fun i hi => by omega⟩
  | succ j =>
   obtain ⟨k1, k2⟩ := q7z h'.2 j (by simpa using hj)
   refine ⟨k1, fun i hi => ?_⟩
   cases i with
   | zero =>
    obtain rfl : j = 0 := by omega
    exact h'.1.2
   | succ i => exact k2 i (by omega)
theorem qaz : ∀ {l : List Sp}, (∀ (j : Nat) (h : j < l.length), q0f (l[j]'h) = true) → (∀ (j : Nat) (h : j + 1 < l.length), gapB (l[j]'(by omega)) (l[j + 1]'h) = true) → q3B l = true
 | [], _, _ => rfl
 | [s], h, _ => h 0 (by simp)
 | s :: t :: l, h, g => by
  show (q0f s && gapB s t && q3B (t :: l)) = true
  rw [Bool.and_eq_true, Bool.and_eq_true]
  exact ⟨⟨h 0 (by simp), g 0 (by simp)⟩, qaz (fun j hj => h (j + 1) (by simpa using hj)) (fun j hj => g (j + 1) (by simpa using hj))⟩
def q8s (l : List Sp) (j : Nat) : Prop := (∀ (i : Nat) (h : i < l.length), i < j → q0f (l[i]'h) = true) ∧ (∀ (i : Nat) (h : i + 1 < l.length), i + 1 < j → gapB (l[i]'(by omega)) (l[i + 1]'h) = true)
theorem qcL (l : List Sp) : q8s l 0 := ⟨fun i _ h => by omega, fun i _ h => by omega⟩
theorem qeA {l : List Sp} (h : q8s l l.length) : q3B l = true := qaz (fun j hj => h.1 j hj hj) (fun j hj => h.2 j hj hj)
theorem qcK {l : List Sp} {j : Nat} (h : q8s l j) (hj : j < l.length) (h1 : q0f (l[j]'hj) = true) (h2 : ∀ i (hi : i + 1 = j), gapB (l[i]'(by omega)) (l[j]'hj) = true) : q8s l (j + 1) := by
 refine ⟨fun i hi hlt => ?_, fun i hi hlt => ?_⟩
 ·by_cases e : i = j
  ·subst e; exact h1
  ·exact h.1 i hi (by omega)
 ·by_cases e : i + 1 = j
  ·subst e; exact h2 i rfl
  ·exact h.2 i hi (by omega)
theorem qbW {l : List Sp} {j : Nat} (hj : j < l.length) (h : q0f (l[j]'hj) = false) : q3B l = false := by
 cases hn : q3B l
 ·rfl
 ·rw [(q7z hn j hj).1] at h
  cases h
theorem qfo {l : List Sp} {i j : Nat} (hi : i + 1 = j) (hj : j < l.length) (h : gapB (l[i]'(by omega)) (l[j]'hj) = false) : q3B l = false := by
 cases hn : q3B l
 ·rfl
 ·rw [(q7z hn j hj).2 i hi] at h
  cases h
def q1Z (a b : List Sp) : Bool := a.any fun x => b.any fun y => q2r x y
theorem q6c (a b : List Sp) : q1Z a b = true ↔ ∃ k, inP a k = true ∧ inP b k = true := by
 unfold q1Z
 rw [List.any_eq_true]
 constructor
 ·rintro ⟨x, hx, h⟩
  obtain ⟨y, hy, h⟩ := List.any_eq_true.1 h
  obtain ⟨k, h1, h2⟩ := (q6d x y).1 h
  exact ⟨k, q1l.2 ⟨x, hx, h1⟩, q1l.2 ⟨y, hy, h2⟩⟩
 ·rintro ⟨k, h1, h2⟩
  obtain ⟨x, hx, h1⟩ := q1l.1 h1
  obtain ⟨y, hy, h2⟩ := q1l.1 h2
  exact ⟨x, hx, List.any_eq_true.2 ⟨y, hy, (q6d x y).2 ⟨k, h1, h2⟩⟩⟩
theorem qde {a b a' b' : List Sp} (ha : ∀ k, inP a k = inP a' k) (hb : ∀ k, inP b k = inP b' k) : q1Z a b = q1Z a' b' := by
 rw [Bool.eq_iff_iff, q6c, q6c]
 simp only [ha, hb]
theorem qdd (a b : List Sp) : q1Z (q0b a) (q0b b) = q1Z a b := qde (q3x a) (q3x b)
theorem q6Y {a b : List Sp} (h : ∀ x ∈ a, ∀ y ∈ b, q2r x y = false) : q1Z a b = false := by
 cases hm : q1Z a b
 ·rfl
 ·unfold q1Z at hm
  rw [List.any_eq_true] at hm
  obtain ⟨x, hx, hm⟩ := hm
  obtain ⟨y, hy, hm⟩ := List.any_eq_true.1 hm
  rw [h x hx y hy] at hm
  cases hm
theorem qdf {a b : List Sp} {x y : Sp} (hx : x ∈ a) (hy : y ∈ b) (h : q2r x y = true) : q1Z a b = true := by
 unfold q1Z
 rw [List.any_eq_true]
 exact ⟨x, hx, List.any_eq_true.2 ⟨y, hy, h⟩⟩
theorem q3O (a b : Sp) : q2r a b = (q0f a && q0f b && endS b.hi a.lo && endS a.hi b.lo) := by
 rw [Bool.eq_iff_iff, q6d, Bool.and_eq_true, Bool.and_eq_true, Bool.and_eq_true]
 constructor
 ·rintro ⟨k, h1, h2⟩
  obtain ⟨a1, a2⟩ := q0w.1 h1
  obtain ⟨b1, b2⟩ := q0w.1 h2
  exact ⟨⟨⟨q1s a2 a1, q1s b2 b1⟩, q1s b2 a1⟩, q1s a2 b1⟩
 ·rintro ⟨⟨⟨h1, h2⟩, h3⟩, h4⟩
  by_cases hl : blo a.lo b.lo = true
  ·exact ⟨b.lo, q0w.2 ⟨hl, h4⟩, q0w.2 ⟨q1r _, h2⟩⟩
  ·exact ⟨a.lo, q0w.2 ⟨q1r _, h1⟩, q0w.2 ⟨q20 (q4a hl), h3⟩⟩
theorem qdk {l : List Sp} (h : q0D l) {i j : Nat} (hij : i < j) (hj : j < l.length) : gapS (l[i]'(by omega)) (l[j]'hj) := by
 induction l generalizing i j with
 | nil => exact absurd hj (by simp)
 | cons s l ih =>
  cases j with
  | zero => omega
  | succ j =>
   have hj' : j < l.length := by simpa using hj
   cases i with
   | zero => exact h.2.1 _ (List.getElem_mem hj')
   | succ i => exact ih h.2.2 (by omega) hj'
def q3V (a b : List Sp) (i n : Nat) : Prop := (∀ (p : Nat) (hp : p < a.length) (q : Nat) (hq : q < b.length), p < i → q2r (a[p]'hp) (b[q]'hq) = false) ∧ (∀ (p : Nat) (hp : p < a.length) (q : Nat) (hq : q < b.length), q < n → q2r (a[p]'hp) (b[q]'hq) = false)
theorem qcu (a b : List Sp) : q3V a b 0 0 := ⟨fun _ _ _ _ h => by omega, fun _ _ _ _ h => by omega⟩
theorem qg7 {a b : List Sp} {i n : Nat} (hi : a.length ≤ i) (h : q3V a b i n) : q1Z a b = false := q6Y fun x hx y hy => by
 obtain ⟨p, hp, rfl⟩ := List.getElem_of_mem hx
 obtain ⟨q, hq, rfl⟩ := List.getElem_of_mem hy
 exact h.1 p hp q hq (by omega)
theorem qg8 {a b : List Sp} {i n : Nat} (hn : b.length ≤ n) (h : q3V a b i n) : q1Z a b = false := q6Y fun x hx y hy => by
 obtain ⟨p, hp, rfl⟩ := List.getElem_of_mem hx
 obtain ⟨q, hq, rfl⟩ := List.getElem_of_mem hy
 exact h.2 p hp q hq (by omega)
theorem q9Q {x y : Sp} (h : endS x.hi y.lo = false) : q2r x y = false := by
 rw [q3O, h, Bool.and_false]
theorem q8D {x y : Sp} (h : endS y.hi x.lo = false) : q2r x y = false := by
 rw [q3O, h, Bool.and_false, Bool.false_and]
theorem qcv {hi k j : List UInt8} (h : endS hi k = false) (hj : blo k j = true) : endS hi j = false := by
 cases he : endS hi j
 ·rfl
 ·rw [q1s he hj] at h
  cases h
theorem q9C {a b : List Sp} (hb : q0D b) {i n : Nat} (h : q3V a b i n) (hi : i < a.length) (hn : n < b.length) (he : endS (a[i]'hi).hi (b[n]'hn).lo = false) : q3V a b (i + 1) n := by
 refine ⟨fun p hp q hq hlt => ?_, h.2⟩
 by_cases e : p = i
 ·subst e
  by_cases hqn : q < n
  ·exact h.2 p hp q hq hqn
  ·refine q9Q (qcv he ?_)
   by_cases e2 : n = q
   ·subst e2; exact q1r _
   ·exact q20 (q4o (q2x hb _ (List.getElem_mem hn)) (qdk hb (by omega) hq))
 ·exact h.1 p hp q hq (by omega)
theorem q9D {a b : List Sp} (ha : q0D a) (hb : q0D b) {i n : Nat} (h : q3V a b i n) (hi : i < a.length) (hn : n < b.length) (he : endS (a[i]'hi).hi (b[n]'hn).lo = true) (hm : q2r (a[i]'hi) (b[n]'hn) = false) : q3V a b i (n + 1) := by
 refine ⟨h.1, fun p hp q hq hlt => ?_⟩
 by_cases e : q = n
 ·subst e
  by_cases hpi : p < i
  ·exact h.1 p hp q hq hpi
  ·have h1 := q2x ha _ (List.getElem_mem hi)
   have h2 := q2x hb _ (List.getElem_mem hn)
   rw [q3O, h1, h2, he] at hm
   have h3 : endS (b[q]'hq).hi (a[i]'hi).lo = false := by simpa using hm
   refine q8D (qcv h3 ?_)
   by_cases e2 : i = p
   ·subst e2; exact q1r _
   ·exact q20 (q4o h1 (qdk ha (by omega) hp))
 ·exact h.2 p hp q hq (by omega)
def q2F (a b : List UInt8) : List UInt8 := if a ≠ [] ∧ endS b a = true then b else a
theorem q8z (a b k : List UInt8) : endS (q2F a b) k = (endS a k || endS b k) := by
 rw [Bool.eq_iff_iff, Bool.or_eq_true]
 unfold q2F
 split
 ·next h =>
  refine ⟨.inr, fun g => g.elim (fun g => ?_) id⟩
  rcases q0B.1 g with g | g
  ·exact absurd g h.1
  ·exact q1s h.2 (q20 g)
 ·next h =>
  refine ⟨.inl, fun g => g.elim id fun g => ?_⟩
  by_cases ha : a = []
  ·exact q0B.2 (.inl ha)
  ·have hb : ¬ endS b a = true := fun e => h ⟨ha, e⟩
   have hb2 : endS b a = false := by simpa using hb
   cases hk : blo a k
   ·exact q0B.2 (.inr (q4a (by rw [hk]; simp)))
   ·rw [qcv hb2 hk] at g
    cases g
def q4b (out : List Sp) (s : Sp) : List Sp :=
 match out.getLast? with
 | none => [s]
 | some t => if gapB t s = true then out ++ [s] else out.dropLast ++ [⟨t.lo, q2F t.hi s.hi⟩]
theorem qdI (s : Sp) : q4b [] s = [s] := rfl
theorem q4V (o : List Sp) (t s : Sp) : q4b (o ++ [t]) s = if gapB t s = true then o ++ [t] ++ [s] else o ++ [⟨t.lo, q2F t.hi s.hi⟩] := by
 unfold q4b
 rw [List.getLast?_concat, List.dropLast_concat]
theorem q70 : ∀ {a b : List Sp}, q0D (a ++ b) → q0D a ∧ q0D b ∧ ∀ x ∈ a, ∀ y ∈ b, gapS x y
 | [], _, h => ⟨trivial, h, fun _ hx => by cases hx⟩
 | x :: a, b, h => by
  obtain ⟨h1, h2, h3⟩ := q70 (a := a) h.2.2
  refine ⟨⟨h.1, fun t ht => h.2.1 t (List.mem_append_left _ ht), h1⟩, h2, fun y hy z hz => ?_⟩
  rcases List.mem_cons.1 hy with rfl | hy
  ·exact h.2.1 z (List.mem_append_right _ hz)
  ·exact h3 y hy z hz
theorem q65 (a b : List Sp) (k : List UInt8) : inP (a ++ b) k = (inP a k || inP b k) := by simp [inP]
theorem qar (s : Sp) (k : List UInt8) : inP [s] k = hasS s k := by simp [inP]
theorem qdM {out : List Sp} {s : Sp} (hn : q0D out) (hs : q0f s = true) (hle : ∀ x ∈ out, blo x.lo s.lo = true) : q0D (q4b out s) ∧ (∀ k, inP (q4b out s) k = (inP out k || hasS s k)) ∧ ∀ x ∈ q4b out s, blo x.lo s.lo = true := by
 rcases List.eq_nil_or_concat out with rfl | ⟨o, t, rfl⟩
 ·rw [qdI]
  refine ⟨⟨hs, (fun _ h => by cases h), trivial⟩, fun k => by rw [qar]; simp [inP], fun x hx => ?_⟩
  rw [List.mem_singleton] at hx
  rw [hx]
  exact q1r _
 ·rw [List.concat_eq_append] at hn hle ⊢
  rw [q4V]
  obtain ⟨n1, n2, n3⟩ := q70 hn
  have ht := n2.1
  have hlt := hle t (List.mem_append_right _ (List.mem_singleton.2 rfl))
  by_cases hg : gapB t s = true
  ·rw [if_pos hg]
   have hg' := q7q.1 hg
   refine ⟨q3f hn ⟨hs, (fun _ h => by cases h), trivial⟩ fun x hx y hy => ?_, fun k => by rw [q65 _ [s], qar], fun x hx => ?_⟩
   ·rw [List.mem_singleton] at hy
    subst hy
    rcases List.mem_append.1 hx with hx | hx
    ·exact q63 ht (n3 x hx t (List.mem_singleton.2 rfl)) hg'
    ·rw [List.mem_singleton] at hx
     subst hx
     exact hg'
   ·rcases List.mem_append.1 hx with hx | hx
    ·exact hle x hx
    ·rw [List.mem_singleton] at hx
     rw [hx]
     exact q1r _
  ·rw [if_neg hg]
   have hr : q0f ⟨t.lo, q2F t.hi s.hi⟩ = true := by
    show endS (q2F t.hi s.hi) t.lo = true
    rw [q8z, Bool.or_eq_true]
    exact .inl ht
   refine ⟨q3f n1 ⟨hr, (fun _ h => by cases h), trivial⟩ fun x hx y hy => ?_, fun k => ?_, fun x hx => ?_⟩
   ·rw [List.mem_singleton] at hy
    subst hy
    have := n3 x hx t (List.mem_singleton.2 rfl)
    exact ⟨this.1, this.2⟩
   ·rw [q65, q65, qar, qar, Bool.or_assoc]
    congr 1
    rw [Bool.eq_iff_iff, Bool.or_eq_true, q0w, q0w, q0w]
    show blo t.lo k = true ∧ endS (q2F t.hi s.hi) k = true ↔ _
    rw [q8z, Bool.or_eq_true]
    constructor
    ·rintro ⟨h1, h2⟩
     by_cases he : endS t.hi k = true
     ·exact .inl ⟨h1, he⟩
     ·have h3 := h2.resolve_left he
      refine .inr ⟨?_, h3⟩
      have hne : t.hi ≠ [] := fun e => he (q0B.2 (.inl e))
      have hle2 : blo s.lo t.hi = true := by
       cases hb : blt t.hi s.lo
       ·simp [blo, hb]
       ·exact absurd (q7q.2 ⟨hne, hb⟩) hg
      have hk : blo t.hi k = true := by
       cases hb : blo t.hi k
       ·exact absurd (q0B.2 (.inr (q4a (by rw [hb]; simp)))) he
       ·rfl
      exact q1h hle2 hk
    ·rintro (⟨h1, h2⟩ | ⟨h1, h2⟩)
     ·exact ⟨h1, .inl h2⟩
     ·exact ⟨q1h hlt h1, .inr h2⟩
   ·rcases List.mem_append.1 hx with hx | hx
    ·exact hle x (List.mem_append_left _ hx)
    ·rw [List.mem_singleton] at hx
     rw [hx]
     exact hlt
def q72 (l : List Sp) : Prop := l.Pairwise fun a b => blo a.lo b.lo = true
theorem q8n : ∀ (l out : List Sp), q0D out → (∀ s ∈ l, q0f s = true) → q72 l → (∀ x ∈ out, ∀ s ∈ l, blo x.lo s.lo = true) → q0D (l.foldl q4b out) ∧ ∀ k, inP (l.foldl q4b out) k = (inP out k || inP l k)
 | [], out, h, _, _, _ => ⟨h, fun k => by simp [inP]⟩
 | s :: l, out, h, hr, hs, hle => by
  obtain ⟨h1, h2, h3⟩ := qdM h (hr s (List.mem_cons_self ..)) fun x hx => hle x hx s (List.mem_cons_self ..)
  obtain ⟨k1, k2⟩ := q8n l (q4b out s) h1 (fun x hx => hr x (List.mem_cons_of_mem _ hx)) (List.pairwise_cons.1 hs).2 fun x hx y hy => q1h (h3 x hx) ((List.pairwise_cons.1 hs).1 y hy)
  refine ⟨k1, fun k => ?_⟩
  rw [List.foldl_cons, k2, h2, Bool.or_assoc]
  congr 1
theorem qdW {l m : List Sp} (hm : ∀ s, s ∈ m ↔ s ∈ l ∧ q0f s = true) (hr : q72 m) : m.foldl q4b [] = q0b l := by
 obtain ⟨h1, h2⟩ := q8n m [] trivial (fun s hs => ((hm s).1 hs).2) hr fun _ hx => by cases hx
 refine q45 h1 fun k => ?_
 rw [h2, show inP [] k = false from rfl, Bool.false_or, Bool.eq_iff_iff, q1l, q1l]
 constructor
 ·rintro ⟨s, hs, hk⟩
  exact ⟨s, ((hm s).1 hs).1, hk⟩
 ·rintro ⟨s, hs, hk⟩
  refine ⟨s, (hm s).2 ⟨hs, ?_⟩, hk⟩
  cases h : q0f s
  ·rw [qfb h] at hk
   cases hk
  ·rfl
theorem fit_drop (n : Nat) : ∀ (m : Nat) (l : List Sp) (hm : m + 1 ≤ l.length), l.length = max n 1 + m → fitS n l = ⟨(l[0]'(by omega)).lo, (l[m]'(by omega)).hi⟩ :: l.drop (m + 1)
 | 0, l, hm, he => by
  match l, hm with
  | a :: l, _ =>
   rw [qcD (by omega)]
   rfl
 | m + 1, l, hm, he => by
  match l, hm with
  | a :: b :: l, _ =>
   unfold fitS
   rw [if_pos (by omega)]
   have ih := fit_drop n m (⟨a.lo, b.hi⟩ :: l) (by simp at he ⊢; omega) (by simp at he ⊢; omega)
   rw [ih]
   cases m with
   | zero => rfl
   | succ m => rfl
theorem q1t (l : List Sp) : (q0b l).length ≤ l.length := by
 have key : ∀ (l out : List Sp), q0D out → (l.foldl (fun out s => if q0f s = true then q5i out s else out) out).length ≤ out.length + l.length := by
  intro l
  induction l with
  | nil => intro out _; simp
  | cons s l ih =>
   intro out hn
   rw [List.foldl_cons]
   by_cases hs : q0f s = true
   ·rw [if_pos hs]
    have h1 := ih (q5i out s) (qaD hn hs)
    have h2 : (q5i out s).length ≤ out.length + 1 := by
     unfold q5i
     rw [List.length_append, List.length_cons]
     generalize q2d out s = g
     have : ∀ q : List Sp, (q.filter fun x => !q0R x g && blt x.lo g.lo).length + (q.filter fun x => !q0R x g && blt g.lo x.lo).length ≤ q.length := by
      intro q
      induction q with
      | nil => simp
      | cons x q ih =>
       rw [List.filter_cons, List.filter_cons]
       cases h1 : blt x.lo g.lo
       ·split <;> split <;> simp_all <;> omega
       ·have h2 := q1S h1
        split <;> split <;> simp_all <;> omega
     have := this out
     omega
    rw [List.length_cons]
    omega
   ·rw [if_neg hs]
    have h1 := ih out hn
    rw [List.length_cons]
    omega
 have := key l [] trivial
 simpa [q0b] using this
open Go.RowKit
def q07 (s : Sp) : List Value := [.string (bs s.lo), .string (bs s.hi)]
theorem spF : q12 2 q07 := ⟨by decide, fun _ => rfl, fun x v hv => by
 simp only [q07, List.mem_cons, List.not_mem_nil, or_false] at hv
 rcases hv with rfl | rfl <;> rfl⟩
def q0T (s : Sp) : Value := .agg #[.string (bs s.lo), .string (bs s.hi)]
theorem qaH : q1R Tryz.prog 131 2 32 := q1R.of (by kernel_rfl)
def ChI (w : World) (hi : Nat) (A : Option Addr) (c : Nat) (l : List Sp) : Prop := l.length ≤ c ∧ c ≤ maxLen ∧ (A = none → c = 0) ∧ RowG q07 w 0 hi A l
section
variable {w w' : World} {hi hi' B : Nat} {A : Option Addr} {c : Nat} {l : List Sp}
theorem ChI.below (h : ChI w hi A c l) (hb : Below B w w') (hB : hi ≤ B) (hh : hi ≤ hi') : ChI w' hi' A c l := ⟨h.1, h.2.1, h.2.2.1, (h.2.2.2.below hb hB).wide (Nat.le_refl _) hh⟩
theorem ChI.none_ (w : World) (hi : Nat) : ChI w hi none 0 [] := ⟨Nat.le_refl _, Nat.zero_le _, fun _ => rfl, RowG.nil_⟩
theorem ChI.at_ (h : ChI w hi A c l) {j : Nat} (hj : j < l.length) : ∃ b o, A = some ⟨b, o, none⟩ ∧ b < hi ∧ w.cell? ⟨b, o + j * 2, none⟩ = some (.string (bs (l[j]'hj).lo)) ∧ w.cell? ⟨b, o + j * 2 + 1, none⟩ = some (.string (bs (l[j]'hj).hi)) := by
 obtain ⟨b, o, e, _, hb, hc⟩ := h.2.2.2.at_ spF hj
 exact ⟨b, o, e, hb, by simpa using hc 0 _ rfl, hc 1 _ rfl⟩
theorem OwnG.chI {e : TypeId} {lo : Nat} {v : Value} (h : OwnG e 2 q07 w lo v l) : ∃ A c, v = .slice A l.length c ∧ ChI w w.heap.size A c l := by
 obtain ⟨A, c, rfl, k1, k2, k3, k4⟩ := h.form
 exact ⟨A, c, rfl, k1, k2, k3, k4.wide (Nat.zero_le _) (Nat.le_refl _)⟩
end
def RetI (m : List Sp) (w : World) (r : Ending) (w' : World) : Prop := ∃ A c, r = .returned (.slice A m.length c) ∧ ChI w' w'.heap.size A c m ∧ Below w.heap.size w w'
structure RecS where
 first : Nat
 last : Nat
 began : Nat
 out : Nat
 reads : List Sp
 writes : List Sp
def q71 (r : RecS) : Bool := decide (1 ≤ r.first) && decide (r.first ≤ r.last) && decide (r.began ≤ r.last) && q3B r.reads && q3B r.writes
def q0a (l : List RecS) (low : Nat) : List RecS := l.filter fun r => decide (low < r.last)
def q9A (a b : RecS) : Bool := if b.writes.isEmpty then decide (a.first ≤ b.began) else decide (a.first ≤ b.last)
def outB (t a : RecS) : Bool := !(a.out == 0) && (!t.writes.isEmpty || decide (a.out ≤ t.began))
def qgG (l : List RecS) (t a : RecS) : Bool := l.any fun b => q1Z b.reads t.writes && q9A a b
def q2N (l : List RecS) (t : RecS) : List RecS := l.filter fun a => q1Z t.reads a.writes
def q2f (o : Option Nat) (a : RecS) : Option Nat := match o with
 | none => some a.first
 | some x => some (if a.first < x then a.first else x)
def outR (l : List RecS) : Nat := (l.foldl q2f none).getD 0
def q15 (l : List RecS) (t : RecS) : Option Nat :=
 if (q2N (q0a l t.began) t).any (fun a => outB t a || qgG (q0a l t.began) t a) = true then none else some (outR (q2N (q0a l t.began) t))
theorem q2Z : ∀ (l : List RecS) (o : Option Nat), (∀ a ∈ l, ∃ x, l.foldl q2f o = some x ∧ x ≤ a.first) ∧ (∀ y, o = some y → ∃ x, l.foldl q2f o = some x ∧ x ≤ y) ∧
  (∀ x, l.foldl q2f o = some x → o = some x ∨ ∃ a ∈ l, x = a.first)
 | [], o => ⟨(fun a ha => by cases ha), (fun y h => ⟨y, h, Nat.le_refl _⟩), fun x h => .inl h⟩
 | b :: l, o => by
  have hs : ∃ y, q2f o b = some y ∧ y ≤ b.first ∧ (∀ z, o = some z → y ≤ z) ∧ (o = some y ∨ y = b.first) := by
   cases o with
   | none => exact ⟨_, rfl, Nat.le_refl _, (fun z h => by cases h), .inr rfl⟩
   | some z =>
    by_cases h : b.first < z
    ·exact ⟨b.first, by simp [q2f, h], Nat.le_refl _, (fun u hu => by cases hu; omega), .inr rfl⟩
    ·exact ⟨z, by simp [q2f, h], by omega, (fun u hu => by cases hu; omega), .inl rfl⟩
  obtain ⟨y, hy, h1, h2, h3⟩ := hs
  obtain ⟨k1, k2, k3⟩ := q2Z l (some y)
  rw [List.foldl_cons, hy]
  obtain ⟨x, hx, hxy⟩ := k2 y rfl
  refine ⟨fun a ha => ?_, fun z hz => ⟨x, hx, Nat.le_trans hxy (h2 z hz)⟩, fun u hu => ?_⟩
  ·rcases List.mem_cons.1 ha with rfl | ha
   ·exact ⟨x, hx, Nat.le_trans hxy h1⟩
   ·exact k1 a ha
  ·rcases k3 u hu with h | ⟨a, ha, e⟩
   ·cases h
    rcases h3 with h | h
    ·exact .inl h
    ·exact .inr ⟨b, List.mem_cons_self .., h⟩
   ·exact .inr ⟨a, List.mem_cons_of_mem _ ha, e⟩
theorem qgj {l : List RecS} {a : RecS} (ha : a ∈ l) : outR l ≤ a.first := by
 obtain ⟨x, hx, h⟩ := (q2Z l none).1 a ha
 unfold outR
 rw [hx]
 exact h
theorem qfP {l : List RecS} (h : l ≠ []) : ∃ a ∈ l, outR l = a.first := by
 match l, h with
 | b :: l, _ =>
  obtain ⟨x, hx, _⟩ := (q2Z (b :: l) none).1 b (List.mem_cons_self ..)
  rcases (q2Z (b :: l) none).2.2 x hx with h | ⟨a, ha, e⟩
  ·cases h
  ·exact ⟨a, ha, by unfold outR; rw [hx]; exact e⟩
theorem q9J {l : List RecS} {t : RecS} (h : q2N (q0a l t.began) t = []) : q15 l t = some 0 := by
 unfold q15
 rw [h]
 rfl
def q3o (a b : Nat) : Nat := if a = 0 ∨ b = 0 then max a b else min a b
def q2u (J : List Sp → List Sp → List Sp) (a b : RecS) : RecS := ⟨min a.first b.first, max a.last b.last, max a.began b.began, q3o a.out b.out, J a.reads b.reads, J a.writes b.writes⟩
structure qg0 (J : List Sp → List Sp → List Sp) : Prop where
 norm : ∀ a b, q0D (J a b)
 left : ∀ a b k, inP a k = true → inP (J a b) k = true
 right : ∀ a b k, inP b k = true → inP (J a b) k = true
def fitR (J : List Sp → List Sp → List Sp) : Nat → List RecS → List RecS
 | n, a :: b :: l => if max n 1 < (a :: b :: l).length then fitR J n (q2u J a b :: l) else a :: b :: l
 | _, l => l
 termination_by _ l => l.length
section
variable {J : List Sp → List Sp → List Sp}
theorem q3Q (r : RecS) : q71 r = true ↔ 1 ≤ r.first ∧ r.first ≤ r.last ∧ r.began ≤ r.last ∧ q0D r.reads ∧ q0D r.writes := by
 simp only [q71, Bool.and_eq_true, decide_eq_true_eq, q6h]
 constructor
 ·rintro ⟨⟨⟨⟨h1, h2⟩, h3⟩, h4⟩, h5⟩
  exact ⟨h1, h2, h3, h4, h5⟩
 ·rintro ⟨h1, h2, h3, h4, h5⟩
  exact ⟨⟨⟨⟨h1, h2⟩, h3⟩, h4⟩, h5⟩
theorem qbs (hJ : qg0 J) {a b : RecS} (ha : q71 a = true) (hb : q71 b = true) : q71 (q2u J a b) = true := by
 rw [q3Q] at *
 obtain ⟨h1, h2, h3, _, _⟩ := ha
 obtain ⟨g1, g2, g3, _, _⟩ := hb
 refine ⟨?_, ?_, ?_, hJ.norm _ _, hJ.norm _ _⟩
 ·show 1 ≤ min a.first b.first
  omega
 ·show min a.first b.first ≤ max a.last b.last
  omega
 ·show max a.began b.began ≤ max a.last b.last
  omega
theorem q3K {n : Nat} {l : List RecS} (h : l.length ≤ max n 1) : fitR J n l = l := by
 match l, h with
 | [], _ => unfold fitR; rfl
 | [a], _ => unfold fitR; rfl
 | a :: b :: l, h =>
  unfold fitR
  rw [if_neg (by omega)]
theorem qan (n : Nat) : ∀ (m : Nat) (l : List RecS), l.length ≤ m → max n 1 ≤ l.length → (fitR J n l).length = max n 1
 | _, [], _, h2 => by simp at h2
 | _, [x], _, h2 => by unfold fitR; simp at h2 ⊢; omega
 | 0, x :: y :: l, h, _ => by simp at h
 | m + 1, x :: y :: l, h, h2 => by
  unfold fitR
  split
  ·rename_i hlt
   exact qan n m _ (by simp at h ⊢; omega) (by simp at hlt ⊢; omega)
  ·rename_i hlt
   simp only [List.length_cons] at hlt h2 ⊢
   omega
theorem qcC {n : Nat} {a b : RecS} {l : List RecS} (h : max n 1 < l.length + 2) : fitR J n (a :: b :: l) = fitR J n (q2u J a b :: l) := by
 rw [fitR, if_pos (by simpa using h)]
end
open Go.RowKit
structure MR where
 r : RecS
 A : Option Addr
 c : Nat
 B : Option Addr
 d : Nat
def q0d (x : MR) : List Value := [.int .u64 x.r.first, .int .u64 x.r.last, .int .u64 x.r.began, .int .u64 x.r.out, .slice x.A x.r.reads.length x.c, .slice x.B x.r.writes.length x.d]
def q0x (x : MR) : Value := .agg #[.int .u64 x.r.first, .int .u64 x.r.last, .int .u64 x.r.began, .int .u64 x.r.out, .slice x.A x.r.reads.length x.c, .slice x.B x.r.writes.length x.d]
theorem mrF : q12 6 q0d := ⟨by decide, fun _ => rfl, fun x v hv => by
 simp only [q0d, List.mem_cons, List.not_mem_nil, or_false] at hv
 rcases hv with rfl | rfl | rfl | rfl | rfl | rfl <;> rfl⟩
theorem qdh : q1R Tryz.prog 86 6 80 := q1R.of (by kernel_rfl)
structure OkMR (w : World) (hi : Nat) (x : MR) : Prop where
 first : x.r.first < 18446744073709551616
 last : x.r.last < 18446744073709551616
 began : x.r.began < 18446744073709551616
 out : x.r.out < 18446744073709551616
 reads : ChI w hi x.A x.c x.r.reads
 writes : ChI w hi x.B x.d x.r.writes
def RowR (w : World) (hi : Nat) (A : Option Addr) (l : List RecS) : Prop := ∃ ms : List MR, ms.map MR.r = l ∧ RowG q0d w 0 hi A ms ∧ ∀ x ∈ ms, OkMR w hi x
def ChR (w : World) (hi : Nat) (A : Option Addr) (c : Nat) (l : List RecS) : Prop := l.length ≤ c ∧ c ≤ maxLen ∧ (A = none → c = 0) ∧ RowR w hi A l
section
variable {w w' : World} {hi hi' B : Nat} {A : Option Addr} {c : Nat} {l : List RecS} {x : MR}
theorem OkMR.below (h : OkMR w hi x) (hb : Below B w w') (hB : hi ≤ B) (hh : hi ≤ hi') : OkMR w' hi' x := ⟨h.first, h.last, h.began, h.out, h.reads.below hb hB hh, h.writes.below hb hB hh⟩
theorem RowR.below (h : RowR w hi A l) (hb : Below B w w') (hB : hi ≤ B) (hh : hi ≤ hi') : RowR w' hi' A l := by
 obtain ⟨ms, e, h1, h2⟩ := h
 exact ⟨ms, e, (h1.below hb hB).wide (Nat.le_refl _) hh, fun x hx => (h2 x hx).below hb hB hh⟩
theorem ChR.below (h : ChR w hi A c l) (hb : Below B w w') (hB : hi ≤ B) (hh : hi ≤ hi') : ChR w' hi' A c l := ⟨h.1, h.2.1, h.2.2.1, h.2.2.2.below hb hB hh⟩
theorem RowR.at_ (h : RowR w hi A l) {j : Nat} (hj : j < l.length) :
  ∃ b o, A = some ⟨b, o, none⟩ ∧ b < hi ∧ ∃ x : MR, x.r = l[j]'hj ∧ OkMR w hi x ∧ w.cell? ⟨b, o + j * 6, none⟩ = some (.int .u64 x.r.first) ∧ w.cell? ⟨b, o + j * 6 + 1, none⟩ = some (.int .u64 x.r.last) ∧ w.cell? ⟨b, o + j * 6 + 2, none⟩ = some (.int .u64 x.r.began) ∧
   w.cell? ⟨b, o + j * 6 + 3, none⟩ = some (.int .u64 x.r.out) ∧ w.cell? ⟨b, o + j * 6 + 4, none⟩ = some (.slice x.A x.r.reads.length x.c) ∧ w.cell? ⟨b, o + j * 6 + 5, none⟩ = some (.slice x.B x.r.writes.length x.d) := by
 obtain ⟨ms, rfl, h1, h2⟩ := h
 have hj' : j < ms.length := by simpa using hj
 obtain ⟨b, o, e, _, hb, hc⟩ := h1.at_ mrF hj'
 exact ⟨b, o, e, hb, ms[j], by simp, h2 _ (List.getElem_mem hj'), by simpa using hc 0 _ rfl, hc 1 _ rfl, hc 2 _ rfl, hc 3 _ rfl, hc 4 _ rfl, hc 5 _ rfl⟩
theorem OwnG.chR {e : TypeId} {lo : Nat} {v : Value} {ms : List MR} (h : OwnG e 6 q0d w lo v ms) (hm : ∀ x ∈ ms, OkMR w w.heap.size x) : ∃ A c, v = .slice A ms.length c ∧ ChR w w.heap.size A c (ms.map MR.r) := by
 obtain ⟨A, c, rfl, k1, k2, k3, k4⟩ := h.form
 exact ⟨A, c, rfl, by rw [List.length_map]; exact k1, k2, k3, ms, rfl, k4.wide (Nat.zero_le _) (Nat.le_refl _), hm⟩
end
def q7P (m : List RecS) (w : World) (r : Ending) (w' : World) : Prop := ∃ A c, r = .returned (.slice A m.length c) ∧ ChR w' w'.heap.size A c m ∧ Below w.heap.size w w'
def qbT (m : RecS) (w : World) (r : Ending) (w' : World) : Prop := ∃ x : MR, x.r = m ∧ r = .returned (q0x x) ∧ OkMR w' w'.heap.size x ∧ Below w.heap.size w w'
def q3N : Option Nat → Value
 | some n => .tuple #[.int .u64 n, .int .i64 0]
 | none => .tuple #[.int .u64 0, .int .i64 101]
theorem q61 {l : List RecS} {low j : Nat} (hj : j < l.length) : q0a (l.take (j + 1)) low = q0a (l.take j) low ++ (if low < (l[j]'hj).last then [l[j]'hj] else []) := by
 unfold q0a
 rw [List.take_succ_eq_append_getElem hj, List.filter_append]
 congr 1
 by_cases h : low < (l[j]'hj).last
 ·rw [if_pos h, List.filter_cons, if_pos (by simpa using h)]; rfl
 ·rw [if_neg h, List.filter_cons, if_neg (by simpa using h)]; rfl
theorem q4O (l : List RecS) (low : Nat) : (q0a l low).length ≤ l.length := List.length_filter_le _ _
def q0C (l : List RecS) : Nat := (l.map fun r => r.reads.length + r.writes.length).sum
theorem qeK {l : List RecS} {r : RecS} (h : r ∈ l) : r.reads.length + r.writes.length ≤ q0C l := by
 induction l with
 | nil => cases h
 | cons x l ih =>
  have e : q0C (x :: l) = (x.reads.length + x.writes.length) + q0C l := by simp [q0C]
  rcases List.mem_cons.1 h with rfl | h
  ·omega
  ·have := ih h
   omega
theorem q8A {J : List Sp → List Sp → List Sp} (hJ : ∀ a b, (J a b).length ≤ a.length + b.length) (a b : RecS) (l : List RecS) : q0C (q2u J a b :: l) ≤ q0C (a :: b :: l) := by
 have h1 := hJ a.reads b.reads
 have h2 := hJ a.writes b.writes
 have e1 : q0C (q2u J a b :: l) = ((J a.reads b.reads).length + (J a.writes b.writes).length) + q0C l := by simp [q0C, q2u]
 have e2 : q0C (a :: b :: l) = (a.reads.length + a.writes.length) + ((b.reads.length + b.writes.length) + q0C l) := by simp [q0C]
 omega
structure LimT where
 s : LimS
 marks : Int
 recs : Int
 live : Int
structure TxS where
 id : Nat
 began : Nat
 start : Nat
 marks : List Sp
 ws : List Wr
structure q5g where
 id : Nat
 began : Nat
 at_ : Nat
 start : Nat
 end_ : Nat
 reads : List Sp
 writes : List Sp
structure q06 where
 st : PS
 live : List TxS
 recs : List RecS
 hist : List q5g
 last : Nat
 event : Nat
def q3s : q06 := ⟨⟨0, []⟩, [], [], [], 0, 0⟩
def q8I (L : LimT) : Nat := (max L.recs 1).toNat
def q0k (k : KeyS) : Sp := ⟨k, k ++ [0]⟩
def lowT (b : q06) : Nat := b.live.foldl (fun l t => min l t.began) b.st.time
def ofT (b : q06) (id : Int) : Option TxS := b.live.find? fun t => decide ((t.id : Int) = id)
def setT (b : q06) (t : TxS) : q06 := ⟨b.st, b.live.map fun x => if x.id = t.id then t else x, b.recs, b.hist, b.last, b.event⟩
def errT (e : Int) : q4h := ⟨0, e, [], false, []⟩
def q0r (L : LimT) (b : q06) : q06 × q4h :=
 if L.live ≤ (b.live.length : Int) then (b, errT 5) else (⟨b.st, b.live ++ [⟨b.last + 1, b.st.time, b.event + 1, [], []⟩], b.recs, b.hist, b.last + 1, b.event + 1⟩, ⟨b.last + 1, 0, [], false, []⟩)
def qbC (l : List (KeyS × List UInt8)) (w : Wr) : List (KeyS × List UInt8) := l.filter (fun p => blt p.1 w.key) ++ (if w.gone = true then [] else [(w.key, w.dat)]) ++ l.filter (fun p => blt w.key p.1)
def q47 (lo hi : KeyS) (ws : List Wr) (l : List (KeyS × List UInt8)) : List (KeyS × List UInt8) := ws.foldl (fun l w => if hasS ⟨lo, hi⟩ w.key = true then qbC l w else l) l
def putW (ws : List Wr) (w : Wr) : List Wr := ws.filter (fun x => blt x.key w.key) ++ [w] ++ ws.filter (fun x => blt w.key x.key)
def q0E (b : q06) (id : Int) (w : Wr) : q06 × q4h := match ofT b id with
 | none => (b, errT 4)
 | some t => if q0i [] [w] ≠ 0 then (b, errT (q0i [] [w])) else (setT b ⟨t.id, t.began, t.start, t.marks, putW t.ws w⟩, errT 0)
def q1P (st : PS) (t : TxS) (w : Wr) : Bool := w.gone && (q0K st.K w.key t.began).isNone
def q04 (st : PS) (t : TxS) : List Wr := t.ws.filter fun w => !q1P st t w
def q55 (st : PS) (t : TxS) : Bool := t.ws.any fun w => decide (t.began < q2v (q03 st.K w.key))
section
variable (F : List Sp → List Sp)
def q8u (a b : List Sp) : List Sp := F (q0b (a ++ b))
def addF (m : List Sp) (s : Sp) : List Sp := F (q0b (m ++ [s]))
def q30 (t : TxS) (s : Sp) : TxS := ⟨t.id, t.began, t.start, addF F t.marks s, t.ws⟩
def q1b (b : q06) (id : Int) (key : KeyS) : q06 × q4h := match ofT b id with
 | none => (b, errT 4)
 | some t => match t.ws.find? fun w => w.key == key with
  | some w => (b, ⟨0, 0, w.dat, !w.gone, []⟩)
  | none => (setT b (q30 F t (q0k key)), ⟨0, 0, (q0K b.st.K key t.began).getD [], (q0K b.st.K key t.began).isSome, []⟩)
def q1M (b : q06) (id : Int) (lo hi : KeyS) : q06 × q4h := match ofT b id with
 | none => (b, errT 4)
 | some t => if q0f ⟨lo, hi⟩ = false then (b, errT 1) else (setT b (q30 F t ⟨lo, hi⟩), ⟨0, 0, [], false, q47 lo hi t.ws (q1Q b.st.K lo hi t.began)⟩)
def q2D (L : LimT) (b : q06) (t : TxS) : q06 :=
 ⟨b.st, b.live.filter (fun x => decide (x.id ≠ t.id)), fitR (q8u F) (q8I L) (q0a b.recs (lowT ⟨b.st, b.live.filter (fun x => decide (x.id ≠ t.id)), b.recs, b.hist, b.last, b.event⟩)), b.hist, b.last, b.event⟩
def q1W (st : PS) (t : TxS) : List Sp := t.ws.foldl (fun m w => if q1P st t w = true then addF F m (q0k w.key) else m) t.marks
def q1y (l : List Wr) : List Sp := F (l.foldl (fun m w => q0b (m ++ [q0k w.key])) [])
def askT (st : PS) (t : TxS) : RecS := ⟨0, 0, t.began, 0, q1W F st t, q1y F (q04 st t)⟩
def q0h (L : LimT) (b : q06) (id : Int) : q06 × q4h := match ofT b id with
 | none => (b, errT 4)
 | some t =>
  if q55 b.st t = true then (q2D F L b t, errT 100)
  else match q15 b.recs (askT F b.st t) with
   | none => (q2D F L b t, errT 101)
   | some out =>
    if (q09 L.s b.st (q04 b.st t) (lowT b)).2.2 ≠ 0 then (q2D F L ⟨(q09 L.s b.st (q04 b.st t) (lowT b)).1, b.live, b.recs, b.hist, b.last, b.event⟩ t, errT (q09 L.s b.st (q04 b.st t) (lowT b)).2.2)
    else (q2D F L ⟨(q09 L.s b.st (q04 b.st t) (lowT b)).1, b.live,
      b.recs ++ [⟨max (q09 L.s b.st (q04 b.st t) (lowT b)).2.1 1, max (q09 L.s b.st (q04 b.st t) (lowT b)).2.1 1, t.began, out, q1W F b.st t, q1y F (q04 b.st t)⟩],
      b.hist ++ [⟨t.id, t.began, (q09 L.s b.st (q04 b.st t) (lowT b)).2.1, t.start, b.event + 1, q1W F b.st t, q1y F (q04 b.st t)⟩], b.last, b.event + 1⟩ t,
     ⟨(q09 L.s b.st (q04 b.st t) (lowT b)).2.1, 0, [], false, []⟩)
def q1f (L : LimT) (b : q06) (id : Int) : q06 × q4h := match ofT b id with
 | none => (b, errT 4)
 | some t => (q2D F L b t, errT 0)
def q1H (b : q06) : q06 × q4h :=
 (⟨⟨b.st.time, q08 b.st.K (lowT b)⟩, b.live, b.recs, b.hist, b.last, b.event⟩, ⟨q1p b.st.K - q1p (q08 b.st.K (lowT b)), 0, [], false, []⟩)
structure OpT where
 what : Int
 id : Int
 w : Wr
 hi : KeyS
def q0H (L : LimT) (b : q06) (o : OpT) : q06 × q4h :=
 if o.what = 0 then q0r L b
 else if o.what = 1 then q1b F b o.id o.w.key
 else if o.what = 2 then q1M F b o.id o.w.key o.hi
 else if o.what = 3 then q0E b o.id o.w
 else if o.what = 4 then q0h F L b o.id
 else if o.what = 5 then q1f F L b o.id
 else if o.what = 6 then q1H b
 else (b, qgn)
end
theorem q7w : ∀ (l : List TxS) (n : Nat), l.foldl (fun l t => min l t.began) n ≤ n ∧ ∀ t ∈ l, l.foldl (fun l t => min l t.began) n ≤ t.began
 | [], n => ⟨Nat.le_refl _, fun t h => by cases h⟩
 | x :: l, n => by
  obtain ⟨h1, h2⟩ := q7w l (min n x.began)
  refine ⟨Nat.le_trans h1 (Nat.min_le_left _ _), fun t ht => ?_⟩
  rcases List.mem_cons.1 ht with rfl | ht
  ·exact Nat.le_trans h1 (Nat.min_le_right _ _)
  ·exact h2 t ht
theorem q7x (b : q06) : lowT b ≤ b.st.time := (q7w _ _).1
theorem qd5 {b : q06} {t : TxS} (h : t ∈ b.live) : lowT b ≤ t.began := (q7w _ _).2 t h
theorem q1e {b : q06} {id : Int} {t : TxS} (h : ofT b id = some t) : t ∈ b.live ∧ (t.id : Int) = id := ⟨List.mem_of_find?_eq_some h, by simpa using List.find?_some h⟩
def IdsT (l : List TxS) : Prop := l.Pairwise fun x y => x.id < y.id
theorem q7s : ∀ {l : List TxS}, IdsT l → ∀ x ∈ l, ∀ y ∈ l, x.id = y.id → x = y
 | z :: l, h, x, hx, y, hy, e => by
  obtain ⟨h1, h2⟩ := List.pairwise_cons.1 h
  rcases List.mem_cons.1 hx with ex | hx2
  ·rcases List.mem_cons.1 hy with ey | hy2
   ·rw [ex, ey]
   ·have := h1 y hy2; subst ex; omega
  ·rcases List.mem_cons.1 hy with ey | hy2
   ·have := h1 x hx2; subst ey; omega
   ·exact q7s h2 x hx2 y hy2 e
theorem q3M {b : q06} (hi : IdsT b.live) (t : TxS) : IdsT (setT b t).live := by
 have e : (setT b t).live.map TxS.id = b.live.map TxS.id := by
  unfold setT
  simp only [List.map_map]
  refine List.map_congr_left fun x _ => ?_
  simp only [Function.comp]
  split
  ·rename_i h; exact h.symm
  ·rfl
 unfold IdsT at *
 have h1 : (b.live.map TxS.id).Pairwise (· < ·) := List.pairwise_map.2 hi
 rw [← e] at h1
 exact List.pairwise_map.1 h1
theorem q3P {b : q06} {t x : TxS} (h : x ∈ (setT b t).live) : (x = t ∧ ∃ y ∈ b.live, y.id = t.id) ∨ (x ∈ b.live ∧ x.id ≠ t.id) := by
 unfold setT at h
 simp only [List.mem_map] at h
 obtain ⟨y, hy, e⟩ := h
 split at e
 ·rename_i hid
  exact .inl ⟨e.symm, y, hy, hid⟩
 ·rename_i hid
  subst e
  exact .inr ⟨hy, hid⟩
end Go.Proofs.YtdpbllacfljmoaaGreat
