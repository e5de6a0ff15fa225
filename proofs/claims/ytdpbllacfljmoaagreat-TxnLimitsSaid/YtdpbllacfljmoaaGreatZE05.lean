import Derived.Test.YtdpbllacfljmoaaGreatZE04
set_option maxRecDepth 100000
set_option maxHeartbeats 16000000
set_option linter.unusedVariables false
namespace Go.Proofs.YtdpbllacfljmoaaGreat
instance : DecidableEq Sp := fun a b => decidable_of_iff (a.lo = b.lo ∧ a.hi = b.hi) (by cases a; cases b; simp)
def sp0 : Sp := ⟨[], []⟩
def gapB (s t : Sp) : Bool := !s.hi.isEmpty && blt s.hi t.lo
theorem q7q {s t : Sp} : gapB s t = true ↔ gapS s t := by
 unfold gapB gapS
 rw [Bool.and_eq_true, Bool.not_eq_true', List.isEmpty_eq_false_iff]
def q2G : List Sp → Bool
 | [] => true
 | [s] => q0e s
 | s :: t :: l => q0e s && gapB s t && q2G (t :: l)
theorem q6g : ∀ {l : List Sp}, q2G l = true ↔ q0B l
 | [] => ⟨fun _ => trivial, fun _ => rfl⟩
 | [s] => by
  show q0e s = true ↔ _
  exact ⟨fun h => ⟨h, (fun _ ht => by cases ht), trivial⟩, fun h => h.1⟩
 | s :: t :: l => by
  show (q0e s && gapB s t && q2G (t :: l)) = true ↔ _
  rw [Bool.and_eq_true, Bool.and_eq_true, q7q, q6g]
  constructor
  ·rintro ⟨⟨h1, h2⟩, h3⟩
   refine ⟨h1, fun x hx => ?_, h3⟩
   rcases List.mem_cons.1 hx with rfl | hx
   ·exact h2
   ·exact q64 h3.1 h2 (h3.2.1 x hx)
  ·rintro ⟨h1, h2, h3⟩
   exact ⟨⟨h1, h2 t (List.mem_cons_self ..)⟩, h3⟩
theorem q7A : ∀ {l : List Sp}, q2G l = true → ∀ (j : Nat) (h : j < l.length), q0e (l[j]'h) = true ∧ ∀ (i : Nat) (hi : i + 1 = j), gapB (l[i]'(by omega)) (l[j]'h) = true
 | [s], h, 0, _ => ⟨h, fun i hi => by omega⟩
 | s :: t :: l, h, j, hj => by
  have h' : (q0e s && gapB s t && q2G (t :: l)) = true := h
  rw [Bool.and_eq_true, Bool.and_eq_true] at h'
  cases j with
  | zero => exact ⟨h'.1.1, fun i hi => by omega⟩
  | succ j =>
   obtain ⟨k1, k2⟩ := q7A h'.2 j (by simpa using hj)
   refine ⟨k1, fun i hi => ?_⟩
   cases i with
   | zero =>
    obtain rfl : j = 0 := by omega
    exact h'.1.2
   | succ i => exact k2 i (by omega)
theorem qaG : ∀ {l : List Sp}, (∀ (j : Nat) (h : j < l.length), q0e (l[j]'h) = true) → (∀ (j : Nat) (h : j + 1 < l.length), gapB (l[j]'(by omega)) (l[j + 1]'h) = true) → q2G l = true
 | [], _, _ => rfl
 | [s], h, _ => h 0 (by simp)
 | s :: t :: l, h, g => by
  show (q0e s && gapB s t && q2G (t :: l)) = true
  rw [Bool.and_eq_true, Bool.and_eq_true]
  exact ⟨⟨h 0 (by simp), g 0 (by simp)⟩, qaG (fun j hj => h (j + 1) (by simpa using hj)) (fun j hj => g (j + 1) (by simpa using hj))⟩
def q6U (l : List Sp) (j : Nat) : Prop := (∀ (i : Nat) (h : i < l.length), i < j → q0e (l[i]'h) = true) ∧ (∀ (i : Nat) (h : i + 1 < l.length), i + 1 < j → gapB (l[i]'(by omega)) (l[i + 1]'h) = true)
theorem q8x (l : List Sp) : q6U l 0 := ⟨fun i _ h => by omega, fun i _ h => by omega⟩
theorem qaw {l : List Sp} (h : q6U l l.length) : q2G l = true := qaG (fun j hj => h.1 j hj hj) (fun j hj => h.2 j hj hj)
theorem q8w {l : List Sp} {j : Nat} (h : q6U l j) (hj : j < l.length) (h1 : q0e (l[j]'hj) = true) (h2 : ∀ i (hi : i + 1 = j), gapB (l[i]'(by omega)) (l[j]'hj) = true) : q6U l (j + 1) := by
 refine ⟨fun i hi hlt => ?_, fun i hi hlt => ?_⟩
 ·by_cases e : i = j
  ·subst e; exact h1
  ·exact h.1 i hi (by omega)
 ·by_cases e : i + 1 = j
  ·subst e; exact h2 i rfl
  ·exact h.2 i hi (by omega)
theorem q7X {l : List Sp} {j : Nat} (hj : j < l.length) (h : q0e (l[j]'hj) = false) : q2G l = false := by
 cases hn : q2G l
 ·rfl
 ·rw [(q7A hn j hj).1] at h
  cases h
theorem qc0 {l : List Sp} {i j : Nat} (hi : i + 1 = j) (hj : j < l.length) (h : gapB (l[i]'(by omega)) (l[j]'hj) = false) : q2G l = false := by
 cases hn : q2G l
 ·rfl
 ·rw [(q7A hn j hj).2 i hi] at h
  cases h
def q1Y (a b : List Sp) : Bool := a.any fun x => b.any fun y => q2t x y
theorem q8G (a b : List Sp) : q1Y a b = true ↔ ∃ k, inP a k = true ∧ inP b k = true := by
 unfold q1Y
 rw [List.any_eq_true]
 constructor
 ·rintro ⟨x, hx, h⟩
  obtain ⟨y, hy, h⟩ := List.any_eq_true.1 h
  obtain ⟨k, h1, h2⟩ := (q6c x y).1 h
  exact ⟨k, q1i.2 ⟨x, hx, h1⟩, q1i.2 ⟨y, hy, h2⟩⟩
 ·rintro ⟨k, h1, h2⟩
  obtain ⟨x, hx, h1⟩ := q1i.1 h1
  obtain ⟨y, hy, h2⟩ := q1i.1 h2
  exact ⟨x, hx, List.any_eq_true.2 ⟨y, hy, (q6c x y).2 ⟨k, h1, h2⟩⟩⟩
theorem qd9 {a b a' b' : List Sp} (ha : ∀ k, inP a k = inP a' k) (hb : ∀ k, inP b k = inP b' k) : q1Y a b = q1Y a' b' := by
 rw [Bool.eq_iff_iff, q8G, q8G]
 simp only [ha, hb]
theorem qd8 (a b : List Sp) : q1Y (q09 a) (q09 b) = q1Y a b := qd9 (q3y a) (q3y b)
theorem q71 {a b : List Sp} (h : ∀ x ∈ a, ∀ y ∈ b, q2t x y = false) : q1Y a b = false := by
 cases hm : q1Y a b
 ·rfl
 ·unfold q1Y at hm
  rw [List.any_eq_true] at hm
  obtain ⟨x, hx, hm⟩ := hm
  obtain ⟨y, hy, hm⟩ := List.any_eq_true.1 hm
  rw [h x hx y hy] at hm
  cases hm
theorem qda {a b : List Sp} {x y : Sp} (hx : x ∈ a) (hy : y ∈ b) (h : q2t x y = true) : q1Y a b = true := by
 unfold q1Y
 rw [List.any_eq_true]
 exact ⟨x, hx, List.any_eq_true.2 ⟨y, hy, h⟩⟩
theorem q3Q (a b : Sp) : q2t a b = (q0e a && q0e b && endS b.hi a.lo && endS a.hi b.lo) := by
 rw [Bool.eq_iff_iff, q6c, Bool.and_eq_true, Bool.and_eq_true, Bool.and_eq_true]
 constructor
 ·rintro ⟨k, h1, h2⟩
  obtain ⟨a1, a2⟩ := q0w.1 h1
  obtain ⟨b1, b2⟩ := q0w.1 h2
  exact ⟨⟨⟨q1o a2 a1, q1o b2 b1⟩, q1o b2 a1⟩, q1o a2 b1⟩
 ·rintro ⟨⟨⟨h1, h2⟩, h3⟩, h4⟩
  by_cases hl : blo a.lo b.lo = true
  ·exact ⟨b.lo, q0w.2 ⟨hl, h4⟩, q0w.2 ⟨q1n _, h2⟩⟩
  ·exact ⟨a.lo, q0w.2 ⟨q1n _, h1⟩, q0w.2 ⟨q1Z (q4d hl), h3⟩⟩
theorem qdf {l : List Sp} (h : q0B l) {i j : Nat} (hij : i < j) (hj : j < l.length) : gapS (l[i]'(by omega)) (l[j]'hj) := by
 induction l generalizing i j with
 | nil => exact absurd hj (by simp)
 | cons s l ih =>
  cases j with
  | zero => omega
  | succ j =>
   have hj' : j < l.length := by simpa using hj
   cases i with
   | zero => exact h.2.1 _ (List.getElem_mem hj')
   | succ i => exact ih h.2.2 (by omega) hj'
def q3W (a b : List Sp) (i n : Nat) : Prop := (∀ (p : Nat) (hp : p < a.length) (q : Nat) (hq : q < b.length), p < i → q2t (a[p]'hp) (b[q]'hq) = false) ∧ (∀ (p : Nat) (hp : p < a.length) (q : Nat) (hq : q < b.length), q < n → q2t (a[p]'hp) (b[q]'hq) = false)
theorem qcx (a b : List Sp) : q3W a b 0 0 := ⟨fun _ _ _ _ h => by omega, fun _ _ _ _ h => by omega⟩
theorem qfY {a b : List Sp} {i n : Nat} (hi : a.length ≤ i) (h : q3W a b i n) : q1Y a b = false := q71 fun x hx y hy => by
 obtain ⟨p, hp, rfl⟩ := List.getElem_of_mem hx
 obtain ⟨q, hq, rfl⟩ := List.getElem_of_mem hy
 exact h.1 p hp q hq (by omega)
theorem qfZ {a b : List Sp} {i n : Nat} (hn : b.length ≤ n) (h : q3W a b i n) : q1Y a b = false := q71 fun x hx y hy => by
 obtain ⟨p, hp, rfl⟩ := List.getElem_of_mem hx
 obtain ⟨q, hq, rfl⟩ := List.getElem_of_mem hy
 exact h.2 p hp q hq (by omega)
theorem q9U {x y : Sp} (h : endS x.hi y.lo = false) : q2t x y = false := by
 rw [q3Q, h, Bool.and_false]
theorem q8J {x y : Sp} (h : endS y.hi x.lo = false) : q2t x y = false := by
 rw [q3Q, h, Bool.and_false, Bool.false_and]
theorem qcy {hi k j : List UInt8} (h : endS hi k = false) (hj : blo k j = true) : endS hi j = false := by
 cases he : endS hi j
 ·rfl
 ·rw [q1o he hj] at h
  cases h
theorem q9G {a b : List Sp} (hb : q0B b) {i n : Nat} (h : q3W a b i n) (hi : i < a.length) (hn : n < b.length) (he : endS (a[i]'hi).hi (b[n]'hn).lo = false) : q3W a b (i + 1) n := by
 refine ⟨fun p hp q hq hlt => ?_, h.2⟩
 by_cases e : p = i
 ·subst e
  by_cases hqn : q < n
  ·exact h.2 p hp q hq hqn
  ·refine q9U (qcy he ?_)
   by_cases e2 : n = q
   ·subst e2; exact q1n _
   ·exact q1Z (q4r (q2y hb _ (List.getElem_mem hn)) (qdf hb (by omega) hq))
 ·exact h.1 p hp q hq (by omega)
theorem q9H {a b : List Sp} (ha : q0B a) (hb : q0B b) {i n : Nat} (h : q3W a b i n) (hi : i < a.length) (hn : n < b.length) (he : endS (a[i]'hi).hi (b[n]'hn).lo = true) (hm : q2t (a[i]'hi) (b[n]'hn) = false) : q3W a b i (n + 1) := by
 refine ⟨h.1, fun p hp q hq hlt => ?_⟩
 by_cases e : q = n
 ·subst e
  by_cases hpi : p < i
  ·exact h.1 p hp q hq hpi
  ·have h1 := q2y ha _ (List.getElem_mem hi)
   have h2 := q2y hb _ (List.getElem_mem hn)
   rw [q3Q, h1, h2, he] at hm
   have h3 : endS (b[q]'hq).hi (a[i]'hi).lo = false := by simpa using hm
   refine q8J (qcy h3 ?_)
   by_cases e2 : i = p
   ·subst e2; exact q1n _
   ·exact q1Z (q4r h1 (qdf ha (by omega) hp))
 ·exact h.2 p hp q hq (by omega)
def q2E (a b : List UInt8) : List UInt8 := if a ≠ [] ∧ endS b a = true then b else a
theorem q8E (a b k : List UInt8) : endS (q2E a b) k = (endS a k || endS b k) := by
 rw [Bool.eq_iff_iff, Bool.or_eq_true]
 unfold q2E
 split
 ·next h =>
  refine ⟨.inr, fun g => g.elim (fun g => ?_) id⟩
  rcases q0A.1 g with g | g
  ·exact absurd g h.1
  ·exact q1o h.2 (q1Z g)
 ·next h =>
  refine ⟨.inl, fun g => g.elim id fun g => ?_⟩
  by_cases ha : a = []
  ·exact q0A.2 (.inl ha)
  ·have hb : ¬ endS b a = true := fun e => h ⟨ha, e⟩
   have hb2 : endS b a = false := by simpa using hb
   cases hk : blo a k
   ·exact q0A.2 (.inr (q4d (by rw [hk]; simp)))
   ·rw [qcy hb2 hk] at g
    cases g
def q4e (out : List Sp) (s : Sp) : List Sp :=
 match out.getLast? with
 | none => [s]
 | some t => if gapB t s = true then out ++ [s] else out.dropLast ++ [⟨t.lo, q2E t.hi s.hi⟩]
theorem qdD (s : Sp) : q4e [] s = [s] := rfl
theorem q4Y (o : List Sp) (t s : Sp) : q4e (o ++ [t]) s = if gapB t s = true then o ++ [t] ++ [s] else o ++ [⟨t.lo, q2E t.hi s.hi⟩] := by
 unfold q4e
 rw [List.getLast?_concat, List.dropLast_concat]
theorem q73 : ∀ {a b : List Sp}, q0B (a ++ b) → q0B a ∧ q0B b ∧ ∀ x ∈ a, ∀ y ∈ b, gapS x y
 | [], _, h => ⟨trivial, h, fun _ hx => by cases hx⟩
 | x :: a, b, h => by
  obtain ⟨h1, h2, h3⟩ := q73 (a := a) h.2.2
  refine ⟨⟨h.1, fun t ht => h.2.1 t (List.mem_append_left _ ht), h1⟩, h2, fun y hy z hz => ?_⟩
  rcases List.mem_cons.1 hy with rfl | hy
  ·exact h.2.1 z (List.mem_append_right _ hz)
  ·exact h3 y hy z hz
theorem q66 (a b : List Sp) (k : List UInt8) : inP (a ++ b) k = (inP a k || inP b k) := by simp [inP]
theorem qay (s : Sp) (k : List UInt8) : inP [s] k = hasS s k := by simp [inP]
theorem qdH {out : List Sp} {s : Sp} (hn : q0B out) (hs : q0e s = true) (hle : ∀ x ∈ out, blo x.lo s.lo = true) : q0B (q4e out s) ∧ (∀ k, inP (q4e out s) k = (inP out k || hasS s k)) ∧ ∀ x ∈ q4e out s, blo x.lo s.lo = true := by
 rcases List.eq_nil_or_concat out with rfl | ⟨o, t, rfl⟩
 ·rw [qdD]
  refine ⟨⟨hs, (fun _ h => by cases h), trivial⟩, fun k => by rw [qay]; simp [inP], fun x hx => ?_⟩
  rw [List.mem_singleton] at hx
  rw [hx]
  exact q1n _
 ·rw [List.concat_eq_append] at hn hle ⊢
  rw [q4Y]
  obtain ⟨n1, n2, n3⟩ := q73 hn
  have ht := n2.1
  have hlt := hle t (List.mem_append_right _ (List.mem_singleton.2 rfl))
  by_cases hg : gapB t s = true
  ·rw [if_pos hg]
   have hg' := q7q.1 hg
   refine ⟨q3h hn ⟨hs, (fun _ h => by cases h), trivial⟩ fun x hx y hy => ?_, fun k => by rw [q66 _ [s], qay], fun x hx => ?_⟩
   ·rw [List.mem_singleton] at hy
    subst hy
    rcases List.mem_append.1 hx with hx | hx
    ·exact q64 ht (n3 x hx t (List.mem_singleton.2 rfl)) hg'
    ·rw [List.mem_singleton] at hx
     subst hx
     exact hg'
   ·rcases List.mem_append.1 hx with hx | hx
    ·exact hle x hx
    ·rw [List.mem_singleton] at hx
     rw [hx]
     exact q1n _
  ·rw [if_neg hg]
   have hr : q0e ⟨t.lo, q2E t.hi s.hi⟩ = true := by
    show endS (q2E t.hi s.hi) t.lo = true
    rw [q8E, Bool.or_eq_true]
    exact .inl ht
   refine ⟨q3h n1 ⟨hr, (fun _ h => by cases h), trivial⟩ fun x hx y hy => ?_, fun k => ?_, fun x hx => ?_⟩
   ·rw [List.mem_singleton] at hy
    subst hy
    have := n3 x hx t (List.mem_singleton.2 rfl)
    exact ⟨this.1, this.2⟩
   ·rw [q66, q66, qay, qay, Bool.or_assoc]
    congr 1
    rw [Bool.eq_iff_iff, Bool.or_eq_true, q0w, q0w, q0w]
    show blo t.lo k = true ∧ endS (q2E t.hi s.hi) k = true ↔ _
    rw [q8E, Bool.or_eq_true]
    constructor
    ·rintro ⟨h1, h2⟩
     by_cases he : endS t.hi k = true
     ·exact .inl ⟨h1, he⟩
     ·have h3 := h2.resolve_left he
      refine .inr ⟨?_, h3⟩
      have hne : t.hi ≠ [] := fun e => he (q0A.2 (.inl e))
      have hle2 : blo s.lo t.hi = true := by
       cases hb : blt t.hi s.lo
       ·simp [blo, hb]
       ·exact absurd (q7q.2 ⟨hne, hb⟩) hg
      have hk : blo t.hi k = true := by
       cases hb : blo t.hi k
       ·exact absurd (q0A.2 (.inr (q4d (by rw [hb]; simp)))) he
       ·rfl
      exact q1d hle2 hk
    ·rintro (⟨h1, h2⟩ | ⟨h1, h2⟩)
     ·exact ⟨h1, .inl h2⟩
     ·exact ⟨q1d hlt h1, .inr h2⟩
   ·rcases List.mem_append.1 hx with hx | hx
    ·exact hle x (List.mem_append_left _ hx)
    ·rw [List.mem_singleton] at hx
     rw [hx]
     exact hlt
def q74 (l : List Sp) : Prop := l.Pairwise fun a b => blo a.lo b.lo = true
theorem q8s : ∀ (l out : List Sp), q0B out → (∀ s ∈ l, q0e s = true) → q74 l → (∀ x ∈ out, ∀ s ∈ l, blo x.lo s.lo = true) → q0B (l.foldl q4e out) ∧ ∀ k, inP (l.foldl q4e out) k = (inP out k || inP l k)
 | [], out, h, _, _, _ => ⟨h, fun k => by simp [inP]⟩
 | s :: l, out, h, hr, hs, hle => by
  obtain ⟨h1, h2, h3⟩ := qdH h (hr s (List.mem_cons_self ..)) fun x hx => hle x hx s (List.mem_cons_self ..)
  obtain ⟨k1, k2⟩ := q8s l (q4e out s) h1 (fun x hx => hr x (List.mem_cons_of_mem _ hx)) (List.pairwise_cons.1 hs).2 fun x hx y hy => q1d (h3 x hx) ((List.pairwise_cons.1 hs).1 y hy)
  refine ⟨k1, fun k => ?_⟩
  rw [List.foldl_cons, k2, h2, Bool.or_assoc]
  congr 1
theorem qdR {l m : List Sp} (hm : ∀ s, s ∈ m ↔ s ∈ l ∧ q0e s = true) (hr : q74 m) : m.foldl q4e [] = q09 l := by
 obtain ⟨h1, h2⟩ := q8s m [] trivial (fun s hs => ((hm s).1 hs).2) hr fun _ hx => by cases hx
 refine q48 h1 fun k => ?_
 rw [h2, show inP [] k = false from rfl, Bool.false_or, Bool.eq_iff_iff, q1i, q1i]
 constructor
 ·rintro ⟨s, hs, hk⟩
  exact ⟨s, ((hm s).1 hs).1, hk⟩
 ·rintro ⟨s, hs, hk⟩
  refine ⟨s, (hm s).2 ⟨hs, ?_⟩, hk⟩
  cases h : q0e s
  ·rw [qf1 h] at hk
   cases hk
  ·rfl
theorem fit_drop (n : Nat) : ∀ (m : Nat) (l : List Sp) (hm : m + 1 ≤ l.length), l.length = max n 1 + m → fitS n l = ⟨(l[0]'(by omega)).lo, (l[m]'(by omega)).hi⟩ :: l.drop (m + 1)
 | 0, l, hm, he => by
  match l, hm with
  | a :: l, _ =>
   rw [qcF (by omega)]
   rfl
 | m + 1, l, hm, he => by
  match l, hm with
  | a :: b :: l, _ =>
   unfold fitS
   rw [if_pos (by omega)]
   have ih := fit_drop n m (⟨a.lo, b.hi⟩ :: l) (by simp at he ⊢; omega) (by simp at he ⊢; omega)
   rw [ih]
   cases m with
   | zero => rfl
   | succ m => rfl
theorem q1p (l : List Sp) : (q09 l).length ≤ l.length := by
 have key : ∀ (l out : List Sp), q0B out → (l.foldl (fun out s => if q0e s = true then q5h out s else out) out).length ≤ out.length + l.length := by
  intro l
  induction l with
  | nil => intro out _; simp
  | cons s l ih =>
   intro out hn
   rw [List.foldl_cons]
   by_cases hs : q0e s = true
   ·rw [if_pos hs]
    have h1 := ih (q5h out s) (qaK hn hs)
    have h2 : (q5h out s).length ≤ out.length + 1 := by
     unfold q5h
     rw [List.length_append, List.length_cons]
     generalize q2g out s = g
     have : ∀ q : List Sp, (q.filter fun x => !q0P x g && blt x.lo g.lo).length + (q.filter fun x => !q0P x g && blt g.lo x.lo).length ≤ q.length := by
      intro q
      induction q with
      | nil => simp
      | cons x q ih =>
       rw [List.filter_cons, List.filter_cons]
       cases h1 : blt x.lo g.lo
       ·split <;> split <;> simp_all <;> omega
       ·have h2 := q1e h1
        split <;> split <;> simp_all <;> omega
     have := this out
     omega
    rw [List.length_cons]
    omega
   ·rw [if_neg hs]
    have h1 := ih out hn
    rw [List.length_cons]
    omega
 have := key l [] trivial
 simpa [q09] using this
end Go.Proofs.YtdpbllacfljmoaaGreat
