import Derived.Test.YtdpbllacfljmoaaGreatZF04
set_option maxRecDepth 100000
set_option maxHeartbeats 16000000
set_option linter.unusedVariables false
namespace Go.Proofs.YtdpbllacfljmoaaGreat
def q0R (a b : Sp) : Bool := (a.hi.isEmpty || blo b.lo a.hi) && (b.hi.isEmpty || blo a.lo b.hi)
def q3s (a b : Sp) : Sp := ⟨minS a.lo b.lo, if a.hi = [] ∨ b.hi = [] then [] else maxS a.hi b.hi⟩
theorem q4R {a b : Sp} : q0R a b = true ↔ (a.hi = [] ∨ blo b.lo a.hi = true) ∧ (b.hi = [] ∨ blo a.lo b.hi = true) := by
 unfold q0R
 rw [Bool.and_eq_true, Bool.or_eq_true, Bool.or_eq_true, List.isEmpty_iff, List.isEmpty_iff]
theorem q6x {a b : Sp} (h : q0R a b = false) : gapS a b ∨ gapS b a := by
 by_cases h1 : a.hi = [] ∨ blo b.lo a.hi = true
 ·by_cases h2 : b.hi = [] ∨ blo a.lo b.hi = true
  ·rw [q4R.2 ⟨h1, h2⟩] at h
   cases h
  ·right
   exact ⟨fun e => h2 (.inl e), q4k fun e => h2 (.inr e)⟩
 ·left
  exact ⟨fun e => h1 (.inl e), q4k fun e => h1 (.inr e)⟩
theorem q8M {a b : Sp} (h : gapS a b) : q0R a b = false := by
 cases ht : q0R a b
 ·rfl
 ·rcases (q4R.1 ht).1 with g | g
  ·exact absurd g h.1
  ·have := q5t h.2 g
   rw [q0V] at this
   cases this
theorem qck (a b : Sp) : q0R a b = q0R b a := by
 unfold q0R
 exact Bool.and_comm _ _
theorem qdI {a b k : List UInt8} : blo (minS a b) k = true ↔ blo a k = true ∨ blo b k = true := by
 unfold minS
 split
 ·next h => exact ⟨fun g => .inl g, fun g => g.elim id fun g => q1i (q29 h) g⟩
 ·next h =>
  have hba : blo b a = true := by simp [blo, h]
  exact ⟨fun g => .inr g, fun g => g.elim (fun g => q1i hba g) id⟩
theorem qgL {a b k : List UInt8} : blt k (maxS a b) = true ↔ blt k a = true ∨ blt k b = true := by
 unfold maxS
 split
 ·next h => exact ⟨fun g => .inr g, fun g => g.elim (fun g => q0p g h) id⟩
 ·next h =>
  have hba : blo b a = true := by simp [blo, h]
  exact ⟨fun g => .inl g, fun g => g.elim id fun g => q5t g hba⟩
theorem qgO {a b : List UInt8} (ha : a ≠ []) (hb : b ≠ []) : maxS a b ≠ [] := by
 unfold maxS
 split
 ·exact hb
 ·exact ha
theorem q5Y (a b : Sp) (k : List UInt8) : endS (q3s a b).hi k = (endS a.hi k || endS b.hi k) := by
 rw [Bool.eq_iff_iff, Bool.or_eq_true, q0B, q0B, q0B]
 show (if a.hi = [] ∨ b.hi = [] then [] else maxS a.hi b.hi) = [] ∨ blt k (if a.hi = [] ∨ b.hi = [] then [] else maxS a.hi b.hi) = true ↔ _
 by_cases h : a.hi = [] ∨ b.hi = []
 ·rw [if_pos h]
  simp only [true_or, true_iff]
  rcases h with h | h
  ·exact .inl (.inl h)
  ·exact .inr (.inl h)
 ·rw [if_neg h, qgL]
  have ha : a.hi ≠ [] := fun e => h (.inl e)
  have hb : b.hi ≠ [] := fun e => h (.inr e)
  have hm := qgO ha hb
  simp only [hm, ha, hb, false_or]
theorem q3h {a b : Sp} (ha : q0f a = true) : q0f (q3s a b) = true := by
 unfold q0f
 rw [q5Y, Bool.or_eq_true]
 exact .inl (q1t ha (qdI.2 (.inl (q1s _))))
theorem q5Z {a b : Sp} (h : q0R a b = true) (k : List UInt8) : hasS (q3s a b) k = (hasS a k || hasS b k) := by
 obtain ⟨t1, t2⟩ := q4R.1 h
 rw [Bool.eq_iff_iff, Bool.or_eq_true, q0x, q0x, q0x, q5Y, Bool.or_eq_true]
 show blo (minS a.lo b.lo) k = true ∧ _ ↔ _
 rw [qdI]
 constructor
 ·rintro ⟨h1, h2⟩
  by_cases ea : endS a.hi k = true
  ·by_cases la : blo a.lo k = true
   ·exact .inl ⟨la, ea⟩
   ·have lb : blo b.lo k = true := h1.resolve_left la
    have : endS b.hi k = true := by
     rcases t2 with g | g
     ·exact q0B.2 (.inl g)
     ·exact q0B.2 (.inr (q5t (q4k la) g))
    exact .inr ⟨lb, this⟩
  ·have eb := h2.resolve_left ea
   by_cases lb : blo b.lo k = true
   ·exact .inr ⟨lb, eb⟩
   ·have : endS a.hi k = true := by
     rcases t1 with g | g
     ·exact q0B.2 (.inl g)
     ·exact q0B.2 (.inr (q5t (q4k lb) g))
    exact absurd this ea
 ·rintro (⟨h1, h2⟩ | ⟨h1, h2⟩)
  ·exact ⟨.inl h1, .inl h2⟩
  ·exact ⟨.inr h1, .inr h2⟩
def q2o (l : List Sp) (s : Sp) : Sp := l.foldl (fun s x => if q0R x s = true then q3s x s else s) s
def q5w (l : List Sp) (s : Sp) : List Sp :=
 (l.filter fun x => !q0R x (q2o l s) && blt x.lo (q2o l s).lo) ++ q2o l s :: l.filter fun x => !q0R x (q2o l s) && blt (q2o l s).lo x.lo
theorem q3S : ∀ (l : List Sp) {s : Sp}, q0f s = true → q0f (q2o l s) = true
 | [], _, h => h
 | x :: l, s, h => by
  show q0f (q2o l (if q0R x s = true then q3s x s else s)) = true
  split
  ·refine q3S l ?_
   unfold q0f
   rw [q5Y, Bool.or_eq_true]
   exact .inr (q1t h (qdI.2 (.inr (q1s _))))
  ·exact q3S l h
theorem qa8 : ∀ (l : List Sp) {s : Sp}, q0D l → q0f s = true → ∀ k, (hasS (q2o l s) k || inP l k) = (hasS s k || inP l k)
 | [], _, _, _, _ => rfl
 | x :: l, s, hn, hs, k => by
  have c : inP (x :: l) k = (hasS x k || inP l k) := by simp [inP]
  show (hasS (q2o l (if q0R x s = true then q3s x s else s)) k || _) = _
  rw [c]
  by_cases ht : q0R x s = true
  ·rw [if_pos ht]
   have hr : q0f (q3s x s) = true := q3h hn.1
   have ih := qa8 l hn.2.2 hr k
   rw [q5Z ht] at ih
   cases h1 : hasS (q2o l (q3s x s)) k <;> cases h2 : hasS x k <;> cases h3 : hasS s k <;> cases h4 : inP l k <;> simp_all
  ·rw [if_neg ht]
   have ih := qa8 l hn.2.2 hs k
   cases h1 : hasS (q2o l s) k <;> cases h2 : hasS x k <;> cases h3 : hasS s k <;> cases h4 : inP l k <;> simp_all
theorem q7K : ∀ (l : List Sp) {s : Sp} (k : List UInt8), hasS s k = true → q0f s = true → q0D l → hasS (q2o l s) k = true
 | [], _, _, h, _, _ => h
 | x :: l, s, k, h, hs, hn => by
  show hasS (q2o l (if q0R x s = true then q3s x s else s)) k = true
  by_cases ht : q0R x s = true
  ·rw [if_pos ht]
   refine q7K l k ?_ (q3h hn.1) hn.2.2
   rw [q5Z ht, h, Bool.or_true]
  ·rw [if_neg ht]
   exact q7K l k h hs hn.2.2
theorem qdg : ∀ (l : List Sp) {s : Sp} {k : List UInt8}, blt k s.lo = true → (∀ x ∈ l, blt k x.lo = true) → blt k (q2o l s).lo = true
 | [], _, _, h, _ => h
 | x :: l, s, k, h, hl => by
  show blt k (q2o l (if q0R x s = true then q3s x s else s)).lo = true
  refine qdg l ?_ fun y hy => hl y (List.mem_cons_of_mem _ hy)
  split
  ·show blt k (minS x.lo s.lo) = true
   unfold minS
   split
   ·exact hl x (List.mem_cons_self ..)
   ·exact h
  ·exact h
theorem q8O : ∀ (l : List Sp) {s : Sp}, (∀ x ∈ l, gapS s x) → q2o l s = s
 | [], _, _ => rfl
 | x :: l, s, h => by
  show q2o l (if q0R x s = true then q3s x s else s) = s
  rw [qck, q8M (h x (List.mem_cons_self ..)), if_neg (by simp)]
  exact q8O l fun y hy => h y (List.mem_cons_of_mem _ hy)
theorem qdh {a b : Sp} {k : List UInt8} (ha : hasS a k = true) (hb : hasS b k = true) : q0R a b = true := by
 obtain ⟨a1, a2⟩ := q0x.1 ha
 obtain ⟨b1, b2⟩ := q0x.1 hb
 refine q4R.2 ⟨?_, ?_⟩
 ·rcases q0B.1 a2 with g | g
  ·exact .inl g
  ·exact .inr (q29 (qaH b1 g))
 ·rcases q0B.1 b2 with g | g
  ·exact .inl g
  ·exact .inr (q29 (qaH a1 g))
theorem q6k : ∀ (l : List Sp) {s : Sp}, q0D l → q0f s = true → ∀ x ∈ l, q0R x (q2o l s) = true → ∀ k, hasS x k = true → hasS (q2o l s) k = true
 | [], _, _, _, _, hx, _, _, _ => by cases hx
 | y :: l, s, hn, hs, x, hx, ht, k, hk => by
  rw [show q2o (y :: l) s = q2o l (if q0R y s = true then q3s y s else s) from rfl] at ht ⊢
  by_cases hy : q0R y s = true
  ·rw [if_pos hy] at ht ⊢
   rcases List.mem_cons.1 hx with rfl | hx
   ·refine q7K l k ?_ (q3h hn.1) hn.2.2
    rw [q5Z hy, hk, Bool.true_or]
   ·exact q6k l hn.2.2 (q3h hn.1) x hx ht k hk
  ·rw [if_neg hy] at ht ⊢
   rcases List.mem_cons.1 hx with rfl | hx
   ·have hf : q0R x s = false := by simpa using hy
    rcases q6x hf with g | g
    ·have h1 : gapS x (q2o l s) := ⟨g.1, qdg l g.2 fun z hz => (hn.2.1 z hz).2⟩
     rw [q8M h1] at ht
     cases ht
    ·have h2 : q2o l s = s := q8O l fun z hz => ⟨g.1, q0p g.2 (q4z hn.1 (hn.2.1 z hz))⟩
     rw [h2, hf] at ht
     cases ht
   ·exact q6k l hn.2.2 hs x hx ht k hk
theorem q3l (p : Sp → Bool) : ∀ {l : List Sp}, q0D l → q0D (l.filter p)
 | [], _ => trivial
 | x :: l, h => by
  rw [List.filter_cons]
  split
  ·exact ⟨h.1, fun t ht => h.2.1 t (List.mem_filter.1 ht).1, q3l p h.2.2⟩
  ·exact q3l p h.2.2
theorem q3k : ∀ {a b : List Sp}, q0D a → q0D b → (∀ x ∈ a, ∀ y ∈ b, gapS x y) → q0D (a ++ b)
 | [], _, _, hb, _ => hb
 | x :: a, b, ha, hb, h => by
  refine ⟨ha.1, fun t ht => ?_, q3k ha.2.2 hb fun y hy => h y (List.mem_cons_of_mem _ hy)⟩
  rcases List.mem_append.1 ht with ht | ht
  ·exact ha.2.1 t ht
  ·exact h x (List.mem_cons_self ..) t ht
theorem q2D : ∀ {l : List Sp}, q0D l → ∀ x ∈ l, q0f x = true
 | x :: l, h, y, hy => by
  rcases List.mem_cons.1 hy with rfl | hy
  ·exact h.1
  ·exact q2D h.2.2 y hy
theorem q6j {a b c : Sp} (hb : q0f b = true) (h1 : gapS a b) (h2 : gapS b c) : gapS a c := ⟨h1.1, q0p h1.2 (q4z hb h2)⟩
theorem qb5 {l : List Sp} {s : Sp} (hl : q0D l) (hs : q0f s = true) : q0D (q5w l s) := by
 have hg := q3S l hs
 unfold q5w
 generalize q2o l s = g at *
 have before : ∀ x ∈ l, q0R x g = false → blt x.lo g.lo = true → gapS x g := fun x hx ht hlt => by
  rcases q6x ht with h | h
  ·exact h
  ·have := q0p hlt (q4z hg h)
   rw [q0V] at this
   cases this
 have behind : ∀ x ∈ l, q0R x g = false → blt g.lo x.lo = true → gapS g x := fun x hx ht hlt => by
  rcases q6x ht with h | h
  ·have := q0p hlt (q4z (q2D hl x hx) h)
   rw [q0V] at this
   cases this
  ·exact h
 refine q3k (q3l _ hl) ⟨hg, fun t ht => ?_, q3l _ hl⟩ fun x hx y hy => ?_
 ·obtain ⟨h1, h2⟩ := List.mem_filter.1 ht
  rw [Bool.and_eq_true, Bool.not_eq_true'] at h2
  exact behind t h1 h2.1 h2.2
 ·obtain ⟨h1, h2⟩ := List.mem_filter.1 hx
  rw [Bool.and_eq_true, Bool.not_eq_true'] at h2
  have hxg := before x h1 h2.1 h2.2
  rcases List.mem_cons.1 hy with rfl | hy
  ·exact hxg
  ·obtain ⟨h3, h4⟩ := List.mem_filter.1 hy
   rw [Bool.and_eq_true, Bool.not_eq_true'] at h4
   exact q6j hg hxg (behind y h3 h4.1 h4.2)
theorem qgR {l : List Sp} {s : Sp} (hl : q0D l) (hs : q0f s = true) (k : List UInt8) : inP (q5w l s) k = (inP l k || hasS s k) := by
 have h1 := qa8 l hl hs k
 have h2 := q6k l hl hs
 have hg := q3S l hs
 have h3 := fun h => q7K l (s := s) k h hs hl
 unfold q5w
 generalize q2o l s = g at *
 rw [Bool.eq_iff_iff, Bool.or_eq_true, q1m]
 constructor
 ·rintro ⟨x, hx, hk⟩
  rcases List.mem_append.1 hx with hx | hx
  ·exact .inl (q1m.2 ⟨x, (List.mem_filter.1 hx).1, hk⟩)
  ·rcases List.mem_cons.1 hx with rfl | hx
   ·rw [hk, Bool.true_or] at h1
    have h1 := h1.symm
    rw [Bool.or_eq_true] at h1
    exact h1.symm
   ·exact .inl (q1m.2 ⟨x, (List.mem_filter.1 hx).1, hk⟩)
 ·rintro (h | h)
  ·obtain ⟨x, hx, hk⟩ := q1m.1 h
   cases ht : q0R x g
   ·have hne : ¬ x.lo = g.lo := fun e => by
     have h4 := q7c (q2D hl x hx)
     have h5 := q7c hg
     rw [e] at h4
     rw [qdh h4 h5] at ht
     cases ht
    rcases q2c x.lo g.lo with q | q | q
    ·exact ⟨x, List.mem_append_left _ (List.mem_filter.2 ⟨hx, by rw [ht, q]; rfl⟩), hk⟩
    ·exact absurd q hne
    ·exact ⟨x, List.mem_append_right _ (List.mem_cons_of_mem _ (List.mem_filter.2 ⟨hx, by rw [ht, q]; rfl⟩)), hk⟩
   ·exact ⟨g, List.mem_append_right _ (List.mem_cons_self ..), h2 x hx ht k hk⟩
  ·exact ⟨g, List.mem_append_right _ (List.mem_cons_self ..), h3 h⟩
def q0a (l : List Sp) : List Sp := l.foldl (fun out s => if q0f s = true then q5w out s else out) []
theorem qfG {s : Sp} (h : q0f s = false) (k : List UInt8) : hasS s k = false := by
 cases hk : hasS s k
 ·rfl
 ·obtain ⟨h1, h2⟩ := q0x.1 hk
  have := q1t h2 h1
  rw [q0f, this] at h
  cases h
theorem q4A : ∀ (l out : List Sp), q0D out → q0D (l.foldl (fun out s => if q0f s = true then q5w out s else out) out) ∧ ∀ k, inP (l.foldl (fun out s => if q0f s = true then q5w out s else out) out) k = (inP out k || inP l k)
 | [], out, h => ⟨h, fun k => by simp [inP]⟩
 | s :: l, out, h => by
  rw [List.foldl_cons]
  have c : ∀ k, inP (s :: l) k = (hasS s k || inP l k) := fun k => by simp [inP]
  by_cases hs : q0f s = true
  ·rw [if_pos hs]
   obtain ⟨h1, h2⟩ := q4A l (q5w out s) (qb5 h hs)
   refine ⟨h1, fun k => ?_⟩
   rw [h2, qgR h hs, c, Bool.or_assoc]
  ·rw [if_neg hs]
   obtain ⟨h1, h2⟩ := q4A l out h
   refine ⟨h1, fun k => ?_⟩
   rw [h2, c, qfG (by simpa using hs), Bool.false_or]
theorem q1L (l : List Sp) : q0D (q0a l) := (q4A l [] trivial).1
theorem q3A (l : List Sp) (k : List UInt8) : inP (q0a l) k = inP l k := by
 rw [q0a, (q4A l [] trivial).2]
 simp [inP]
theorem q4f {l m : List Sp} (hm : q0D m) (h : ∀ k, inP m k = inP l k) : m = q0a l := qdN hm (q1L l) fun k => by rw [h, q3A]
def fitS : Nat → List Sp → List Sp
 | n, a :: b :: l => if max n 1 < (a :: b :: l).length then fitS n (⟨a.lo, b.hi⟩ :: l) else a :: b :: l
 | _, l => l
 termination_by _ l => l.length
theorem qd8 (n : Nat) : ∀ (m : Nat) (l : List Sp), l.length ≤ m → (fitS n l).length ≤ max n 1
 | _, [], _ => by unfold fitS; simp
 | _, [a], _ => by unfold fitS; simp; omega
 | 0, a :: b :: l, h => by simp at h
 | m + 1, a :: b :: l, h => by
  unfold fitS
  split
  ·exact qd8 n m _ (by simp at h ⊢; omega)
  ·omega
theorem qd7 {n : Nat} {l : List Sp} (h : l.length ≤ max n 1) : fitS n l = l := by
 match l, h with
 | [], _ => unfold fitS; rfl
 | [a], _ => unfold fitS; rfl
 | a :: b :: l, h =>
  unfold fitS
  rw [if_neg (by omega)]
theorem qdV {a b : Sp} {l : List Sp} (h : q0D (a :: b :: l)) : q0D (⟨a.lo, b.hi⟩ :: l) := by
 have hab := h.2.1 b (List.mem_cons_self ..)
 refine ⟨?_, fun t ht => h.2.2.2.1 t ht, h.2.2.2.2⟩
 show endS b.hi a.lo = true
 exact q1t h.2.2.1 (q29 (q4z h.1 hab))
theorem qgm {a b : Sp} {l : List Sp} (h : q0D (a :: b :: l)) {k : List UInt8} (hk : inP (a :: b :: l) k = true) : inP (⟨a.lo, b.hi⟩ :: l) k = true := by
 have hab := h.2.1 b (List.mem_cons_self ..)
 obtain ⟨x, hx, hh⟩ := q1m.1 hk
 obtain ⟨h1, h2⟩ := q0x.1 hh
 rcases List.mem_cons.1 hx with rfl | hx
 ·refine q1m.2 ⟨_, List.mem_cons_self .., q0x.2 ⟨h1, ?_⟩⟩
  rcases q0B.1 h2 with g | g
  ·exact absurd g hab.1
  ·exact q1t h.2.2.1 (q29 (q0p g hab.2))
 ·rcases List.mem_cons.1 hx with rfl | hx
  ·exact q1m.2 ⟨_, List.mem_cons_self .., q0x.2 ⟨q1i (q29 (q4z (s := a) h.1 hab)) h1, h2⟩⟩
  ·exact q1m.2 ⟨x, List.mem_cons_of_mem _ hx, hh⟩
theorem q7H (n : Nat) : ∀ (m : Nat) (l : List Sp), l.length ≤ m → q0D l → q0D (fitS n l) ∧ ∀ k, inP l k = true → inP (fitS n l) k = true
 | _, [], _, h => by unfold fitS; exact ⟨h, fun _ h => h⟩
 | _, [a], _, h => by unfold fitS; exact ⟨h, fun _ h => h⟩
 | 0, a :: b :: l, h, _ => by simp at h
 | m + 1, a :: b :: l, h, hn => by
  unfold fitS
  split
  ·obtain ⟨h1, h2⟩ := q7H n m (⟨a.lo, b.hi⟩ :: l) (by simp at h ⊢; omega) (qdV hn)
   exact ⟨h1, fun k hk => h2 k (qgm hn hk)⟩
  ·exact ⟨hn, fun _ h => h⟩
instance : DecidableEq Sp := fun a b => decidable_of_iff (a.lo = b.lo ∧ a.hi = b.hi) (by cases a; cases b; simp)
def sp0 : Sp := ⟨[], []⟩
def gapB (s t : Sp) : Bool := !s.hi.isEmpty && blt s.hi t.lo
theorem q7J {s t : Sp} : gapB s t = true ↔ gapS s t := by
 unfold gapB gapS
 rw [Bool.and_eq_true, Bool.not_eq_true', List.isEmpty_eq_false_iff]
def q3F : List Sp → Bool
 | [] => true
 | [s] => q0f s
 | s :: t :: l => q0f s && gapB s t && q3F (t :: l)
theorem q6w : ∀ {l : List Sp}, q3F l = true ↔ q0D l
 | [] => ⟨fun _ => trivial, fun _ => rfl⟩
 | [s] => by
  show q0f s = true ↔ _
  exact ⟨fun h => ⟨h, (fun _ ht => by cases ht), trivial⟩, fun h => h.1⟩
 | s :: t :: l => by
  show (q0f s && gapB s t && q3F (t :: l)) = true ↔ _
  rw [Bool.and_eq_true, Bool.and_eq_true, q7J, q6w]
  constructor
  ·rintro ⟨⟨h1, h2⟩, h3⟩
   refine ⟨h1, fun x hx => ?_, h3⟩
   rcases List.mem_cons.1 hx with rfl | hx
   ·exact h2
   ·exact q6j h3.1 h2 (h3.2.1 x hx)
  ·rintro ⟨h1, h2, h3⟩
   exact ⟨⟨h1, h2 t (List.mem_cons_self ..)⟩, h3⟩
theorem q7S : ∀ {l : List Sp}, q3F l = true → ∀ (j : Nat) (h : j < l.length), q0f (l[j]'h) = true ∧ ∀ (i : Nat) (hi : i + 1 = j), gapB (l[i]'(by omega)) (l[j]'h) = true
 | [s], h, 0, _ => ⟨h, fun i hi => by omega⟩
 | s :: t :: l, h, j, hj => by
  have h' : (q0f s && gapB s t && q3F (t :: l)) = true := h
  rw [Bool.and_eq_true, Bool.and_eq_true] at h'
  cases j with
  | zero => exact ⟨h'.1.1, fun i hi => by omega⟩
  | succ j =>
   obtain ⟨k1, k2⟩ := q7S h'.2 j (by simpa using hj)
   refine ⟨k1, fun i hi => ?_⟩
   cases i with
   | zero =>
    obtain rfl : j = 0 := by omega
    exact h'.1.2
   | succ i => exact k2 i (by omega)
theorem qb1 : ∀ {l : List Sp}, (∀ (j : Nat) (h : j < l.length), q0f (l[j]'h) = true) → (∀ (j : Nat) (h : j + 1 < l.length), gapB (l[j]'(by omega)) (l[j + 1]'h) = true) → q3F l = true
 | [], _, _ => rfl
 | [s], h, _ => h 0 (by simp)
 | s :: t :: l, h, g => by
  show (q0f s && gapB s t && q3F (t :: l)) = true
  rw [Bool.and_eq_true, Bool.and_eq_true]
  exact ⟨⟨h 0 (by simp), g 0 (by simp)⟩, qb1 (fun j hj => h (j + 1) (by simpa using hj)) (fun j hj => g (j + 1) (by simpa using hj))⟩
def q8N (l : List Sp) (j : Nat) : Prop := (∀ (i : Nat) (h : i < l.length), i < j → q0f (l[i]'h) = true) ∧ (∀ (i : Nat) (h : i + 1 < l.length), i + 1 < j → gapB (l[i]'(by omega)) (l[i + 1]'h) = true)
theorem qdf (l : List Sp) : q8N l 0 := ⟨fun i _ h => by omega, fun i _ h => by omega⟩
theorem qf2 {l : List Sp} (h : q8N l l.length) : q3F l = true := qb1 (fun j hj => h.1 j hj hj) (fun j hj => h.2 j hj hj)
theorem qde {l : List Sp} {j : Nat} (h : q8N l j) (hj : j < l.length) (h1 : q0f (l[j]'hj) = true) (h2 : ∀ i (hi : i + 1 = j), gapB (l[i]'(by omega)) (l[j]'hj) = true) : q8N l (j + 1) := by
 refine ⟨fun i hi hlt => ?_, fun i hi hlt => ?_⟩
 ·by_cases e : i = j
  ·subst e; exact h1
  ·exact h.1 i hi (by omega)
 ·by_cases e : i + 1 = j
  ·subst e; exact h2 i rfl
  ·exact h.2 i hi (by omega)
theorem qcq {l : List Sp} {j : Nat} (hj : j < l.length) (h : q0f (l[j]'hj) = false) : q3F l = false := by
 cases hn : q3F l
 ·rfl
 ·rw [(q7S hn j hj).1] at h
  cases h
theorem qfT {l : List Sp} {i j : Nat} (hi : i + 1 = j) (hj : j < l.length) (h : gapB (l[i]'(by omega)) (l[j]'hj) = false) : q3F l = false := by
 cases hn : q3F l
 ·rfl
 ·rw [(q7S hn j hj).2 i hi] at h
  cases h
def q28 (a b : List Sp) : Bool := a.any fun x => b.any fun y => q2y x y
theorem q8Z (a b : List Sp) : q28 a b = true ↔ ∃ k, inP a k = true ∧ inP b k = true := by
 unfold q28
 rw [List.any_eq_true]
 constructor
 ·rintro ⟨x, hx, h⟩
  obtain ⟨y, hy, h⟩ := List.any_eq_true.1 h
  obtain ⟨k, h1, h2⟩ := (q6s x y).1 h
  exact ⟨k, q1m.2 ⟨x, hx, h1⟩, q1m.2 ⟨y, hy, h2⟩⟩
 ·rintro ⟨k, h1, h2⟩
  obtain ⟨x, hx, h1⟩ := q1m.1 h1
  obtain ⟨y, hy, h2⟩ := q1m.1 h2
  exact ⟨x, hx, List.any_eq_true.2 ⟨y, hy, (q6s x y).2 ⟨k, h1, h2⟩⟩⟩
theorem qdG {a b a' b' : List Sp} (ha : ∀ k, inP a k = inP a' k) (hb : ∀ k, inP b k = inP b' k) : q28 a b = q28 a' b' := by
 rw [Bool.eq_iff_iff, q8Z, q8Z]
 simp only [ha, hb]
theorem qdF (a b : List Sp) : q28 (q0a a) (q0a b) = q28 a b := qdG (q3A a) (q3A b)
theorem q7j {a b : List Sp} (h : ∀ x ∈ a, ∀ y ∈ b, q2y x y = false) : q28 a b = false := by
 cases hm : q28 a b
 ·rfl
 ·unfold q28 at hm
  rw [List.any_eq_true] at hm
  obtain ⟨x, hx, hm⟩ := hm
  obtain ⟨y, hy, hm⟩ := List.any_eq_true.1 hm
  rw [h x hx y hy] at hm
  cases hm
theorem qdH {a b : List Sp} {x y : Sp} (hx : x ∈ a) (hy : y ∈ b) (h : q2y x y = true) : q28 a b = true := by
 unfold q28
 rw [List.any_eq_true]
 exact ⟨x, hx, List.any_eq_true.2 ⟨y, hy, h⟩⟩
theorem q3W (a b : Sp) : q2y a b = (q0f a && q0f b && endS b.hi a.lo && endS a.hi b.lo) := by
 rw [Bool.eq_iff_iff, q6s, Bool.and_eq_true, Bool.and_eq_true, Bool.and_eq_true]
 constructor
 ·rintro ⟨k, h1, h2⟩
  obtain ⟨a1, a2⟩ := q0x.1 h1
  obtain ⟨b1, b2⟩ := q0x.1 h2
  exact ⟨⟨⟨q1t a2 a1, q1t b2 b1⟩, q1t b2 a1⟩, q1t a2 b1⟩
 ·rintro ⟨⟨⟨h1, h2⟩, h3⟩, h4⟩
  by_cases hl : blo a.lo b.lo = true
  ·exact ⟨b.lo, q0x.2 ⟨hl, h4⟩, q0x.2 ⟨q1s _, h2⟩⟩
  ·exact ⟨a.lo, q0x.2 ⟨q1s _, h1⟩, q0x.2 ⟨q29 (q4k hl), h3⟩⟩
theorem qdM {l : List Sp} (h : q0D l) {i j : Nat} (hij : i < j) (hj : j < l.length) : gapS (l[i]'(by omega)) (l[j]'hj) := by
 induction l generalizing i j with
 | nil => exact absurd hj (by simp)
 | cons s l ih =>
  cases j with
  | zero => omega
  | succ j =>
   have hj' : j < l.length := by simpa using hj
   cases i with
   | zero => exact h.2.1 _ (List.getElem_mem hj')
   | succ i => exact ih h.2.2 (by omega) hj'
def q43 (a b : List Sp) (i n : Nat) : Prop := (∀ (p : Nat) (hp : p < a.length) (q : Nat) (hq : q < b.length), p < i → q2y (a[p]'hp) (b[q]'hq) = false) ∧ (∀ (p : Nat) (hp : p < a.length) (q : Nat) (hq : q < b.length), q < n → q2y (a[p]'hp) (b[q]'hq) = false)
theorem qcY (a b : List Sp) : q43 a b 0 0 := ⟨fun _ _ _ _ h => by omega, fun _ _ _ _ h => by omega⟩
theorem qgD {a b : List Sp} {i n : Nat} (hi : a.length ≤ i) (h : q43 a b i n) : q28 a b = false := q7j fun x hx y hy => by
 obtain ⟨p, hp, rfl⟩ := List.getElem_of_mem hx
 obtain ⟨q, hq, rfl⟩ := List.getElem_of_mem hy
 exact h.1 p hp q hq (by omega)
theorem qgE {a b : List Sp} {i n : Nat} (hn : b.length ≤ n) (h : q43 a b i n) : q28 a b = false := q7j fun x hx y hy => by
 obtain ⟨p, hp, rfl⟩ := List.getElem_of_mem hx
 obtain ⟨q, hq, rfl⟩ := List.getElem_of_mem hy
 exact h.2 p hp q hq (by omega)
theorem qah {x y : Sp} (h : endS x.hi y.lo = false) : q2y x y = false := by
 rw [q3W, h, Bool.and_false]
theorem q92 {x y : Sp} (h : endS y.hi x.lo = false) : q2y x y = false := by
 rw [q3W, h, Bool.and_false, Bool.false_and]
theorem qcZ {hi k j : List UInt8} (h : endS hi k = false) (hj : blo k j = true) : endS hi j = false := by
 cases he : endS hi j
 ·rfl
 ·rw [q1t he hj] at h
  cases h
theorem qa2 {a b : List Sp} (hb : q0D b) {i n : Nat} (h : q43 a b i n) (hi : i < a.length) (hn : n < b.length) (he : endS (a[i]'hi).hi (b[n]'hn).lo = false) : q43 a b (i + 1) n := by
 refine ⟨fun p hp q hq hlt => ?_, h.2⟩
 by_cases e : p = i
 ·subst e
  by_cases hqn : q < n
  ·exact h.2 p hp q hq hqn
  ·refine qah (qcZ he ?_)
   by_cases e2 : n = q
   ·subst e2; exact q1s _
   ·exact q29 (q4z (q2D hb _ (List.getElem_mem hn)) (qdM hb (by omega) hq))
 ·exact h.1 p hp q hq (by omega)
theorem qa3 {a b : List Sp} (ha : q0D a) (hb : q0D b) {i n : Nat} (h : q43 a b i n) (hi : i < a.length) (hn : n < b.length) (he : endS (a[i]'hi).hi (b[n]'hn).lo = true) (hm : q2y (a[i]'hi) (b[n]'hn) = false) : q43 a b i (n + 1) := by
 refine ⟨h.1, fun p hp q hq hlt => ?_⟩
 by_cases e : q = n
 ·subst e
  by_cases hpi : p < i
  ·exact h.1 p hp q hq hpi
  ·have h1 := q2D ha _ (List.getElem_mem hi)
   have h2 := q2D hb _ (List.getElem_mem hn)
   rw [q3W, h1, h2, he] at hm
   have h3 : endS (b[q]'hq).hi (a[i]'hi).lo = false := by simpa using hm
   refine q92 (qcZ h3 ?_)
   by_cases e2 : i = p
   ·subst e2; exact q1s _
   ·exact q29 (q4z h1 (qdM ha (by omega) hp))
 ·exact h.2 p hp q hq (by omega)
def q2K (a b : List UInt8) : List UInt8 := if a ≠ [] ∧ endS b a = true then b else a
theorem q8V (a b k : List UInt8) : endS (q2K a b) k = (endS a k || endS b k) := by
 rw [Bool.eq_iff_iff, Bool.or_eq_true]
 unfold q2K
 split
 ·next h =>
  refine ⟨.inr, fun g => g.elim (fun g => ?_) id⟩
  rcases q0B.1 g with g | g
  ·exact absurd g h.1
  ·exact q1t h.2 (q29 g)
 ·next h =>
  refine ⟨.inl, fun g => g.elim id fun g => ?_⟩
  by_cases ha : a = []
  ·exact q0B.2 (.inl ha)
  ·have hb : ¬ endS b a = true := fun e => h ⟨ha, e⟩
   have hb2 : endS b a = false := by simpa using hb
   cases hk : blo a k
   ·exact q0B.2 (.inr (q4k (by rw [hk]; simp)))
   ·rw [qcZ hb2 hk] at g
    cases g
def q4l (out : List Sp) (s : Sp) : List Sp :=
 match out.getLast? with
 | none => [s]
 | some t => if gapB t s = true then out ++ [s] else out.dropLast ++ [⟨t.lo, q2K t.hi s.hi⟩]
theorem qef (s : Sp) : q4l [] s = [s] := rfl
theorem q5c (o : List Sp) (t s : Sp) : q4l (o ++ [t]) s = if gapB t s = true then o ++ [t] ++ [s] else o ++ [⟨t.lo, q2K t.hi s.hi⟩] := by
 unfold q4l
 rw [List.getLast?_concat, List.dropLast_concat]
theorem q7l : ∀ {a b : List Sp}, q0D (a ++ b) → q0D a ∧ q0D b ∧ ∀ x ∈ a, ∀ y ∈ b, gapS x y
 | [], _, h => ⟨trivial, h, fun _ hx => by cases hx⟩
 | x :: a, b, h => by
  obtain ⟨h1, h2, h3⟩ := q7l (a := a) h.2.2
  refine ⟨⟨h.1, fun t ht => h.2.1 t (List.mem_append_left _ ht), h1⟩, h2, fun y hy z hz => ?_⟩
  rcases List.mem_cons.1 hy with rfl | hy
  ·exact h.2.1 z (List.mem_append_right _ hz)
  ·exact h3 y hy z hz
theorem q6l (a b : List Sp) (k : List UInt8) : inP (a ++ b) k = (inP a k || inP b k) := by simp [inP]
theorem qaR (s : Sp) (k : List UInt8) : inP [s] k = hasS s k := by simp [inP]
theorem qej {out : List Sp} {s : Sp} (hn : q0D out) (hs : q0f s = true) (hle : ∀ x ∈ out, blo x.lo s.lo = true) : q0D (q4l out s) ∧ (∀ k, inP (q4l out s) k = (inP out k || hasS s k)) ∧ ∀ x ∈ q4l out s, blo x.lo s.lo = true := by
 rcases List.eq_nil_or_concat out with rfl | ⟨o, t, rfl⟩
 ·rw [qef]
  refine ⟨⟨hs, (fun _ h => by cases h), trivial⟩, fun k => by rw [qaR]; simp [inP], fun x hx => ?_⟩
  rw [List.mem_singleton] at hx
  rw [hx]
  exact q1s _
 ·rw [List.concat_eq_append] at hn hle ⊢
  rw [q5c]
  obtain ⟨n1, n2, n3⟩ := q7l hn
  have ht := n2.1
  have hlt := hle t (List.mem_append_right _ (List.mem_singleton.2 rfl))
  by_cases hg : gapB t s = true
  ·rw [if_pos hg]
   have hg' := q7J.1 hg
   refine ⟨q3k hn ⟨hs, (fun _ h => by cases h), trivial⟩ fun x hx y hy => ?_, fun k => by rw [q6l _ [s], qaR], fun x hx => ?_⟩
   ·rw [List.mem_singleton] at hy
    subst hy
    rcases List.mem_append.1 hx with hx | hx
    ·exact q6j ht (n3 x hx t (List.mem_singleton.2 rfl)) hg'
    ·rw [List.mem_singleton] at hx
     subst hx
     exact hg'
   ·rcases List.mem_append.1 hx with hx | hx
    ·exact hle x hx
    ·rw [List.mem_singleton] at hx
     rw [hx]
     exact q1s _
  ·rw [if_neg hg]
   have hr : q0f ⟨t.lo, q2K t.hi s.hi⟩ = true := by
    show endS (q2K t.hi s.hi) t.lo = true
    rw [q8V, Bool.or_eq_true]
    exact .inl ht
   refine ⟨q3k n1 ⟨hr, (fun _ h => by cases h), trivial⟩ fun x hx y hy => ?_, fun k => ?_, fun x hx => ?_⟩
   ·rw [List.mem_singleton] at hy
    subst hy
    have := n3 x hx t (List.mem_singleton.2 rfl)
    exact ⟨this.1, this.2⟩
   ·rw [q6l, q6l, qaR, qaR, Bool.or_assoc]
    congr 1
    rw [Bool.eq_iff_iff, Bool.or_eq_true, q0x, q0x, q0x]
    show blo t.lo k = true ∧ endS (q2K t.hi s.hi) k = true ↔ _
    rw [q8V, Bool.or_eq_true]
    constructor
    ·rintro ⟨h1, h2⟩
     by_cases he : endS t.hi k = true
     ·exact .inl ⟨h1, he⟩
     ·have h3 := h2.resolve_left he
      refine .inr ⟨?_, h3⟩
      have hne : t.hi ≠ [] := fun e => he (q0B.2 (.inl e))
      have hle2 : blo s.lo t.hi = true := by
       cases hb : blt t.hi s.lo
       ·simp [blo, hb]
       ·exact absurd (q7J.2 ⟨hne, hb⟩) hg
      have hk : blo t.hi k = true := by
       cases hb : blo t.hi k
       ·exact absurd (q0B.2 (.inr (q4k (by rw [hb]; simp)))) he
       ·rfl
      exact q1i hle2 hk
    ·rintro (⟨h1, h2⟩ | ⟨h1, h2⟩)
     ·exact ⟨h1, .inl h2⟩
     ·exact ⟨q1i hlt h1, .inr h2⟩
   ·rcases List.mem_append.1 hx with hx | hx
    ·exact hle x (List.mem_append_left _ hx)
    ·rw [List.mem_singleton] at hx
     rw [hx]
     exact hlt
def q7n (l : List Sp) : Prop := l.Pairwise fun a b => blo a.lo b.lo = true
theorem q8J : ∀ (l out : List Sp), q0D out → (∀ s ∈ l, q0f s = true) → q7n l → (∀ x ∈ out, ∀ s ∈ l, blo x.lo s.lo = true) → q0D (l.foldl q4l out) ∧ ∀ k, inP (l.foldl q4l out) k = (inP out k || inP l k)
 | [], out, h, _, _, _ => ⟨h, fun k => by simp [inP]⟩
 | s :: l, out, h, hr, hs, hle => by
  obtain ⟨h1, h2, h3⟩ := qej h (hr s (List.mem_cons_self ..)) fun x hx => hle x hx s (List.mem_cons_self ..)
  obtain ⟨k1, k2⟩ := q8J l (q4l out s) h1 (fun x hx => hr x (List.mem_cons_of_mem _ hx)) (List.pairwise_cons.1 hs).2 fun x hx y hy => q1i (h3 x hx) ((List.pairwise_cons.1 hs).1 y hy)
  refine ⟨k1, fun k => ?_⟩
  rw [List.foldl_cons, k2, h2, Bool.or_assoc]
  congr 1
theorem qeq {l m : List Sp} (hm : ∀ s, s ∈ m ↔ s ∈ l ∧ q0f s = true) (hr : q7n m) : m.foldl q4l [] = q0a l := by
 obtain ⟨h1, h2⟩ := q8J m [] trivial (fun s hs => ((hm s).1 hs).2) hr fun _ hx => by cases hx
 refine q4f h1 fun k => ?_
 rw [h2, show inP [] k = false from rfl, Bool.false_or, Bool.eq_iff_iff, q1m, q1m]
 constructor
 ·rintro ⟨s, hs, hk⟩
  exact ⟨s, ((hm s).1 hs).1, hk⟩
 ·rintro ⟨s, hs, hk⟩
  refine ⟨s, (hm s).2 ⟨hs, ?_⟩, hk⟩
  cases h : q0f s
  ·rw [qfG h] at hk
   cases hk
  ·rfl
theorem fit_drop (n : Nat) : ∀ (m : Nat) (l : List Sp) (hm : m + 1 ≤ l.length), l.length = max n 1 + m → fitS n l = ⟨(l[0]'(by omega)).lo, (l[m]'(by omega)).hi⟩ :: l.drop (m + 1)
 | 0, l, hm, he => by
  match l, hm with
  | a :: l, _ =>
   rw [qd7 (by omega)]
   rfl
 | m + 1, l, hm, he => by
  match l, hm with
  | a :: b :: l, _ =>
   unfold fitS
   rw [if_pos (by omega)]
   have ih := fit_drop n m (⟨a.lo, b.hi⟩ :: l) (by simp at he ⊢; omega) (by simp at he ⊢; omega)
   rw [ih]
   cases m with
   | zero => rfl
   | succ m => rfl
theorem q1u (l : List Sp) : (q0a l).length ≤ l.length := by
 have key : ∀ (l out : List Sp), q0D out → (l.foldl (fun out s => if q0f s = true then q5w out s else out) out).length ≤ out.length + l.length := by
  intro l
  induction l with
  | nil => intro out _; simp
  | cons s l ih =>
   intro out hn
   rw [List.foldl_cons]
   by_cases hs : q0f s = true
   ·rw [if_pos hs]
    have h1 := ih (q5w out s) (qb5 hn hs)
    have h2 : (q5w out s).length ≤ out.length + 1 := by
     unfold q5w
     rw [List.length_append, List.length_cons]
     generalize q2o out s = g
     have : ∀ q : List Sp, (q.filter fun x => !q0R x g && blt x.lo g.lo).length + (q.filter fun x => !q0R x g && blt g.lo x.lo).length ≤ q.length := by
      intro q
      induction q with
      | nil => simp
      | cons x q ih =>
       rw [List.filter_cons, List.filter_cons]
       cases h1 : blt x.lo g.lo
       ·split <;> split <;> simp_all <;> omega
       ·have h2 := q1Z h1
        split <;> split <;> simp_all <;> omega
     have := this out
     omega
    rw [List.length_cons]
    omega
   ·rw [if_neg hs]
    have h1 := ih out hn
    rw [List.length_cons]
    omega
 have := key l [] trivial
 simpa [q0a] using this
end Go.Proofs.YtdpbllacfljmoaaGreat
