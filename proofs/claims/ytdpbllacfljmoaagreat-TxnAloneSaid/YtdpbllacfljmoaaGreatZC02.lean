import Derived.Test.YtdpbllacfljmoaaGreatZC01
set_option maxRecDepth 100000
set_option maxHeartbeats 16000000
set_option linter.unusedVariables false
namespace Go.Proofs.YtdpbllacfljmoaaGreat
open Go.RowKit
abbrev KeyS := List UInt8
abbrev KsS := List (KeyS × List Ver)
structure Wr where
 key : KeyS
 gone : Bool
 dat : List UInt8
structure LimS where
 keys : Int
 vers : Int
 byts : Int
 last : Nat
structure PS where
 time : Nat
 K : KsS
def q03 (K : KsS) (k : KeyS) : List Ver := ((K.find? fun x => x.1 == k).map Prod.snd).getD []
def q0K (K : KsS) (k : KeyS) (t : Nat) : Option (List UInt8) := getH (q03 K k) t
def inS (lo hi k : KeyS) : Bool := !blt k lo && (hi.isEmpty || blt k hi)
def q3D (lo hi : KeyS) (t : Nat) (x : KeyS × List Ver) : Option (KeyS × List UInt8) := if inS lo hi x.1 = true then (getH x.2 t).map fun b => (x.1, b) else none
def q1Q (K : KsS) (lo hi : KeyS) (t : Nat) : List (KeyS × List UInt8) := K.filterMap (q3D lo hi t)
def q0i : KeyS → List Wr → Int
 | _, [] => 0
 | last, w :: l => if 256 < w.key.length ∨ 4096 < w.dat.length then 3 else if blt last w.key = false ∨ q4v ⟨0, w.gone, w.dat⟩ = false then 1 else q0i w.key l
def q1p (K : KsS) : Nat := (K.map fun x => x.2.length).sum
def q39 (K : KsS) : Nat := (K.map fun x => x.1.length + q0z x.2).sum
def putS (K : KsS) (k : KeyS) (c : List Ver) : KsS := K.filter (fun x => blt x.1 k) ++ (if c.isEmpty = true then [] else [(k, c)]) ++ K.filter (fun x => blt k x.1)
def addH (l : List Ver) (v : Ver) : List Ver := if (q1u l && q1u [v]) = true then if v.tm ≤ q2v l then [] else l ++ [v] else []
def q1U (st : PS) (w : Wr) : Bool := !(w.gone && (q0K st.K w.key st.time).isNone)
def verW (st : PS) (w : Wr) : Ver := ⟨st.time + 1, w.gone, w.dat⟩
def q1c (st : PS) (K : KsS) (w : Wr) : KsS := if q1U st w = true then putS K w.key (addH (q03 st.K w.key) (verW st w)) else K
def q0t (st : PS) (l : List Wr) : KsS := l.foldl (q1c st) st.K
def q3q (L : LimS) (K : KsS) : Bool := decide ((K.length : Int) ≤ L.keys) && decide ((q1p K : Int) ≤ L.vers) && decide ((q39 K : Int) ≤ L.byts)
def q3G (low : Nat) (x : KeyS × List Ver) : Option (KeyS × List Ver) := if (q0p x.2 low).isEmpty = true then none else some (x.1, q0p x.2 low)
def q08 (K : KsS) (low : Nat) : KsS := K.filterMap (q3G low)
def q2M (L : LimS) (st : PS) (l : List Wr) (low : Nat) : PS := if q3q L (q0t st l) = true then st else ⟨st.time, q08 st.K low⟩
def q09 (L : LimS) (st : PS) (l : List Wr) (low : Nat) : PS × Nat × Int :=
 if q0i [] l ≠ 0 then (st, 0, q0i [] l)
 else if l = [] then (st, st.time, 0)
 else if st.time = L.last then (st, 0, 5)
 else if q3q L (q0t (q2M L st l low) l) = true then (⟨st.time + 1, q0t (q2M L st l low) l⟩, st.time + 1, 0)
 else (q2M L st l low, 0, 5)
theorem q1i {a b : List UInt8} (h : blt a b = true) : a ≠ b := fun e => by
 subst e
 rw [q0X] at h
 cases h
theorem q95 {a b : List UInt8} (h : a ≠ b) : (a == b) = false := by rw [beq_eq_false_iff_ne]; exact h
theorem q5t {α : Type} (f : α → List UInt8) : ∀ {a b : List α}, a.Pairwise (fun x y => blt (f x) (f y) = true) → b.Pairwise (fun x y => blt (f x) (f y) = true) → (∀ x, x ∈ a ↔ x ∈ b) → a = b
 | [], [], _, _, _ => rfl
 | [], y :: b, _, _, h => absurd ((h y).2 (List.mem_cons_self ..)) (by simp)
 | x :: a, [], _, _, h => absurd ((h x).1 (List.mem_cons_self ..)) (by simp)
 | x :: a, y :: b, ha, hb, h => by
  rw [List.pairwise_cons] at ha hb
  have e : x = y := by
   rcases List.mem_cons.1 ((h x).1 (List.mem_cons_self ..)) with e | hx
   ·exact e
   ·rcases List.mem_cons.1 ((h y).2 (List.mem_cons_self ..)) with e | hy
    ·exact e.symm
    ·have h1 := q1S (hb.1 x hx)
     rw [ha.1 y hy] at h1
     cases h1
  subst e
  have ht := q5t f ha.2 hb.2 (fun z => by
   constructor
   ·intro hz
    rcases List.mem_cons.1 ((h z).1 (List.mem_cons_of_mem _ hz)) with e | hz'
    ·subst e
     exact absurd rfl (q1i (ha.1 z hz))
    ·exact hz'
   ·intro hz
    rcases List.mem_cons.1 ((h z).2 (List.mem_cons_of_mem _ hz)) with e | hz'
    ·subst e
     exact absurd rfl (q1i (hb.1 z hz))
    ·exact hz')
  rw [ht]
def q0G (K : KsS) : Prop := K.Pairwise (fun x y => blt x.1 y.1 = true)
def q28 (K : KsS) : Prop := ∀ x ∈ K, x.2 ≠ []
theorem q6H (k : KeyS) : q03 [] k = [] := rfl
theorem q0q (x : KeyS × List Ver) (K : KsS) (k : KeyS) : q03 (x :: K) k = if x.1 = k then x.2 else q03 K k := by
 unfold q03
 rw [List.find?_cons]
 by_cases h : x.1 = k
 ·rw [if_pos h, h, beq_self_eq_true]
  rfl
 ·rw [if_neg h, q95 h]
theorem q2A {K : KsS} {k : KeyS} (h : ∀ x ∈ K, x.1 ≠ k) : q03 K k = [] := by
 induction K with
 | nil => rfl
 | cons x K ih =>
  rw [q0q, if_neg (h x (List.mem_cons_self ..))]
  exact ih fun y hy => h y (List.mem_cons_of_mem _ hy)
theorem q0G.tail {x : KeyS × List Ver} {K : KsS} (h : q0G (x :: K)) : q0G K := (List.pairwise_cons.1 h).2
theorem q0G.head {x : KeyS × List Ver} {K : KsS} (h : q0G (x :: K)) : ∀ y ∈ K, blt x.1 y.1 = true := (List.pairwise_cons.1 h).1
theorem q0I {K : KsS} (h : q0G K) {x : KeyS × List Ver} (hx : x ∈ K) : q03 K x.1 = x.2 := by
 induction K with
 | nil => cases hx
 | cons y K ih =>
  rw [q0q]
  rcases List.mem_cons.1 hx with rfl | hx
  ·rw [if_pos rfl]
  ·rw [if_neg (q1i (h.head x hx))]
   exact ih h.tail hx
theorem q14 {K : KsS} {k : KeyS} (h : q03 K k ≠ []) : (k, q03 K k) ∈ K := by
 induction K with
 | nil => exact absurd rfl h
 | cons y K ih =>
  rw [q0q] at h ⊢
  by_cases e : y.1 = k
  ·rw [if_pos e]
   subst e
   exact List.mem_cons_self ..
  ·rw [if_neg e] at h ⊢
   exact List.mem_cons_of_mem _ (ih h)
theorem qdN {K K' : KsS} (h : q0G K) (h' : q0G K') (hf : q28 K) (hf' : q28 K') (he : ∀ k, q03 K k = q03 K' k) : K = K' := by
 refine q5t Prod.fst h h' fun x => ?_
 constructor
 ·intro hx
  have e := q0I h hx
  have h2 : q03 K' x.1 ≠ [] := by rw [← he, e]; exact hf x hx
  have h3 := q14 h2
  rw [← he, e] at h3
  exact h3
 ·intro hx
  have e := q0I h' hx
  have h2 : q03 K x.1 ≠ [] := by rw [he, e]; exact hf' x hx
  have h3 := q14 h2
  rw [he, e] at h3
  exact h3
theorem q1I {K : KsS} {k : KeyS} {c : List Ver} {x : KeyS × List Ver} : x ∈ putS K k c ↔ (x ∈ K ∧ blt x.1 k = true) ∨ (x = (k, c) ∧ c ≠ []) ∨ (x ∈ K ∧ blt k x.1 = true) := by
 unfold putS
 rw [List.mem_append, List.mem_append, List.mem_filter, List.mem_filter]
 cases c with
 | nil => simp
 | cons v c => simp [or_assoc]
theorem q3R {K : KsS} (h : q0G K) (k : KeyS) (c : List Ver) : q0G (putS K k c) := by
 unfold putS q0G
 rw [List.pairwise_append, List.pairwise_append]
 refine ⟨⟨List.Pairwise.filter _ h, ?_, ?_⟩, List.Pairwise.filter _ h, ?_⟩
 ·cases c <;> simp
 ·intro a ha b hb
  cases c with
  | nil => simp at hb
  | cons v c =>
   have hb : b = (k, v :: c) := by simpa using hb
   subst hb
   exact (List.mem_filter.1 ha).2
 ·intro a ha b hb
  have hb2 := (List.mem_filter.1 hb).2
  rcases List.mem_append.1 ha with ha | ha
  ·exact q0o (List.mem_filter.1 ha).2 hb2
  ·cases c with
   | nil => simp at ha
   | cons v c =>
    have ha : a = (k, v :: c) := by simpa using ha
    subst ha
    exact hb2
theorem qao {K : KsS} (h : q28 K) (k : KeyS) (c : List Ver) : q28 (putS K k c) := fun x hx => by
 rcases q1I.1 hx with ⟨h1, _⟩ | ⟨rfl, h1⟩ | ⟨h1, _⟩
 ·exact h x h1
 ·exact h1
 ·exact h x h1
theorem q5E {K : KsS} (h : q0G K) {k : KeyS} {c : List Ver} (hm : c ≠ [] → (k, c) ∈ K) (hn : c = [] → ∀ x ∈ K, x.1 ≠ k) : q03 K k = c := by
 by_cases hc : c = []
 ·rw [hc]
  exact q2A (hn hc)
 ·exact q0I h (hm hc)
theorem q3t {K : KsS} (h : q0G K) (hf : q28 K) (k : KeyS) (c : List Ver) (k' : KeyS) : q03 (putS K k c) k' = if k' = k then c else q03 K k' := by
 by_cases e : k' = k
 ·subst e
  rw [if_pos rfl]
  refine q5E (q3R h k' c) (fun hc => q1I.2 (.inr (.inl ⟨rfl, hc⟩))) fun hc x hx => ?_
  rcases q1I.1 hx with ⟨_, h1⟩ | ⟨_, h1⟩ | ⟨_, h1⟩
  ·exact q1i h1
  ·exact absurd hc h1
  ·exact fun e => q1i h1 e.symm
 ·rw [if_neg e]
  refine q5E (q3R h k c) (fun hc => ?_) fun hc x hx ex => ?_
  ·have hm := q14 hc
   rcases q21 k' k with g | g | g
   ·exact q1I.2 (.inl ⟨hm, g⟩)
   ·exact absurd g e
   ·exact q1I.2 (.inr (.inr ⟨hm, g⟩))
  ·have no : x ∈ K → False := fun hm => by
    have h1 := q0I h hm
    rw [ex, hc] at h1
    exact hf x hm h1.symm
   rcases q1I.1 hx with ⟨h1, _⟩ | ⟨rfl, _⟩ | ⟨h1, _⟩
   ·exact no h1
   ·exact e ex.symm
   ·exact no h1
def sumS (m : KeyS → List Ver → Nat) (K : KsS) : Nat := (K.map fun x => m x.1 x.2).sum
theorem q2J (m : KeyS → List Ver → Nat) (x : KeyS × List Ver) (K : KsS) : sumS m (x :: K) = m x.1 x.2 + sumS m K := by simp [sumS]
theorem q5w (m : KeyS → List Ver → Nat) (a b : KsS) : sumS m (a ++ b) = sumS m a + sumS m b := by simp [sumS]
def m1 : KeyS → List Ver → Nat := fun _ c => if c = [] then 0 else 1
def m2 : KeyS → List Ver → Nat := fun _ c => c.length
def m3 : KeyS → List Ver → Nat := fun k c => if c = [] then 0 else k.length + q0z c
theorem q49 {K : KsS} (hf : q28 K) : K.length = sumS m1 K := by
 induction K with
 | nil => rfl
 | cons x K ih =>
  rw [q2J, List.length_cons, ih fun y hy => hf y (List.mem_cons_of_mem _ hy)]
  have := hf x (List.mem_cons_self ..)
  unfold m1
  rw [if_neg this]
  omega
theorem q2w (K : KsS) : q1p K = sumS m2 K := rfl
theorem q3a {K : KsS} (hf : q28 K) : q39 K = sumS m3 K := by
 induction K with
 | nil => rfl
 | cons x K ih =>
  have e : q39 (x :: K) = x.1.length + q0z x.2 + q39 K := by simp [q39]
  rw [q2J, e, ih fun y hy => hf y (List.mem_cons_of_mem _ hy)]
  have := hf x (List.mem_cons_self ..)
  unfold m3
  rw [if_neg this]
theorem q7K {m : KeyS → List Ver → Nat} (h0 : ∀ k, m k [] = 0) {K : KsS} (h : q0G K) (k : KeyS) : sumS m K = m k (q03 K k) + sumS m (K.filter fun x => decide (x.1 ≠ k)) := by
 induction K with
 | nil => simp [sumS, q6H, h0]
 | cons x K ih =>
  rw [q2J, q0q, List.filter_cons]
  by_cases e : x.1 = k
  ·have hall : K.filter (fun x => decide (x.1 ≠ k)) = K := List.filter_eq_self.2 fun y hy => by
    have := q1i (h.head y hy)
    rw [e] at this
    simpa using fun e => this e.symm
   rw [if_pos e, if_neg (by simp [e]), hall, e]
  ·rw [if_neg e, if_pos (by simp [e]), q2J, ih h.tail]
   omega
theorem q2B {K : KsS} {k k' : KeyS} (h : k' ≠ k) : q03 (K.filter fun x => decide (x.1 ≠ k)) k' = q03 K k' := by
 induction K with
 | nil => rfl
 | cons x K ih =>
  rw [List.filter_cons]
  by_cases e : x.1 = k
  ·rw [if_neg (by simp [e]), ih, q0q, if_neg (by rw [e]; exact fun e => h e.symm)]
  ·rw [if_pos (by simp [e]), q0q, q0q, ih]
theorem q53 {K : KsS} {k : KeyS} : q03 (K.filter fun x => decide (x.1 ≠ k)) k = [] := q2A fun x hx => by simpa using (List.mem_filter.1 hx).2
theorem q2I {K : KsS} (h : q0G K) (p : KeyS × List Ver → Bool) : q0G (K.filter p) := List.Pairwise.filter _ h
theorem q6r {m : KeyS → List Ver → Nat} (h0 : ∀ k, m k [] = 0) : ∀ {K K' : KsS}, q0G K → q0G K' → (∀ k, m k (q03 K k) ≤ m k (q03 K' k)) → sumS m K ≤ sumS m K'
 | [], _, _, _, _ => Nat.zero_le _
 | x :: K, K', h, h', hle => by
  rw [q2J, q7K h0 h' x.1]
  have h1 := hle x.1
  rw [q0q, if_pos rfl] at h1
  have h2 := q6r h0 h.tail (q2I h' fun y => decide (y.1 ≠ x.1)) fun k => by
   by_cases e : k = x.1
   ·subst e
    rw [q2A fun y hy => fun e => q1i (h.head y hy) e.symm, h0]
    exact Nat.zero_le _
   ·rw [q2B e]
    have := hle k
    rw [q0q, if_neg (fun e2 => e e2.symm)] at this
    exact this
  omega
theorem qa4 {m : KeyS → List Ver → Nat} (h0 : ∀ k, m k [] = 0) {K : KsS} (h : q0G K) (hf : q28 K) (k : KeyS) (c : List Ver) : sumS m (putS K k c) + m k (q03 K k) = sumS m K + m k c := by
 have h1 := q7K h0 (q3R h k c) k
 have h2 := q7K h0 h k
 rw [q3t h hf, if_pos rfl] at h1
 have e : sumS m ((putS K k c).filter fun x => decide (x.1 ≠ k)) = sumS m (K.filter fun x => decide (x.1 ≠ k)) := by
  apply Nat.le_antisymm
  ·refine q6r h0 (q2I (q3R h k c) _) (q2I h _) fun k' => ?_
   by_cases e : k' = k
   ·subst e
    rw [q53, h0]
    exact Nat.zero_le _
   ·rw [q2B e, q2B e, q3t h hf, if_neg e]
    exact Nat.le_refl _
  ·refine q6r h0 (q2I h _) (q2I (q3R h k c) _) fun k' => ?_
   by_cases e : k' = k
   ·subst e
    rw [q53, h0]
    exact Nat.zero_le _
   ·rw [q2B e, q2B e, q3t h hf, if_neg e]
    exact Nat.le_refl _
 omega
open Go.RowKit
structure OkS (st : PS) : Prop where
 sort : q0G st.K
 full : q28 st.K
 right : ∀ x ∈ st.K, q1u x.2 = true
 time : ∀ x ∈ st.K, ∀ v ∈ x.2, v.tm ≤ st.time
theorem ok_none : OkS ⟨0, []⟩ := ⟨List.Pairwise.nil, (fun _ h => by cases h), (fun _ h => by cases h), (fun _ h => by cases h)⟩
section
variable {st : PS}
theorem OkS.rightC (h : OkS st) (k : KeyS) : q1u (q03 st.K k) = true := by
 by_cases e : q03 st.K k = []
 ·rw [e]; rfl
 ·exact h.right _ (q14 e)
theorem OkS.upto (h : OkS st) (k : KeyS) : ∀ v ∈ q03 st.K k, v.tm ≤ st.time := by
 by_cases e : q03 st.K k = []
 ·rw [e]; intro v hv; cases hv
 ·exact h.time _ (q14 e)
theorem q68 {l : List Ver} {t : Nat} (h : ∀ v ∈ l, v.tm ≤ t) : q2v l ≤ t := by
 unfold q2v
 cases hl : l.getLast? with
 | none => exact Nat.zero_le _
 | some v => exact h v (List.mem_of_getLast? hl)
end
theorem q0P : ∀ {l : List Wr} {last : KeyS}, q0i last l = 0 → (∀ w ∈ l, blt last w.key = true ∧ w.key.length ≤ 256 ∧ w.dat.length ≤ 4096 ∧ q4v ⟨0, w.gone, w.dat⟩ = true) ∧ l.Pairwise (fun a b => blt a.key b.key = true)
 | [], _, _ => ⟨(fun _ h => by cases h), List.Pairwise.nil⟩
 | w :: l, last, h => by
  unfold q0i at h
  split at h
  ·cases h
  ·next h1 =>
   split at h
   ·cases h
   ·next h2 =>
    obtain ⟨k1, k2⟩ := q0P h
    have g1 : blt last w.key = true := by
     cases e : blt last w.key
     ·exact absurd (.inl e) h2
     ·rfl
    have g2 : q4v ⟨0, w.gone, w.dat⟩ = true := by
     cases e : q4v ⟨0, w.gone, w.dat⟩
     ·exact absurd (.inr e) h2
     ·rfl
    refine ⟨fun x hx => ?_, List.pairwise_cons.2 ⟨fun x hx => (k1 x hx).1, k2⟩⟩
    rcases List.mem_cons.1 hx with rfl | hx
    ·exact ⟨g1, by omega, by omega, g2⟩
    ·exact ⟨q0o g1 (k1 x hx).1, (k1 x hx).2⟩
theorem qbU {l : List Ver} {v : Ver} (h : q1u l = true) (hv : q4v v = true) (ht : q2v l < v.tm) : addH l v = l ++ [v] := by
 have h1 : q1u [v] = true := (q10 [v] 0).2 ⟨fun x hx => by
  rw [List.mem_singleton] at hx
  subst hx
  exact ⟨by omega, hv⟩, List.pairwise_singleton ..⟩
 unfold addH
 rw [h, h1, if_pos (show (true && true) = true from rfl), if_neg (by omega)]
def newC (st : PS) (w : Wr) : List Ver := if q1U st w = true then addH (q03 st.K w.key) (verW st w) else q03 st.K w.key
def qad (st : PS) (l : List Wr) (k : KeyS) : List Ver := match l.find? fun w => w.key == k with | some w => newC st w | none => q03 st.K k
theorem q6v (st : PS) : ∀ (l : List Wr) (K : KsS), l.Pairwise (fun a b => blt a.key b.key = true) → q0G K → q28 K → (∀ w ∈ l, q03 K w.key = q03 st.K w.key) →
  q0G (l.foldl (q1c st) K) ∧ q28 (l.foldl (q1c st) K) ∧ ∀ k, q03 (l.foldl (q1c st) K) k = match l.find? fun w => w.key == k with | some w => newC st w | none => q03 K k
 | [], K, _, h, hf, _ => ⟨h, hf, fun _ => rfl⟩
 | w :: l, K, hl, h, hf, hk => by
  obtain ⟨hw, hl'⟩ := List.pairwise_cons.1 hl
  have hne : ∀ x ∈ l, x.key ≠ w.key := fun x hx e => q1i (hw x hx) e.symm
  have h1 : q0G (q1c st K w) := by unfold q1c; split; exact q3R h _ _; exact h
  have h2 : q28 (q1c st K w) := by unfold q1c; split; exact qao hf _ _; exact hf
  have h3 : ∀ k, q03 (q1c st K w) k = if k = w.key then newC st w else q03 K k := fun k => by
   unfold q1c newC
   split
   ·rw [q3t h hf]
   ·split
    ·next e => rw [e]; exact hk w (List.mem_cons_self ..)
    ·rfl
  obtain ⟨k1, k2, k3⟩ := q6v st l (q1c st K w) hl' h1 h2 fun x hx => by
   rw [h3, if_neg (hne x hx)]
   exact hk x (List.mem_cons_of_mem _ hx)
  refine ⟨k1, k2, fun k => ?_⟩
  rw [List.foldl_cons, k3, List.find?_cons]
  by_cases e : w.key = k
  ·have hno : l.find? (fun x => x.key == k) = none := List.find?_eq_none.2 fun x hx => by
    have := hne x hx
    rw [e] at this
    simpa using this
   have hy : (w.key == k) = true := by rw [e]; exact beq_self_eq_true _
   rw [hno, hy, h3, if_pos e.symm]
  ·rw [q95 e]
   show (match l.find? (fun x => x.key == k) with | some w => newC st w | none => q03 (q1c st K w) k) = match l.find? (fun x => x.key == k) with | some w => newC st w | none => q03 K k
   rw [h3, if_neg (fun e2 => e e2.symm)]
section
variable {st : PS} {l : List Wr}
theorem qfK (h : OkS st) {w : Wr} (hw : q4v ⟨0, w.gone, w.dat⟩ = true) : newC st w = if q1U st w = true then q03 st.K w.key ++ [verW st w] else q03 st.K w.key := by
 unfold newC
 split
 ·exact qbU (h.rightC _) hw (Nat.lt_succ_of_le (q68 (h.upto _)))
 ·rfl
theorem qaa (h : OkS st) (hc : q0i [] l = 0) : q0G (q0t st l) ∧ q28 (q0t st l) ∧ ∀ k, q03 (q0t st l) k = qad st l k := by
 obtain ⟨_, h2⟩ := q0P hc
 exact q6v st l st.K h2 h.sort h.full fun _ _ => rfl
theorem q3r (h : OkS st) (hc : q0i [] l = 0) (k : KeyS) : qad st l k = q03 st.K k ∨ ∃ w ∈ l, w.key = k ∧ q1U st w = true ∧ qad st l k = q03 st.K k ++ [verW st w] ∧ q4v (verW st w) = true := by
 obtain ⟨h1, _⟩ := q0P hc
 unfold qad
 cases hf : l.find? fun w => w.key == k with
 | none => exact Or.inl (Eq.refl (q03 st.K k))
 | some w =>
  have hm := List.mem_of_find?_eq_some hf
  have hk : w.key = k := by simpa using List.find?_some hf
  have ho := (h1 w hm).2.2.2
  have e : newC st w = if q1U st w = true then q03 st.K k ++ [verW st w] else q03 st.K k := by rw [qfK h ho, hk]
  by_cases hcm : q1U st w = true
  ·rw [if_pos hcm] at e
   exact .inr ⟨w, hm, hk, hcm, e, ho⟩
  ·rw [if_neg hcm] at e
   exact .inl e
theorem q7A (h : OkS st) (hc : q0i [] l = 0) : OkS ⟨st.time + 1, q0t st l⟩ := by
 obtain ⟨k1, k2, k3⟩ := qaa h hc
 refine ⟨k1, k2, fun x hx => ?_, fun x hx => ?_⟩
 ·have e := q0I k1 hx
  rw [← e, k3]
  rcases q3r h hc x.1 with e2 | ⟨w, _, _, _, e2, ho⟩
  ·rw [e2]; exact h.rightC _
  ·rw [e2]; exact qdC (h.rightC _) ho (Nat.lt_succ_of_le (q68 (h.upto _)))
 ·have e := q0I k1 hx
  rw [← e, k3]
  intro v hv
  rcases q3r h hc x.1 with e2 | ⟨w, _, _, _, e2, ho⟩
  ·rw [e2] at hv
   exact Nat.le_succ_of_le (h.upto _ v hv)
  ·rw [e2] at hv
   rcases List.mem_append.1 hv with hv | hv
   ·exact Nat.le_succ_of_le (h.upto _ v hv)
   ·rw [List.mem_singleton] at hv
    subst hv
    exact Nat.le_refl _
end
theorem q1K {K : KsS} {low : Nat} {x : KeyS × List Ver} : x ∈ q08 K low ↔ ∃ y ∈ K, x = (y.1, q0p y.2 low) ∧ x.2 ≠ [] := by
 unfold q08
 rw [List.mem_filterMap]
 constructor
 ·rintro ⟨y, hy, e⟩
  unfold q3G at e
  split at e
  ·cases e
  ·next h =>
   injection e with e
   subst e
   exact ⟨y, hy, rfl, by simpa using h⟩
 ·rintro ⟨y, hy, e, h⟩
  refine ⟨y, hy, ?_⟩
  unfold q3G
  subst e
  rw [if_neg (by simpa using h)]
theorem q0Q {K : KsS} (h : q0G K) (low : Nat) : q0G (q08 K low) := by
 unfold q08 q0G
 rw [List.pairwise_filterMap]
 refine List.Pairwise.imp ?_ h
 intro a b hab x hx y hy
 unfold q3G at hx hy
 split at hx
 ·cases hx
 ·split at hy
  ·cases hy
  ·injection hx with hx
   injection hy with hy
   subst hx hy
   exact hab
theorem q1k (K : KsS) (low : Nat) : q28 (q08 K low) := fun x hx => by
 obtain ⟨_, _, _, h⟩ := q1K.1 hx
 exact h
theorem q0O {K : KsS} (h : q0G K) (low : Nat) (k : KeyS) : q03 (q08 K low) k = q0p (q03 K k) low := by
 refine q5E (q0Q h low) (fun hc => ?_) fun hc x hx e => ?_
 ·have hn : q03 K k ≠ [] := fun e => hc (by rw [e]; rfl)
  exact q1K.2 ⟨(k, q03 K k), q14 hn, rfl, hc⟩
 ·obtain ⟨y, hy, ex, hn⟩ := q1K.1 hx
  have e2 : y.1 = k := by rw [← e, ex]
  have h1 := q0I h hy
  rw [e2] at h1
  rw [h1] at hc
  exact hn (by rw [ex]; exact hc)
theorem q2H {st : PS} (h : OkS st) (low : Nat) : OkS ⟨st.time, q08 st.K low⟩ := by
 refine ⟨q0Q h.sort low, q1k _ _, fun x hx => ?_, fun x hx v hv => ?_⟩
 ·obtain ⟨y, hy, e, _⟩ := q1K.1 hx
  rw [e]
  exact qbI (h.right y hy) low
 ·obtain ⟨y, hy, e, _⟩ := q1K.1 hx
  rw [e] at hv
  exact h.time y hy v (qaL hv)
theorem qaK (l : List Ver) (low : Nat) : (q0p l low).length ≤ l.length := by
 have hp : ∀ l : List Ver, (l.filter fun v => decide (v.tm ≤ low)).length + (l.filter fun v => decide (low < v.tm)).length = l.length := fun l => by
  induction l with
  | nil => rfl
  | cons v l ih =>
   rw [List.filter_cons, List.filter_cons]
   by_cases hv : v.tm ≤ low
   ·rw [if_pos (by simpa using hv), if_neg (by simp; omega)]
    simp only [List.length_cons]
    omega
   ·rw [if_neg (by simpa using hv), if_pos (by simp; omega)]
    simp only [List.length_cons]
    omega
 have h := hp l
 unfold q0p
 rw [List.length_append]
 have hk : (q46 (q0W l low)).length ≤ (l.filter fun v => decide (v.tm ≤ low)).length := by
  unfold q0W
  cases hf : (l.filter fun v => decide (v.tm ≤ low)).getLast? with
  | none => exact Nat.zero_le _
  | some v =>
   have := List.length_pos_of_mem (List.mem_of_getLast? hf)
   have := qau (some v)
   omega
 omega
theorem q3W : (∀ k, m1 k [] = 0) ∧ (∀ k, m2 k [] = 0) ∧ ∀ k, m3 k [] = 0 := ⟨fun _ => rfl, fun _ => rfl, fun _ => rfl⟩
theorem qd8 (k : KeyS) (l : List Ver) (low : Nat) : m1 k (q0p l low) ≤ m1 k l ∧ m2 k (q0p l low) ≤ m2 k l ∧ m3 k (q0p l low) ≤ m3 k l := by
 have hn : l = [] → q0p l low = [] := fun e => by rw [e]; rfl
 refine ⟨?_, qaK l low, ?_⟩
 ·unfold m1
  by_cases h : q0p l low = []
  ·rw [if_pos h]; exact Nat.zero_le _
  ·rw [if_neg h, if_neg (fun e => h (hn e))]; exact Nat.le_refl _
 ·unfold m3
  by_cases h : q0p l low = []
  ·rw [if_pos h]; exact Nat.zero_le _
  ·rw [if_neg h, if_neg (fun e => h (hn e))]
   have := q8R l low
   omega
theorem qfx {L : LimS} {K K' : KsS} (h : q0G K) (h' : q0G K') (hf : q28 K) (hf' : q28 K') (hm : ∀ k, m1 k (q03 K k) ≤ m1 k (q03 K' k) ∧ m2 k (q03 K k) ≤ m2 k (q03 K' k) ∧ m3 k (q03 K k) ≤ m3 k (q03 K' k)) (hfit : q3q L K' = true) : q3q L K = true := by
 have s1 := q6r q3W.1 h h' fun k => (hm k).1
 have s2 := q6r q3W.2.1 h h' fun k => (hm k).2.1
 have s3 := q6r q3W.2.2 h h' fun k => (hm k).2.2
 rw [← q49 hf, ← q49 hf'] at s1
 rw [← q2w, ← q2w] at s2
 rw [← q3a hf, ← q3a hf'] at s3
 unfold q3q at hfit ⊢
 simp only [Bool.and_eq_true, decide_eq_true_eq] at hfit ⊢
 omega
theorem q2P {L : LimS} {K : KsS} (h : q0G K) (hf : q28 K) (low : Nat) (hfit : q3q L K = true) : q3q L (q08 K low) = true :=
 qfx (q0Q h low) h (q1k _ _) hf (fun k => by rw [q0O h]; exact qd8 k _ low) hfit
theorem qaw {K : KsS} (h : q0G K) {lo hi : KeyS} {t : Nat} {p : KeyS × List UInt8} : p ∈ q1Q K lo hi t ↔ inS lo hi p.1 = true ∧ q0K K p.1 t = some p.2 := by
 unfold q1Q
 rw [List.mem_filterMap]
 constructor
 ·rintro ⟨x, hx, e⟩
  unfold q3D at e
  split at e
  ·next hi =>
   obtain ⟨b, hb, e⟩ := Option.map_eq_some_iff.1 e
   subst e
   unfold q0K
   rw [q0I h hx]
   exact ⟨hi, hb⟩
  ·cases e
 ·rintro ⟨h1, h2⟩
  have hn : q03 K p.1 ≠ [] := fun e => by
   unfold q0K at h2
   rw [e] at h2
   cases h2
  refine ⟨_, q14 hn, ?_⟩
  unfold q3D
  unfold q0K at h2
  rw [if_pos h1, h2]
  rfl
theorem q6n {K : KsS} (h : q0G K) (lo hi : KeyS) (t : Nat) : (q1Q K lo hi t).Pairwise fun a b => blt a.1 b.1 = true := by
 unfold q1Q
 rw [List.pairwise_filterMap]
 refine List.Pairwise.imp ?_ h
 intro a b hab x hx y hy
 unfold q3D at hx hy
 split at hx
 ·split at hy
  ·obtain ⟨_, _, e⟩ := Option.map_eq_some_iff.1 hx
   obtain ⟨_, _, e'⟩ := Option.map_eq_some_iff.1 hy
   subst e e'
   exact hab
  ·cases hy
 ·cases hx
theorem qdE {K K' : KsS} (h : q0G K) (h' : q0G K') {lo hi : KeyS} {t : Nat} (he : ∀ k, q0K K k t = q0K K' k t) : q1Q K lo hi t = q1Q K' lo hi t :=
 q5t Prod.fst (q6n h lo hi t) (q6n h' lo hi t) fun p => by rw [qaw h, qaw h', he]
theorem q5e {st : PS} (h : OkS st) {low t : Nat} (ht : low ≤ t) (k : KeyS) : q0K (q08 st.K low) k t = q0K st.K k t := by
 unfold q0K
 rw [q0O h.sort]
 exact qap ((q10 _ 0).1 (h.rightC k)).2 ht
theorem q8r {l : List Ver} (h : l.Pairwise (fun a b => a.tm < b.tm)) {t low : Nat} (ht : ∀ v ∈ l, v.tm ≤ t) : getH (q0p l low) t = getH l t := by
 by_cases hl : low ≤ t
 ·exact qap h hl
 ·have e1 : (l.filter fun v => decide (low < v.tm)) = [] := List.filter_eq_nil_iff.2 fun v hv => by
   have := ht v hv
   simp; omega
  have e2 : q0W l low = l.getLast? := by
   unfold q0W
   rw [List.filter_eq_self.2 fun v hv => by have := ht v hv; simp; omega]
  have e3 : q0W l t = l.getLast? := by
   unfold q0W
   rw [List.filter_eq_self.2 fun v hv => by have := ht v hv; simp; omega]
  unfold getH q0p
  rw [e1, e2, e3, List.append_nil]
  cases hg : l.getLast? with
  | none => rfl
  | some v =>
   have hv := ht v (List.mem_of_getLast? hg)
   by_cases hgo : v.gone = true
   ·rw [q2E hgo, qdn hgo]
    rfl
   ·have hgf : v.gone = false := by simpa using hgo
    rw [q3e hgf]
    unfold q0W
    rw [List.filter_cons, if_pos (by simpa using hv)]
    rfl
theorem q3p {st : PS} (h : OkS st) (low : Nat) (k : KeyS) : q0K (q08 st.K low) k st.time = q0K st.K k st.time := by
 unfold q0K
 rw [q0O h.sort]
 exact q8r ((q10 _ 0).1 (h.rightC k)).2 (h.upto k)
end Go.Proofs.YtdpbllacfljmoaaGreat
