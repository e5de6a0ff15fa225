import Derived.Test.YtdpbllacfljmoaaGreatZE01
set_option maxRecDepth 100000
set_option maxHeartbeats 16000000
set_option linter.unusedVariables false
namespace Go.Proofs.YtdpbllacfljmoaaGreat
open Go.RowKit
abbrev KeyS := List UInt8
abbrev KsS := List (KeyS × List Ver)
structure Wr where
 key : KeyS
 gone : Bool
 dat : List UInt8
structure LimS where
 keys : Int
 vers : Int
 byts : Int
 last : Nat
structure PS where
 time : Nat
 K : KsS
def q03 (K : KsS) (k : KeyS) : List Ver := ((K.find? fun x => x.1 == k).map Prod.snd).getD []
def q1D (K : KsS) (k : KeyS) (t : Nat) : Option (List UInt8) := getH (q03 K k) t
def inS (lo hi k : KeyS) : Bool := !blt k lo && (hi.isEmpty || blt k hi)
def q3E (lo hi : KeyS) (t : Nat) (x : KeyS × List Ver) : Option (KeyS × List UInt8) := if inS lo hi x.1 = true then (getH x.2 t).map fun b => (x.1, b) else none
def q1E (K : KsS) (lo hi : KeyS) (t : Nat) : List (KeyS × List UInt8) := K.filterMap (q3E lo hi t)
def q0h : KeyS → List Wr → Int
 | _, [] => 0
 | last, w :: l => if 256 < w.key.length ∨ 4096 < w.dat.length then 3 else if blt last w.key = false ∨ q4z ⟨0, w.gone, w.dat⟩ = false then 1 else q0h w.key l
def q0U (K : KsS) : Nat := (K.map fun x => x.2.length).sum
def q2n (K : KsS) : Nat := (K.map fun x => x.1.length + q0x x.2).sum
def putS (K : KsS) (k : KeyS) (c : List Ver) : KsS := K.filter (fun x => blt x.1 k) ++ (if c.isEmpty = true then [] else [(k, c)]) ++ K.filter (fun x => blt k x.1)
def addH (l : List Ver) (v : Ver) : List Ver := if (q1q l && q1q [v]) = true then if v.tm ≤ q2N l then [] else l ++ [v] else []
def q1S (st : PS) (w : Wr) : Bool := !(w.gone && (q1D st.K w.key st.time).isNone)
def verW (st : PS) (w : Wr) : Ver := ⟨st.time + 1, w.gone, w.dat⟩
def q1a (st : PS) (K : KsS) (w : Wr) : KsS := if q1S st w = true then putS K w.key (addH (q03 st.K w.key) (verW st w)) else K
def q0s (st : PS) (l : List Wr) : KsS := l.foldl (q1a st) st.K
def q3g (L : LimS) (K : KsS) : Bool := decide ((K.length : Int) ≤ L.keys) && decide ((q0U K : Int) ≤ L.vers) && decide ((q2n K : Int) ≤ L.byts)
def q3H (low : Nat) (x : KeyS × List Ver) : Option (KeyS × List Ver) := if (q0o x.2 low).isEmpty = true then none else some (x.1, q0o x.2 low)
def q06 (K : KsS) (low : Nat) : KsS := K.filterMap (q3H low)
def q35 (L : LimS) (st : PS) (l : List Wr) (low : Nat) : PS := if q3g L (q0s st l) = true then st else ⟨st.time, q06 st.K low⟩
def q0a (L : LimS) (st : PS) (l : List Wr) (low : Nat) : PS × Nat × Int :=
 if q0h [] l ≠ 0 then (st, 0, q0h [] l)
 else if l = [] then (st, st.time, 0)
 else if st.time = L.last then (st, 0, 5)
 else if q3g L (q0s (q35 L st l low) l) = true then (⟨st.time + 1, q0s (q35 L st l low) l⟩, st.time + 1, 0)
 else (q35 L st l low, 0, 5)
theorem q1f {a b : List UInt8} (h : blt a b = true) : a ≠ b := fun e => by
 subst e
 rw [q0I] at h
 cases h
theorem q9b {a b : List UInt8} (h : a ≠ b) : (a == b) = false := by rw [beq_eq_false_iff_ne]; exact h
theorem q5t {α : Type} (f : α → List UInt8) : ∀ {a b : List α}, a.Pairwise (fun x y => blt (f x) (f y) = true) → b.Pairwise (fun x y => blt (f x) (f y) = true) → (∀ x, x ∈ a ↔ x ∈ b) → a = b
 | [], [], _, _, _ => rfl
 | [], y :: b, _, _, h => absurd ((h y).2 (List.mem_cons_self ..)) (by simp)
 | x :: a, [], _, _, h => absurd ((h x).1 (List.mem_cons_self ..)) (by simp)
 | x :: a, y :: b, ha, hb, h => by
  rw [List.pairwise_cons] at ha hb
  have e : x = y := by
   rcases List.mem_cons.1 ((h x).1 (List.mem_cons_self ..)) with e | hx
   ·exact e
   ·rcases List.mem_cons.1 ((h y).2 (List.mem_cons_self ..)) with e | hy
    ·exact e.symm
    ·have h1 := q1e (hb.1 x hx)
     rw [ha.1 y hy] at h1
     cases h1
  subst e
  have ht := q5t f ha.2 hb.2 (fun z => by
   constructor
   ·intro hz
    rcases List.mem_cons.1 ((h z).1 (List.mem_cons_of_mem _ hz)) with e | hz'
    ·subst e
     exact absurd rfl (q1f (ha.1 z hz))
    ·exact hz'
   ·intro hz
    rcases List.mem_cons.1 ((h z).2 (List.mem_cons_of_mem _ hz)) with e | hz'
    ·subst e
     exact absurd rfl (q1f (hb.1 z hz))
    ·exact hz')
  rw [ht]
def q0D (K : KsS) : Prop := K.Pairwise (fun x y => blt x.1 y.1 = true)
def q2a (K : KsS) : Prop := ∀ x ∈ K, x.2 ≠ []
theorem q6G (k : KeyS) : q03 [] k = [] := rfl
theorem q0p (x : KeyS × List Ver) (K : KsS) (k : KeyS) : q03 (x :: K) k = if x.1 = k then x.2 else q03 K k := by
 unfold q03
 rw [List.find?_cons]
 by_cases h : x.1 = k
 ·rw [if_pos h, h, beq_self_eq_true]
  rfl
 ·rw [if_neg h, q9b h]
theorem q2B {K : KsS} {k : KeyS} (h : ∀ x ∈ K, x.1 ≠ k) : q03 K k = [] := by
 induction K with
 | nil => rfl
 | cons x K ih =>
  rw [q0p, if_neg (h x (List.mem_cons_self ..))]
  exact ih fun y hy => h y (List.mem_cons_of_mem _ hy)
theorem q0D.tail {x : KeyS × List Ver} {K : KsS} (h : q0D (x :: K)) : q0D K := (List.pairwise_cons.1 h).2
theorem q0D.head {x : KeyS × List Ver} {K : KsS} (h : q0D (x :: K)) : ∀ y ∈ K, blt x.1 y.1 = true := (List.pairwise_cons.1 h).1
theorem q0E {K : KsS} (h : q0D K) {x : KeyS × List Ver} (hx : x ∈ K) : q03 K x.1 = x.2 := by
 induction K with
 | nil => cases hx
 | cons y K ih =>
  rw [q0p]
  rcases List.mem_cons.1 hx with rfl | hx
  ·rw [if_pos rfl]
  ·rw [if_neg (q1f (h.head x hx))]
   exact ih h.tail hx
theorem q0Z {K : KsS} {k : KeyS} (h : q03 K k ≠ []) : (k, q03 K k) ∈ K := by
 induction K with
 | nil => exact absurd rfl h
 | cons y K ih =>
  rw [q0p] at h ⊢
  by_cases e : y.1 = k
  ·rw [if_pos e]
   subst e
   exact List.mem_cons_self ..
  ·rw [if_neg e] at h ⊢
   exact List.mem_cons_of_mem _ (ih h)
theorem qdI {K K' : KsS} (h : q0D K) (h' : q0D K') (hf : q2a K) (hf' : q2a K') (he : ∀ k, q03 K k = q03 K' k) : K = K' := by
 refine q5t Prod.fst h h' fun x => ?_
 constructor
 ·intro hx
  have e := q0E h hx
  have h2 : q03 K' x.1 ≠ [] := by rw [← he, e]; exact hf x hx
  have h3 := q0Z h2
  rw [← he, e] at h3
  exact h3
 ·intro hx
  have e := q0E h' hx
  have h2 : q03 K x.1 ≠ [] := by rw [he, e]; exact hf' x hx
  have h3 := q0Z h2
  rw [he, e] at h3
  exact h3
theorem q1H {K : KsS} {k : KeyS} {c : List Ver} {x : KeyS × List Ver} : x ∈ putS K k c ↔ (x ∈ K ∧ blt x.1 k = true) ∨ (x = (k, c) ∧ c ≠ []) ∨ (x ∈ K ∧ blt k x.1 = true) := by
 unfold putS
 rw [List.mem_append, List.mem_append, List.mem_filter, List.mem_filter]
 cases c with
 | nil => simp
 | cons v c => simp [or_assoc]
theorem q3S {K : KsS} (h : q0D K) (k : KeyS) (c : List Ver) : q0D (putS K k c) := by
 unfold putS q0D
 rw [List.pairwise_append, List.pairwise_append]
 refine ⟨⟨List.Pairwise.filter _ h, ?_, ?_⟩, List.Pairwise.filter _ h, ?_⟩
 ·cases c <;> simp
 ·intro a ha b hb
  cases c with
  | nil => simp at hb
  | cons v c =>
   have hb : b = (k, v :: c) := by simpa using hb
   subst hb
   exact (List.mem_filter.1 ha).2
 ·intro a ha b hb
  have hb2 := (List.mem_filter.1 hb).2
  rcases List.mem_append.1 ha with ha | ha
  ·exact q0n (List.mem_filter.1 ha).2 hb2
  ·cases c with
   | nil => simp at ha
   | cons v c =>
    have ha : a = (k, v :: c) := by simpa using ha
    subst ha
    exact hb2
theorem qav {K : KsS} (h : q2a K) (k : KeyS) (c : List Ver) : q2a (putS K k c) := fun x hx => by
 rcases q1H.1 hx with ⟨h1, _⟩ | ⟨rfl, h1⟩ | ⟨h1, _⟩
 ·exact h x h1
 ·exact h1
 ·exact h x h1
theorem q5E {K : KsS} (h : q0D K) {k : KeyS} {c : List Ver} (hm : c ≠ [] → (k, c) ∈ K) (hn : c = [] → ∀ x ∈ K, x.1 ≠ k) : q03 K k = c := by
 by_cases hc : c = []
 ·rw [hc]
  exact q2B (hn hc)
 ·exact q0E h (hm hc)
theorem q3u {K : KsS} (h : q0D K) (hf : q2a K) (k : KeyS) (c : List Ver) (k' : KeyS) : q03 (putS K k c) k' = if k' = k then c else q03 K k' := by
 by_cases e : k' = k
 ·subst e
  rw [if_pos rfl]
  refine q5E (q3S h k' c) (fun hc => q1H.2 (.inr (.inl ⟨rfl, hc⟩))) fun hc x hx => ?_
  rcases q1H.1 hx with ⟨_, h1⟩ | ⟨_, h1⟩ | ⟨_, h1⟩
  ·exact q1f h1
  ·exact absurd hc h1
  ·exact fun e => q1f h1 e.symm
 ·rw [if_neg e]
  refine q5E (q3S h k c) (fun hc => ?_) fun hc x hx ex => ?_
  ·have hm := q0Z hc
   rcases q1Q k' k with g | g | g
   ·exact q1H.2 (.inl ⟨hm, g⟩)
   ·exact absurd g e
   ·exact q1H.2 (.inr (.inr ⟨hm, g⟩))
  ·have no : x ∈ K → False := fun hm => by
    have h1 := q0E h hm
    rw [ex, hc] at h1
    exact hf x hm h1.symm
   rcases q1H.1 hx with ⟨h1, _⟩ | ⟨rfl, _⟩ | ⟨h1, _⟩
   ·exact no h1
   ·exact e ex.symm
   ·exact no h1
def sumS (m : KeyS → List Ver → Nat) (K : KsS) : Nat := (K.map fun x => m x.1 x.2).sum
theorem q2J (m : KeyS → List Ver → Nat) (x : KeyS × List Ver) (K : KsS) : sumS m (x :: K) = m x.1 x.2 + sumS m K := by simp [sumS]
theorem q5w (m : KeyS → List Ver → Nat) (a b : KsS) : sumS m (a ++ b) = sumS m a + sumS m b := by simp [sumS]
def m1 : KeyS → List Ver → Nat := fun _ c => if c = [] then 0 else 1
def m2 : KeyS → List Ver → Nat := fun _ c => c.length
def m3 : KeyS → List Ver → Nat := fun k c => if c = [] then 0 else k.length + q0x c
theorem q4c {K : KsS} (hf : q2a K) : K.length = sumS m1 K := by
 induction K with
 | nil => rfl
 | cons x K ih =>
  rw [q2J, List.length_cons, ih fun y hy => hf y (List.mem_cons_of_mem _ hy)]
  have := hf x (List.mem_cons_self ..)
  unfold m1
  rw [if_neg this]
  omega
theorem q2x (K : KsS) : q0U K = sumS m2 K := rfl
theorem q3c {K : KsS} (hf : q2a K) : q2n K = sumS m3 K := by
 induction K with
 | nil => rfl
 | cons x K ih =>
  have e : q2n (x :: K) = x.1.length + q0x x.2 + q2n K := by simp [q2n]
  rw [q2J, e, ih fun y hy => hf y (List.mem_cons_of_mem _ hy)]
  have := hf x (List.mem_cons_self ..)
  unfold m3
  rw [if_neg this]
theorem q7N {m : KeyS → List Ver → Nat} (h0 : ∀ k, m k [] = 0) {K : KsS} (h : q0D K) (k : KeyS) : sumS m K = m k (q03 K k) + sumS m (K.filter fun x => decide (x.1 ≠ k)) := by
 induction K with
 | nil => simp [sumS, q6G, h0]
 | cons x K ih =>
  rw [q2J, q0p, List.filter_cons]
  by_cases e : x.1 = k
  ·have hall : K.filter (fun x => decide (x.1 ≠ k)) = K := List.filter_eq_self.2 fun y hy => by
    have := q1f (h.head y hy)
    rw [e] at this
    simpa using fun e => this e.symm
   rw [if_pos e, if_neg (by simp [e]), hall, e]
  ·rw [if_neg e, if_pos (by simp [e]), q2J, ih h.tail]
   omega
theorem q2C {K : KsS} {k k' : KeyS} (h : k' ≠ k) : q03 (K.filter fun x => decide (x.1 ≠ k)) k' = q03 K k' := by
 induction K with
 | nil => rfl
 | cons x K ih =>
  rw [List.filter_cons]
  by_cases e : x.1 = k
  ·rw [if_neg (by simp [e]), ih, q0p, if_neg (by rw [e]; exact fun e => h e.symm)]
  ·rw [if_pos (by simp [e]), q0p, q0p, ih]
theorem q55 {K : KsS} {k : KeyS} : q03 (K.filter fun x => decide (x.1 ≠ k)) k = [] := q2B fun x hx => by simpa using (List.mem_filter.1 hx).2
theorem q2I {K : KsS} (h : q0D K) (p : KeyS × List Ver → Bool) : q0D (K.filter p) := List.Pairwise.filter _ h
theorem q6p {m : KeyS → List Ver → Nat} (h0 : ∀ k, m k [] = 0) : ∀ {K K' : KsS}, q0D K → q0D K' → (∀ k, m k (q03 K k) ≤ m k (q03 K' k)) → sumS m K ≤ sumS m K'
 | [], _, _, _, _ => Nat.zero_le _
 | x :: K, K', h, h', hle => by
  rw [q2J, q7N h0 h' x.1]
  have h1 := hle x.1
  rw [q0p, if_pos rfl] at h1
  have h2 := q6p h0 h.tail (q2I h' fun y => decide (y.1 ≠ x.1)) fun k => by
   by_cases e : k = x.1
   ·subst e
    rw [q2B fun y hy => fun e => q1f (h.head y hy) e.symm, h0]
    exact Nat.zero_le _
   ·rw [q2C e]
    have := hle k
    rw [q0p, if_neg (fun e2 => e e2.symm)] at this
    exact this
  omega
theorem qa9 {m : KeyS → List Ver → Nat} (h0 : ∀ k, m k [] = 0) {K : KsS} (h : q0D K) (hf : q2a K) (k : KeyS) (c : List Ver) : sumS m (putS K k c) + m k (q03 K k) = sumS m K + m k c := by
 have h1 := q7N h0 (q3S h k c) k
 have h2 := q7N h0 h k
 rw [q3u h hf, if_pos rfl] at h1
 have e : sumS m ((putS K k c).filter fun x => decide (x.1 ≠ k)) = sumS m (K.filter fun x => decide (x.1 ≠ k)) := by
  apply Nat.le_antisymm
  ·refine q6p h0 (q2I (q3S h k c) _) (q2I h _) fun k' => ?_
   by_cases e : k' = k
   ·subst e
    rw [q55, h0]
    exact Nat.zero_le _
   ·rw [q2C e, q2C e, q3u h hf, if_neg e]
    exact Nat.le_refl _
  ·refine q6p h0 (q2I h _) (q2I (q3S h k c) _) fun k' => ?_
   by_cases e : k' = k
   ·subst e
    rw [q55, h0]
    exact Nat.zero_le _
   ·rw [q2C e, q2C e, q3u h hf, if_neg e]
    exact Nat.le_refl _
 omega
open Go.RowKit
structure OkS (st : PS) : Prop where
 sort : q0D st.K
 full : q2a st.K
 right : ∀ x ∈ st.K, q1q x.2 = true
 time : ∀ x ∈ st.K, ∀ v ∈ x.2, v.tm ≤ st.time
theorem ok_none : OkS ⟨0, []⟩ := ⟨List.Pairwise.nil, (fun _ h => by cases h), (fun _ h => by cases h), (fun _ h => by cases h)⟩
section
variable {st : PS}
theorem OkS.rightC (h : OkS st) (k : KeyS) : q1q (q03 st.K k) = true := by
 by_cases e : q03 st.K k = []
 ·rw [e]; rfl
 ·exact h.right _ (q0Z e)
theorem OkS.upto (h : OkS st) (k : KeyS) : ∀ v ∈ q03 st.K k, v.tm ≤ st.time := by
 by_cases e : q03 st.K k = []
 ·rw [e]; intro v hv; cases hv
 ·exact h.time _ (q0Z e)
theorem q7x {l : List Ver} {t : Nat} (h : ∀ v ∈ l, v.tm ≤ t) : q2N l ≤ t := by
 unfold q2N
 cases hl : l.getLast? with
 | none => exact Nat.zero_le _
 | some v => exact h v (List.mem_of_getLast? hl)
end
theorem q0N : ∀ {l : List Wr} {last : KeyS}, q0h last l = 0 → (∀ w ∈ l, blt last w.key = true ∧ w.key.length ≤ 256 ∧ w.dat.length ≤ 4096 ∧ q4z ⟨0, w.gone, w.dat⟩ = true) ∧ l.Pairwise (fun a b => blt a.key b.key = true)
 | [], _, _ => ⟨(fun _ h => by cases h), List.Pairwise.nil⟩
 | w :: l, last, h => by
  unfold q0h at h
  split at h
  ·cases h
  ·next h1 =>
   split at h
   ·cases h
   ·next h2 =>
    obtain ⟨k1, k2⟩ := q0N h
    have g1 : blt last w.key = true := by
     cases e : blt last w.key
     ·exact absurd (.inl e) h2
     ·rfl
    have g2 : q4z ⟨0, w.gone, w.dat⟩ = true := by
     cases e : q4z ⟨0, w.gone, w.dat⟩
     ·exact absurd (.inr e) h2
     ·rfl
    refine ⟨fun x hx => ?_, List.pairwise_cons.2 ⟨fun x hx => (k1 x hx).1, k2⟩⟩
    rcases List.mem_cons.1 hx with rfl | hx
    ·exact ⟨g1, by omega, by omega, g2⟩
    ·exact ⟨q0n g1 (k1 x hx).1, (k1 x hx).2⟩
theorem qbY {l : List Ver} {v : Ver} (h : q1q l = true) (hv : q4z v = true) (ht : q2N l < v.tm) : addH l v = l ++ [v] := by
 have h1 : q1q [v] = true := (q13 [v] 0).2 ⟨fun x hx => by
  rw [List.mem_singleton] at hx
  subst hx
  exact ⟨by omega, hv⟩, List.pairwise_singleton ..⟩
 unfold addH
 rw [h, h1, if_pos (show (true && true) = true from rfl), if_neg (by omega)]
def newC (st : PS) (w : Wr) : List Ver := if q1S st w = true then addH (q03 st.K w.key) (verW st w) else q03 st.K w.key
def qai (st : PS) (l : List Wr) (k : KeyS) : List Ver := match l.find? fun w => w.key == k with | some w => newC st w | none => q03 st.K k
theorem q6t (st : PS) : ∀ (l : List Wr) (K : KsS), l.Pairwise (fun a b => blt a.key b.key = true) → q0D K → q2a K → (∀ w ∈ l, q03 K w.key = q03 st.K w.key) →
  q0D (l.foldl (q1a st) K) ∧ q2a (l.foldl (q1a st) K) ∧ ∀ k, q03 (l.foldl (q1a st) K) k = match l.find? fun w => w.key == k with | some w => newC st w | none => q03 K k
 | [], K, _, h, hf, _ => ⟨h, hf, fun _ => rfl⟩
 | w :: l, K, hl, h, hf, hk => by
  obtain ⟨hw, hl'⟩ := List.pairwise_cons.1 hl
  have hne : ∀ x ∈ l, x.key ≠ w.key := fun x hx e => q1f (hw x hx) e.symm
  have h1 : q0D (q1a st K w) := by unfold q1a; split; exact q3S h _ _; exact h
  have h2 : q2a (q1a st K w) := by unfold q1a; split; exact qav hf _ _; exact hf
  have h3 : ∀ k, q03 (q1a st K w) k = if k = w.key then newC st w else q03 K k := fun k => by
   unfold q1a newC
   split
   ·rw [q3u h hf]
   ·split
    ·next e => rw [e]; exact hk w (List.mem_cons_self ..)
    ·rfl
  obtain ⟨k1, k2, k3⟩ := q6t st l (q1a st K w) hl' h1 h2 fun x hx => by
   rw [h3, if_neg (hne x hx)]
   exact hk x (List.mem_cons_of_mem _ hx)
  refine ⟨k1, k2, fun k => ?_⟩
  rw [List.foldl_cons, k3, List.find?_cons]
  by_cases e : w.key = k
  ·have hno : l.find? (fun x => x.key == k) = none := List.find?_eq_none.2 fun x hx => by
    have := hne x hx
    rw [e] at this
    simpa using this
   have hy : (w.key == k) = true := by rw [e]; exact beq_self_eq_true _
   rw [hno, hy, h3, if_pos e.symm]
  ·rw [q9b e]
   show (match l.find? (fun x => x.key == k) with | some w => newC st w | none => q03 (q1a st K w) k) = match l.find? (fun x => x.key == k) with | some w => newC st w | none => q03 K k
   rw [h3, if_neg (fun e2 => e e2.symm)]
section
variable {st : PS} {l : List Wr}
theorem qfC (h : OkS st) {w : Wr} (hw : q4z ⟨0, w.gone, w.dat⟩ = true) : newC st w = if q1S st w = true then q03 st.K w.key ++ [verW st w] else q03 st.K w.key := by
 unfold newC
 split
 ·exact qbY (h.rightC _) hw (Nat.lt_succ_of_le (q7x (h.upto _)))
 ·rfl
theorem qaf (h : OkS st) (hc : q0h [] l = 0) : q0D (q0s st l) ∧ q2a (q0s st l) ∧ ∀ k, q03 (q0s st l) k = qai st l k := by
 obtain ⟨_, h2⟩ := q0N hc
 exact q6t st l st.K h2 h.sort h.full fun _ _ => rfl
theorem q3r (h : OkS st) (hc : q0h [] l = 0) (k : KeyS) : qai st l k = q03 st.K k ∨ ∃ w ∈ l, w.key = k ∧ q1S st w = true ∧ qai st l k = q03 st.K k ++ [verW st w] ∧ q4z (verW st w) = true := by
 obtain ⟨h1, _⟩ := q0N hc
 unfold qai
 cases hf : l.find? fun w => w.key == k with
 | none => exact Or.inl (Eq.refl (q03 st.K k))
 | some w =>
  have hm := List.mem_of_find?_eq_some hf
  have hk : w.key = k := by simpa using List.find?_some hf
  have ho := (h1 w hm).2.2.2
  have e : newC st w = if q1S st w = true then q03 st.K k ++ [verW st w] else q03 st.K k := by rw [qfC h ho, hk]
  by_cases hcm : q1S st w = true
  ·rw [if_pos hcm] at e
   exact .inr ⟨w, hm, hk, hcm, e, ho⟩
  ·rw [if_neg hcm] at e
   exact .inl e
theorem q7B (h : OkS st) (hc : q0h [] l = 0) : OkS ⟨st.time + 1, q0s st l⟩ := by
 obtain ⟨k1, k2, k3⟩ := qaf h hc
 refine ⟨k1, k2, fun x hx => ?_, fun x hx => ?_⟩
 ·have e := q0E k1 hx
  rw [← e, k3]
  rcases q3r h hc x.1 with e2 | ⟨w, _, _, _, e2, ho⟩
  ·rw [e2]; exact h.rightC _
  ·rw [e2]; exact qdw (h.rightC _) ho (Nat.lt_succ_of_le (q7x (h.upto _)))
 ·have e := q0E k1 hx
  rw [← e, k3]
  intro v hv
  rcases q3r h hc x.1 with e2 | ⟨w, _, _, _, e2, ho⟩
  ·rw [e2] at hv
   exact Nat.le_succ_of_le (h.upto _ v hv)
  ·rw [e2] at hv
   rcases List.mem_append.1 hv with hv | hv
   ·exact Nat.le_succ_of_le (h.upto _ v hv)
   ·rw [List.mem_singleton] at hv
    subst hv
    exact Nat.le_refl _
end
theorem q1J {K : KsS} {low : Nat} {x : KeyS × List Ver} : x ∈ q06 K low ↔ ∃ y ∈ K, x = (y.1, q0o y.2 low) ∧ x.2 ≠ [] := by
 unfold q06
 rw [List.mem_filterMap]
 constructor
 ·rintro ⟨y, hy, e⟩
  unfold q3H at e
  split at e
  ·cases e
  ·next h =>
   injection e with e
   subst e
   exact ⟨y, hy, rfl, by simpa using h⟩
 ·rintro ⟨y, hy, e, h⟩
  refine ⟨y, hy, ?_⟩
  unfold q3H
  subst e
  rw [if_neg (by simpa using h)]
theorem q0O {K : KsS} (h : q0D K) (low : Nat) : q0D (q06 K low) := by
 unfold q06 q0D
 rw [List.pairwise_filterMap]
 refine List.Pairwise.imp ?_ h
 intro a b hab x hx y hy
 unfold q3H at hx hy
 split at hx
 ·cases hx
 ·split at hy
  ·cases hy
  ·injection hx with hx
   injection hy with hy
   subst hx hy
   exact hab
theorem q1h (K : KsS) (low : Nat) : q2a (q06 K low) := fun x hx => by
 obtain ⟨_, _, _, h⟩ := q1J.1 hx
 exact h
theorem q10 {K : KsS} (h : q0D K) (low : Nat) (k : KeyS) : q03 (q06 K low) k = q0o (q03 K k) low := by
 refine q5E (q0O h low) (fun hc => ?_) fun hc x hx e => ?_
 ·have hn : q03 K k ≠ [] := fun e => hc (by rw [e]; rfl)
  exact q1J.2 ⟨(k, q03 K k), q0Z hn, rfl, hc⟩
 ·obtain ⟨y, hy, ex, hn⟩ := q1J.1 hx
  have e2 : y.1 = k := by rw [← e, ex]
  have h1 := q0E h hy
  rw [e2] at h1
  rw [h1] at hc
  exact hn (by rw [ex]; exact hc)
theorem q2H {st : PS} (h : OkS st) (low : Nat) : OkS ⟨st.time, q06 st.K low⟩ := by
 refine ⟨q0O h.sort low, q1h _ _, fun x hx => ?_, fun x hx v hv => ?_⟩
 ·obtain ⟨y, hy, e, _⟩ := q1J.1 hx
  rw [e]
  exact qbM (h.right y hy) low
 ·obtain ⟨y, hy, e, _⟩ := q1J.1 hx
  rw [e] at hv
  exact h.time y hy v (qaS hv)
theorem qaR (l : List Ver) (low : Nat) : (q0o l low).length ≤ l.length := by
 have hp : ∀ l : List Ver, (l.filter fun v => decide (v.tm ≤ low)).length + (l.filter fun v => decide (low < v.tm)).length = l.length := fun l => by
  induction l with
  | nil => rfl
  | cons v l ih =>
   rw [List.filter_cons, List.filter_cons]
   by_cases hv : v.tm ≤ low
   ·rw [if_pos (by simpa using hv), if_neg (by simp; omega)]
    simp only [List.length_cons]
    omega
   ·rw [if_neg (by simpa using hv), if_pos (by simp; omega)]
    simp only [List.length_cons]
    omega
 have h := hp l
 unfold q0o
 rw [List.length_append]
 have hk : (q49 (q19 l low)).length ≤ (l.filter fun v => decide (v.tm ≤ low)).length := by
  unfold q19
  cases hf : (l.filter fun v => decide (v.tm ≤ low)).getLast? with
  | none => exact Nat.zero_le _
  | some v =>
   have := List.length_pos_of_mem (List.mem_of_getLast? hf)
   have := qaA (some v)
   omega
 omega
theorem q3X : (∀ k, m1 k [] = 0) ∧ (∀ k, m2 k [] = 0) ∧ ∀ k, m3 k [] = 0 := ⟨fun _ => rfl, fun _ => rfl, fun _ => rfl⟩
theorem qd4 (k : KeyS) (l : List Ver) (low : Nat) : m1 k (q0o l low) ≤ m1 k l ∧ m2 k (q0o l low) ≤ m2 k l ∧ m3 k (q0o l low) ≤ m3 k l := by
 have hn : l = [] → q0o l low = [] := fun e => by rw [e]; rfl
 refine ⟨?_, qaR l low, ?_⟩
 ·unfold m1
  by_cases h : q0o l low = []
  ·rw [if_pos h]; exact Nat.zero_le _
  ·rw [if_neg h, if_neg (fun e => h (hn e))]; exact Nat.le_refl _
 ·unfold m3
  by_cases h : q0o l low = []
  ·rw [if_pos h]; exact Nat.zero_le _
  ·rw [if_neg h, if_neg (fun e => h (hn e))]
   have := q8X l low
   omega
theorem qfn {L : LimS} {K K' : KsS} (h : q0D K) (h' : q0D K') (hf : q2a K) (hf' : q2a K') (hm : ∀ k, m1 k (q03 K k) ≤ m1 k (q03 K' k) ∧ m2 k (q03 K k) ≤ m2 k (q03 K' k) ∧ m3 k (q03 K k) ≤ m3 k (q03 K' k)) (hfit : q3g L K' = true) : q3g L K = true := by
 have s1 := q6p q3X.1 h h' fun k => (hm k).1
 have s2 := q6p q3X.2.1 h h' fun k => (hm k).2.1
 have s3 := q6p q3X.2.2 h h' fun k => (hm k).2.2
 rw [← q4c hf, ← q4c hf'] at s1
 rw [← q2x, ← q2x] at s2
 rw [← q3c hf, ← q3c hf'] at s3
 unfold q3g at hfit ⊢
 simp only [Bool.and_eq_true, decide_eq_true_eq] at hfit ⊢
 omega
theorem q2P {L : LimS} {K : KsS} (h : q0D K) (hf : q2a K) (low : Nat) (hfit : q3g L K = true) : q3g L (q06 K low) = true :=
 qfn (q0O h low) h (q1h _ _) hf (fun k => by rw [q10 h]; exact qd4 k _ low) hfit
theorem qaD {K : KsS} (h : q0D K) {lo hi : KeyS} {t : Nat} {p : KeyS × List UInt8} : p ∈ q1E K lo hi t ↔ inS lo hi p.1 = true ∧ q1D K p.1 t = some p.2 := by
 unfold q1E
 rw [List.mem_filterMap]
 constructor
 ·rintro ⟨x, hx, e⟩
  unfold q3E at e
  split at e
  ·next hi =>
   obtain ⟨b, hb, e⟩ := Option.map_eq_some_iff.1 e
   subst e
   unfold q1D
   rw [q0E h hx]
   exact ⟨hi, hb⟩
  ·cases e
 ·rintro ⟨h1, h2⟩
  have hn : q03 K p.1 ≠ [] := fun e => by
   unfold q1D at h2
   rw [e] at h2
   cases h2
  refine ⟨_, q0Z hn, ?_⟩
  unfold q3E
  unfold q1D at h2
  rw [if_pos h1, h2]
  rfl
theorem q6l {K : KsS} (h : q0D K) (lo hi : KeyS) (t : Nat) : (q1E K lo hi t).Pairwise fun a b => blt a.1 b.1 = true := by
 unfold q1E
 rw [List.pairwise_filterMap]
 refine List.Pairwise.imp ?_ h
 intro a b hab x hx y hy
 unfold q3E at hx hy
 split at hx
 ·split at hy
  ·obtain ⟨_, _, e⟩ := Option.map_eq_some_iff.1 hx
   obtain ⟨_, _, e'⟩ := Option.map_eq_some_iff.1 hy
   subst e e'
   exact hab
  ·cases hy
 ·cases hx
theorem qdy {K K' : KsS} (h : q0D K) (h' : q0D K') {lo hi : KeyS} {t : Nat} (he : ∀ k, q1D K k t = q1D K' k t) : q1E K lo hi t = q1E K' lo hi t :=
 q5t Prod.fst (q6l h lo hi t) (q6l h' lo hi t) fun p => by rw [qaD h, qaD h', he]
theorem q5e {st : PS} (h : OkS st) {low t : Nat} (ht : low ≤ t) (k : KeyS) : q1D (q06 st.K low) k t = q1D st.K k t := by
 unfold q1D
 rw [q10 h.sort]
 exact qes ((q13 _ 0).1 (h.rightC k)).2 ht
end Go.Proofs.YtdpbllacfljmoaaGreat
