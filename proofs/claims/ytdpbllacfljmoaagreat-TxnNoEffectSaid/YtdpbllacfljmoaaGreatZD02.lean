import Derived.Test.YtdpbllacfljmoaaGreatZD01
set_option maxRecDepth 100000
set_option maxHeartbeats 16000000
set_option linter.unusedVariables false
namespace Go.Proofs.YtdpbllacfljmoaaGreat
open Go.RowKit
abbrev KeyS := List UInt8
abbrev KsS := List (KeyS × List Ver)
structure Wr where
 key : KeyS
 gone : Bool
 dat : List UInt8
structure LimS where
 keys : Int
 vers : Int
 byts : Int
 last : Nat
structure PS where
 time : Nat
 K : KsS
def q03 (K : KsS) (k : KeyS) : List Ver := ((K.find? fun x => x.1 == k).map Prod.snd).getD []
def q0E (K : KsS) (k : KeyS) (t : Nat) : Option (List UInt8) := getH (q03 K k) t
def inS (lo hi k : KeyS) : Bool := !blt k lo && (hi.isEmpty || blt k hi)
def q3G (lo hi : KeyS) (t : Nat) (x : KeyS × List Ver) : Option (KeyS × List UInt8) := if inS lo hi x.1 = true then (getH x.2 t).map fun b => (x.1, b) else none
def q1q (K : KsS) (lo hi : KeyS) (t : Nat) : List (KeyS × List UInt8) := K.filterMap (q3G lo hi t)
def q0h : KeyS → List Wr → Int
 | _, [] => 0
 | last, w :: l => if 256 < w.key.length ∨ 4096 < w.dat.length then 3 else if blt last w.key = false ∨ q4A ⟨0, w.gone, w.dat⟩ = false then 1 else q0h w.key l
def q1l (K : KsS) : Nat := (K.map fun x => x.2.length).sum
def q39 (K : KsS) : Nat := (K.map fun x => x.1.length + q0x x.2).sum
def putS (K : KsS) (k : KeyS) (c : List Ver) : KsS := K.filter (fun x => blt x.1 k) ++ (if c.isEmpty = true then [] else [(k, c)]) ++ K.filter (fun x => blt k x.1)
def addH (l : List Ver) (v : Ver) : List Ver := if (q1s l && q1s [v]) = true then if v.tm ≤ q2L l then [] else l ++ [v] else []
def q1S (st : PS) (w : Wr) : Bool := !(w.gone && (q0E st.K w.key st.time).isNone)
def verW (st : PS) (w : Wr) : Ver := ⟨st.time + 1, w.gone, w.dat⟩
def q1b (st : PS) (K : KsS) (w : Wr) : KsS := if q1S st w = true then putS K w.key (addH (q03 st.K w.key) (verW st w)) else K
def q0s (st : PS) (l : List Wr) : KsS := l.foldl (q1b st) st.K
def q3r (L : LimS) (K : KsS) : Bool := decide ((K.length : Int) ≤ L.keys) && decide ((q1l K : Int) ≤ L.vers) && decide ((q39 K : Int) ≤ L.byts)
def q3J (low : Nat) (x : KeyS × List Ver) : Option (KeyS × List Ver) := if (q0p x.2 low).isEmpty = true then none else some (x.1, q0p x.2 low)
def q07 (K : KsS) (low : Nat) : KsS := K.filterMap (q3J low)
def q2M (L : LimS) (st : PS) (l : List Wr) (low : Nat) : PS := if q3r L (q0s st l) = true then st else ⟨st.time, q07 st.K low⟩
def q09 (L : LimS) (st : PS) (l : List Wr) (low : Nat) : PS × Nat × Int :=
 if q0h [] l ≠ 0 then (st, 0, q0h [] l)
 else if l = [] then (st, st.time, 0)
 else if st.time = L.last then (st, 0, 5)
 else if q3r L (q0s (q2M L st l low) l) = true then (⟨st.time + 1, q0s (q2M L st l low) l⟩, st.time + 1, 0)
 else (q2M L st l low, 0, 5)
theorem q1f {a b : List UInt8} (h : blt a b = true) : a ≠ b := fun e => by
 subst e
 rw [q0V] at h
 cases h
theorem q5G {a b : List UInt8} (h : a ≠ b) : (a == b) = false := by rw [beq_eq_false_iff_ne]; exact h
theorem q5w {α : Type} (f : α → List UInt8) : ∀ {a b : List α}, a.Pairwise (fun x y => blt (f x) (f y) = true) → b.Pairwise (fun x y => blt (f x) (f y) = true) → (∀ x, x ∈ a ↔ x ∈ b) → a = b
 | [], [], _, _, _ => rfl
 | [], y :: b, _, _, h => absurd ((h y).2 (List.mem_cons_self ..)) (by simp)
 | x :: a, [], _, _, h => absurd ((h x).1 (List.mem_cons_self ..)) (by simp)
 | x :: a, y :: b, ha, hb, h => by
  rw [List.pairwise_cons] at ha hb
  have e : x = y := by
   rcases List.mem_cons.1 ((h x).1 (List.mem_cons_self ..)) with e | hx
   ·exact e
   ·rcases List.mem_cons.1 ((h y).2 (List.mem_cons_self ..)) with e | hy
    ·exact e.symm
    ·have h1 := q1Q (hb.1 x hx)
     rw [ha.1 y hy] at h1
     cases h1
  subst e
  have ht := q5w f ha.2 hb.2 (fun z => by
   constructor
   ·intro hz
    rcases List.mem_cons.1 ((h z).1 (List.mem_cons_of_mem _ hz)) with e | hz'
    ·subst e
     exact absurd rfl (q1f (ha.1 z hz))
    ·exact hz'
   ·intro hz
    rcases List.mem_cons.1 ((h z).2 (List.mem_cons_of_mem _ hz)) with e | hz'
    ·subst e
     exact absurd rfl (q1f (hb.1 z hz))
    ·exact hz')
  rw [ht]
def q0D (K : KsS) : Prop := K.Pairwise (fun x y => blt x.1 y.1 = true)
def q29 (K : KsS) : Prop := ∀ x ∈ K, x.2 ≠ []
theorem q6I (k : KeyS) : q03 [] k = [] := rfl
theorem q0q (x : KeyS × List Ver) (K : KsS) (k : KeyS) : q03 (x :: K) k = if x.1 = k then x.2 else q03 K k := by
 unfold q03
 rw [List.find?_cons]
 by_cases h : x.1 = k
 ·rw [if_pos h, h, beq_self_eq_true]
  rfl
 ·rw [if_neg h, q5G h]
theorem q2z {K : KsS} {k : KeyS} (h : ∀ x ∈ K, x.1 ≠ k) : q03 K k = [] := by
 induction K with
 | nil => rfl
 | cons x K ih =>
  rw [q0q, if_neg (h x (List.mem_cons_self ..))]
  exact ih fun y hy => h y (List.mem_cons_of_mem _ hy)
theorem q0D.tail {x : KeyS × List Ver} {K : KsS} (h : q0D (x :: K)) : q0D K := (List.pairwise_cons.1 h).2
theorem q0D.head {x : KeyS × List Ver} {K : KsS} (h : q0D (x :: K)) : ∀ y ∈ K, blt x.1 y.1 = true := (List.pairwise_cons.1 h).1
theorem q0G {K : KsS} (h : q0D K) {x : KeyS × List Ver} (hx : x ∈ K) : q03 K x.1 = x.2 := by
 induction K with
 | nil => cases hx
 | cons y K ih =>
  rw [q0q]
  rcases List.mem_cons.1 hx with rfl | hx
  ·rw [if_pos rfl]
  ·rw [if_neg (q1f (h.head x hx))]
   exact ih h.tail hx
theorem q14 {K : KsS} {k : KeyS} (h : q03 K k ≠ []) : (k, q03 K k) ∈ K := by
 induction K with
 | nil => exact absurd rfl h
 | cons y K ih =>
  rw [q0q] at h ⊢
  by_cases e : y.1 = k
  ·rw [if_pos e]
   subst e
   exact List.mem_cons_self ..
  ·rw [if_neg e] at h ⊢
   exact List.mem_cons_of_mem _ (ih h)
theorem qdM {K K' : KsS} (h : q0D K) (h' : q0D K') (hf : q29 K) (hf' : q29 K') (he : ∀ k, q03 K k = q03 K' k) : K = K' := by
 refine q5w Prod.fst h h' fun x => ?_
 constructor
 ·intro hx
  have e := q0G h hx
  have h2 : q03 K' x.1 ≠ [] := by rw [← he, e]; exact hf x hx
  have h3 := q14 h2
  rw [← he, e] at h3
  exact h3
 ·intro hx
  have e := q0G h' hx
  have h2 : q03 K x.1 ≠ [] := by rw [he, e]; exact hf' x hx
  have h3 := q14 h2
  rw [he, e] at h3
  exact h3
theorem q1H {K : KsS} {k : KeyS} {c : List Ver} {x : KeyS × List Ver} : x ∈ putS K k c ↔ (x ∈ K ∧ blt x.1 k = true) ∨ (x = (k, c) ∧ c ≠ []) ∨ (x ∈ K ∧ blt k x.1 = true) := by
 unfold putS
 rw [List.mem_append, List.mem_append, List.mem_filter, List.mem_filter]
 cases c with
 | nil => simp
 | cons v c => simp [or_assoc]
theorem q3T {K : KsS} (h : q0D K) (k : KeyS) (c : List Ver) : q0D (putS K k c) := by
 unfold putS q0D
 rw [List.pairwise_append, List.pairwise_append]
 refine ⟨⟨List.Pairwise.filter _ h, ?_, ?_⟩, List.Pairwise.filter _ h, ?_⟩
 ·cases c <;> simp
 ·intro a ha b hb
  cases c with
  | nil => simp at hb
  | cons v c =>
   have hb : b = (k, v :: c) := by simpa using hb
   subst hb
   exact (List.mem_filter.1 ha).2
 ·intro a ha b hb
  have hb2 := (List.mem_filter.1 hb).2
  rcases List.mem_append.1 ha with ha | ha
  ·exact q0o (List.mem_filter.1 ha).2 hb2
  ·cases c with
   | nil => simp at ha
   | cons v c =>
    have ha : a = (k, v :: c) := by simpa using ha
    subst ha
    exact hb2
theorem qaw {K : KsS} (h : q29 K) (k : KeyS) (c : List Ver) : q29 (putS K k c) := fun x hx => by
 rcases q1H.1 hx with ⟨h1, _⟩ | ⟨rfl, h1⟩ | ⟨h1, _⟩
 ·exact h x h1
 ·exact h1
 ·exact h x h1
theorem q5I {K : KsS} (h : q0D K) {k : KeyS} {c : List Ver} (hm : c ≠ [] → (k, c) ∈ K) (hn : c = [] → ∀ x ∈ K, x.1 ≠ k) : q03 K k = c := by
 by_cases hc : c = []
 ·rw [hc]
  exact q2z (hn hc)
 ·exact q0G h (hm hc)
theorem q3v {K : KsS} (h : q0D K) (hf : q29 K) (k : KeyS) (c : List Ver) (k' : KeyS) : q03 (putS K k c) k' = if k' = k then c else q03 K k' := by
 by_cases e : k' = k
 ·subst e
  rw [if_pos rfl]
  refine q5I (q3T h k' c) (fun hc => q1H.2 (.inr (.inl ⟨rfl, hc⟩))) fun hc x hx => ?_
  rcases q1H.1 hx with ⟨_, h1⟩ | ⟨_, h1⟩ | ⟨_, h1⟩
  ·exact q1f h1
  ·exact absurd hc h1
  ·exact fun e => q1f h1 e.symm
 ·rw [if_neg e]
  refine q5I (q3T h k c) (fun hc => ?_) fun hc x hx ex => ?_
  ·have hm := q14 hc
   rcases q23 k' k with g | g | g
   ·exact q1H.2 (.inl ⟨hm, g⟩)
   ·exact absurd g e
   ·exact q1H.2 (.inr (.inr ⟨hm, g⟩))
  ·have no : x ∈ K → False := fun hm => by
    have h1 := q0G h hm
    rw [ex, hc] at h1
    exact hf x hm h1.symm
   rcases q1H.1 hx with ⟨h1, _⟩ | ⟨rfl, _⟩ | ⟨h1, _⟩
   ·exact no h1
   ·exact e ex.symm
   ·exact no h1
def sumS (m : KeyS → List Ver → Nat) (K : KsS) : Nat := (K.map fun x => m x.1 x.2).sum
theorem q2H (m : KeyS → List Ver → Nat) (x : KeyS × List Ver) (K : KsS) : sumS m (x :: K) = m x.1 x.2 + sumS m K := by simp [sumS]
theorem q5z (m : KeyS → List Ver → Nat) (a b : KsS) : sumS m (a ++ b) = sumS m a + sumS m b := by simp [sumS]
def m1 : KeyS → List Ver → Nat := fun _ c => if c = [] then 0 else 1
def m2 : KeyS → List Ver → Nat := fun _ c => c.length
def m3 : KeyS → List Ver → Nat := fun k c => if c = [] then 0 else k.length + q0x c
theorem q4c {K : KsS} (hf : q29 K) : K.length = sumS m1 K := by
 induction K with
 | nil => rfl
 | cons x K ih =>
  rw [q2H, List.length_cons, ih fun y hy => hf y (List.mem_cons_of_mem _ hy)]
  have := hf x (List.mem_cons_self ..)
  unfold m1
  rw [if_neg this]
  omega
theorem q2v (K : KsS) : q1l K = sumS m2 K := rfl
theorem q3a {K : KsS} (hf : q29 K) : q39 K = sumS m3 K := by
 induction K with
 | nil => rfl
 | cons x K ih =>
  have e : q39 (x :: K) = x.1.length + q0x x.2 + q39 K := by simp [q39]
  rw [q2H, e, ih fun y hy => hf y (List.mem_cons_of_mem _ hy)]
  have := hf x (List.mem_cons_self ..)
  unfold m3
  rw [if_neg this]
theorem q7O {m : KeyS → List Ver → Nat} (h0 : ∀ k, m k [] = 0) {K : KsS} (h : q0D K) (k : KeyS) : sumS m K = m k (q03 K k) + sumS m (K.filter fun x => decide (x.1 ≠ k)) := by
 induction K with
 | nil => simp [sumS, q6I, h0]
 | cons x K ih =>
  rw [q2H, q0q, List.filter_cons]
  by_cases e : x.1 = k
  ·have hall : K.filter (fun x => decide (x.1 ≠ k)) = K := List.filter_eq_self.2 fun y hy => by
    have := q1f (h.head y hy)
    rw [e] at this
    simpa using fun e => this e.symm
   rw [if_pos e, if_neg (by simp [e]), hall, e]
  ·rw [if_neg e, if_pos (by simp [e]), q2H, ih h.tail]
   omega
theorem q2A {K : KsS} {k k' : KeyS} (h : k' ≠ k) : q03 (K.filter fun x => decide (x.1 ≠ k)) k' = q03 K k' := by
 induction K with
 | nil => rfl
 | cons x K ih =>
  rw [List.filter_cons]
  by_cases e : x.1 = k
  ·rw [if_neg (by simp [e]), ih, q0q, if_neg (by rw [e]; exact fun e => h e.symm)]
  ·rw [if_pos (by simp [e]), q0q, q0q, ih]
theorem q58 {K : KsS} {k : KeyS} : q03 (K.filter fun x => decide (x.1 ≠ k)) k = [] := q2z fun x hx => by simpa using (List.mem_filter.1 hx).2
theorem q2G {K : KsS} (h : q0D K) (p : KeyS × List Ver → Bool) : q0D (K.filter p) := List.Pairwise.filter _ h
theorem q6t {m : KeyS → List Ver → Nat} (h0 : ∀ k, m k [] = 0) : ∀ {K K' : KsS}, q0D K → q0D K' → (∀ k, m k (q03 K k) ≤ m k (q03 K' k)) → sumS m K ≤ sumS m K'
 | [], _, _, _, _ => Nat.zero_le _
 | x :: K, K', h, h', hle => by
  rw [q2H, q7O h0 h' x.1]
  have h1 := hle x.1
  rw [q0q, if_pos rfl] at h1
  have h2 := q6t h0 h.tail (q2G h' fun y => decide (y.1 ≠ x.1)) fun k => by
   by_cases e : k = x.1
   ·subst e
    rw [q2z fun y hy => fun e => q1f (h.head y hy) e.symm, h0]
    exact Nat.zero_le _
   ·rw [q2A e]
    have := hle k
    rw [q0q, if_neg (fun e2 => e e2.symm)] at this
    exact this
  omega
theorem qa9 {m : KeyS → List Ver → Nat} (h0 : ∀ k, m k [] = 0) {K : KsS} (h : q0D K) (hf : q29 K) (k : KeyS) (c : List Ver) : sumS m (putS K k c) + m k (q03 K k) = sumS m K + m k c := by
 have h1 := q7O h0 (q3T h k c) k
 have h2 := q7O h0 h k
 rw [q3v h hf, if_pos rfl] at h1
 have e : sumS m ((putS K k c).filter fun x => decide (x.1 ≠ k)) = sumS m (K.filter fun x => decide (x.1 ≠ k)) := by
  apply Nat.le_antisymm
  ·refine q6t h0 (q2G (q3T h k c) _) (q2G h _) fun k' => ?_
   by_cases e : k' = k
   ·subst e
    rw [q58, h0]
    exact Nat.zero_le _
   ·rw [q2A e, q2A e, q3v h hf, if_neg e]
    exact Nat.le_refl _
  ·refine q6t h0 (q2G h _) (q2G (q3T h k c) _) fun k' => ?_
   by_cases e : k' = k
   ·subst e
    rw [q58, h0]
    exact Nat.zero_le _
   ·rw [q2A e, q2A e, q3v h hf, if_neg e]
    exact Nat.le_refl _
 omega
open Go.RowKit
structure OkS (st : PS) : Prop where
 sort : q0D st.K
 full : q29 st.K
 right : ∀ x ∈ st.K, q1s x.2 = true
 time : ∀ x ∈ st.K, ∀ v ∈ x.2, v.tm ≤ st.time
theorem ok_none : OkS ⟨0, []⟩ := ⟨List.Pairwise.nil, (fun _ h => by cases h), (fun _ h => by cases h), (fun _ h => by cases h)⟩
section
variable {st : PS}
theorem OkS.rightC (h : OkS st) (k : KeyS) : q1s (q03 st.K k) = true := by
 by_cases e : q03 st.K k = []
 ·rw [e]; rfl
 ·exact h.right _ (q14 e)
theorem OkS.upto (h : OkS st) (k : KeyS) : ∀ v ∈ q03 st.K k, v.tm ≤ st.time := by
 by_cases e : q03 st.K k = []
 ·rw [e]; intro v hv; cases hv
 ·exact h.time _ (q14 e)
theorem q7y {l : List Ver} {t : Nat} (h : ∀ v ∈ l, v.tm ≤ t) : q2L l ≤ t := by
 unfold q2L
 cases hl : l.getLast? with
 | none => exact Nat.zero_le _
 | some v => exact h v (List.mem_of_getLast? hl)
end
theorem q0N : ∀ {l : List Wr} {last : KeyS}, q0h last l = 0 → (∀ w ∈ l, blt last w.key = true ∧ w.key.length ≤ 256 ∧ w.dat.length ≤ 4096 ∧ q4A ⟨0, w.gone, w.dat⟩ = true) ∧ l.Pairwise (fun a b => blt a.key b.key = true)
 | [], _, _ => ⟨(fun _ h => by cases h), List.Pairwise.nil⟩
 | w :: l, last, h => by
  unfold q0h at h
  split at h
  ·cases h
  ·next h1 =>
   split at h
   ·cases h
   ·next h2 =>
    obtain ⟨k1, k2⟩ := q0N h
    have g1 : blt last w.key = true := by
     cases e : blt last w.key
     ·exact absurd (.inl e) h2
     ·rfl
    have g2 : q4A ⟨0, w.gone, w.dat⟩ = true := by
     cases e : q4A ⟨0, w.gone, w.dat⟩
     ·exact absurd (.inr e) h2
     ·rfl
    refine ⟨fun x hx => ?_, List.pairwise_cons.2 ⟨fun x hx => (k1 x hx).1, k2⟩⟩
    rcases List.mem_cons.1 hx with rfl | hx
    ·exact ⟨g1, by omega, by omega, g2⟩
    ·exact ⟨q0o g1 (k1 x hx).1, (k1 x hx).2⟩
theorem qbZ {l : List Ver} {v : Ver} (h : q1s l = true) (hv : q4A v = true) (ht : q2L l < v.tm) : addH l v = l ++ [v] := by
 have h1 : q1s [v] = true := (q0Y [v] 0).2 ⟨fun x hx => by
  rw [List.mem_singleton] at hx
  subst hx
  exact ⟨by omega, hv⟩, List.pairwise_singleton ..⟩
 unfold addH
 rw [h, h1, if_pos (show (true && true) = true from rfl), if_neg (by omega)]
def newC (st : PS) (w : Wr) : List Ver := if q1S st w = true then addH (q03 st.K w.key) (verW st w) else q03 st.K w.key
def qah (st : PS) (l : List Wr) (k : KeyS) : List Ver := match l.find? fun w => w.key == k with | some w => newC st w | none => q03 st.K k
theorem q6w (st : PS) : ∀ (l : List Wr) (K : KsS), l.Pairwise (fun a b => blt a.key b.key = true) → q0D K → q29 K → (∀ w ∈ l, q03 K w.key = q03 st.K w.key) →
  q0D (l.foldl (q1b st) K) ∧ q29 (l.foldl (q1b st) K) ∧ ∀ k, q03 (l.foldl (q1b st) K) k = match l.find? fun w => w.key == k with | some w => newC st w | none => q03 K k
 | [], K, _, h, hf, _ => ⟨h, hf, fun _ => rfl⟩
 | w :: l, K, hl, h, hf, hk => by
  obtain ⟨hw, hl'⟩ := List.pairwise_cons.1 hl
  have hne : ∀ x ∈ l, x.key ≠ w.key := fun x hx e => q1f (hw x hx) e.symm
  have h1 : q0D (q1b st K w) := by unfold q1b; split; exact q3T h _ _; exact h
  have h2 : q29 (q1b st K w) := by unfold q1b; split; exact qaw hf _ _; exact hf
  have h3 : ∀ k, q03 (q1b st K w) k = if k = w.key then newC st w else q03 K k := fun k => by
   unfold q1b newC
   split
   ·rw [q3v h hf]
   ·split
    ·next e => rw [e]; exact hk w (List.mem_cons_self ..)
    ·rfl
  obtain ⟨k1, k2, k3⟩ := q6w st l (q1b st K w) hl' h1 h2 fun x hx => by
   rw [h3, if_neg (hne x hx)]
   exact hk x (List.mem_cons_of_mem _ hx)
  refine ⟨k1, k2, fun k => ?_⟩
  rw [List.foldl_cons, k3, List.find?_cons]
  by_cases e : w.key = k
  ·have hno : l.find? (fun x => x.key == k) = none := List.find?_eq_none.2 fun x hx => by
    have := hne x hx
    rw [e] at this
    simpa using this
   have hy : (w.key == k) = true := by rw [e]; exact beq_self_eq_true _
   rw [hno, hy, h3, if_pos e.symm]
  ·rw [q5G e]
   show (match l.find? (fun x => x.key == k) with | some w => newC st w | none => q03 (q1b st K w) k) = match l.find? (fun x => x.key == k) with | some w => newC st w | none => q03 K k
   rw [h3, if_neg (fun e2 => e e2.symm)]
section
variable {st : PS} {l : List Wr}
theorem qfH (h : OkS st) {w : Wr} (hw : q4A ⟨0, w.gone, w.dat⟩ = true) : newC st w = if q1S st w = true then q03 st.K w.key ++ [verW st w] else q03 st.K w.key := by
 unfold newC
 split
 ·exact qbZ (h.rightC _) hw (Nat.lt_succ_of_le (q7y (h.upto _)))
 ·rfl
theorem qae (h : OkS st) (hc : q0h [] l = 0) : q0D (q0s st l) ∧ q29 (q0s st l) ∧ ∀ k, q03 (q0s st l) k = qah st l k := by
 obtain ⟨_, h2⟩ := q0N hc
 exact q6w st l st.K h2 h.sort h.full fun _ _ => rfl
theorem q3s (h : OkS st) (hc : q0h [] l = 0) (k : KeyS) : qah st l k = q03 st.K k ∨ ∃ w ∈ l, w.key = k ∧ q1S st w = true ∧ qah st l k = q03 st.K k ++ [verW st w] ∧ q4A (verW st w) = true := by
 obtain ⟨h1, _⟩ := q0N hc
 unfold qah
 cases hf : l.find? fun w => w.key == k with
 | none => exact Or.inl (Eq.refl (q03 st.K k))
 | some w =>
  have hm := List.mem_of_find?_eq_some hf
  have hk : w.key = k := by simpa using List.find?_some hf
  have ho := (h1 w hm).2.2.2
  have e : newC st w = if q1S st w = true then q03 st.K k ++ [verW st w] else q03 st.K k := by rw [qfH h ho, hk]
  by_cases hcm : q1S st w = true
  ·rw [if_pos hcm] at e
   exact .inr ⟨w, hm, hk, hcm, e, ho⟩
  ·rw [if_neg hcm] at e
   exact .inl e
theorem q7D (h : OkS st) (hc : q0h [] l = 0) : OkS ⟨st.time + 1, q0s st l⟩ := by
 obtain ⟨k1, k2, k3⟩ := qae h hc
 refine ⟨k1, k2, fun x hx => ?_, fun x hx => ?_⟩
 ·have e := q0G k1 hx
  rw [← e, k3]
  rcases q3s h hc x.1 with e2 | ⟨w, _, _, _, e2, ho⟩
  ·rw [e2]; exact h.rightC _
  ·rw [e2]; exact qdC (h.rightC _) ho (Nat.lt_succ_of_le (q7y (h.upto _)))
 ·have e := q0G k1 hx
  rw [← e, k3]
  intro v hv
  rcases q3s h hc x.1 with e2 | ⟨w, _, _, _, e2, ho⟩
  ·rw [e2] at hv
   exact Nat.le_succ_of_le (h.upto _ v hv)
  ·rw [e2] at hv
   rcases List.mem_append.1 hv with hv | hv
   ·exact Nat.le_succ_of_le (h.upto _ v hv)
   ·rw [List.mem_singleton] at hv
    subst hv
    exact Nat.le_refl _
end
theorem q1J {K : KsS} {low : Nat} {x : KeyS × List Ver} : x ∈ q07 K low ↔ ∃ y ∈ K, x = (y.1, q0p y.2 low) ∧ x.2 ≠ [] := by
 unfold q07
 rw [List.mem_filterMap]
 constructor
 ·rintro ⟨y, hy, e⟩
  unfold q3J at e
  split at e
  ·cases e
  ·next h =>
   injection e with e
   subst e
   exact ⟨y, hy, rfl, by simpa using h⟩
 ·rintro ⟨y, hy, e, h⟩
  refine ⟨y, hy, ?_⟩
  unfold q3J
  subst e
  rw [if_neg (by simpa using h)]
theorem q0O {K : KsS} (h : q0D K) (low : Nat) : q0D (q07 K low) := by
 unfold q07 q0D
 rw [List.pairwise_filterMap]
 refine List.Pairwise.imp ?_ h
 intro a b hab x hx y hy
 unfold q3J at hx hy
 split at hx
 ·cases hx
 ·split at hy
  ·cases hy
  ·injection hx with hx
   injection hy with hy
   subst hx hy
   exact hab
theorem q1g (K : KsS) (low : Nat) : q29 (q07 K low) := fun x hx => by
 obtain ⟨_, _, _, h⟩ := q1J.1 hx
 exact h
theorem q0M {K : KsS} (h : q0D K) (low : Nat) (k : KeyS) : q03 (q07 K low) k = q0p (q03 K k) low := by
 refine q5I (q0O h low) (fun hc => ?_) fun hc x hx e => ?_
 ·have hn : q03 K k ≠ [] := fun e => hc (by rw [e]; rfl)
  exact q1J.2 ⟨(k, q03 K k), q14 hn, rfl, hc⟩
 ·obtain ⟨y, hy, ex, hn⟩ := q1J.1 hx
  have e2 : y.1 = k := by rw [← e, ex]
  have h1 := q0G h hy
  rw [e2] at h1
  rw [h1] at hc
  exact hn (by rw [ex]; exact hc)
theorem q2F {st : PS} (h : OkS st) (low : Nat) : OkS ⟨st.time, q07 st.K low⟩ := by
 refine ⟨q0O h.sort low, q1g _ _, fun x hx => ?_, fun x hx v hv => ?_⟩
 ·obtain ⟨y, hy, e, _⟩ := q1J.1 hx
  rw [e]
  exact qbM (h.right y hy) low
 ·obtain ⟨y, hy, e, _⟩ := q1J.1 hx
  rw [e] at hv
  exact h.time y hy v (qaU hv)
theorem qaT (l : List Ver) (low : Nat) : (q0p l low).length ≤ l.length := by
 have hp : ∀ l : List Ver, (l.filter fun v => decide (v.tm ≤ low)).length + (l.filter fun v => decide (low < v.tm)).length = l.length := fun l => by
  induction l with
  | nil => rfl
  | cons v l ih =>
   rw [List.filter_cons, List.filter_cons]
   by_cases hv : v.tm ≤ low
   ·rw [if_pos (by simpa using hv), if_neg (by simp; omega)]
    simp only [List.length_cons]
    omega
   ·rw [if_neg (by simpa using hv), if_pos (by simp; omega)]
    simp only [List.length_cons]
    omega
 have h := hp l
 unfold q0p
 rw [List.length_append]
 have hk : (q49 (q0U l low)).length ≤ (l.filter fun v => decide (v.tm ≤ low)).length := by
  unfold q0U
  cases hf : (l.filter fun v => decide (v.tm ≤ low)).getLast? with
  | none => exact Nat.zero_le _
  | some v =>
   have := List.length_pos_of_mem (List.mem_of_getLast? hf)
   have := qaC (some v)
   omega
 omega
theorem q3Y : (∀ k, m1 k [] = 0) ∧ (∀ k, m2 k [] = 0) ∧ ∀ k, m3 k [] = 0 := ⟨fun _ => rfl, fun _ => rfl, fun _ => rfl⟩
theorem qd9 (k : KeyS) (l : List Ver) (low : Nat) : m1 k (q0p l low) ≤ m1 k l ∧ m2 k (q0p l low) ≤ m2 k l ∧ m3 k (q0p l low) ≤ m3 k l := by
 have hn : l = [] → q0p l low = [] := fun e => by rw [e]; rfl
 refine ⟨?_, qaT l low, ?_⟩
 ·unfold m1
  by_cases h : q0p l low = []
  ·rw [if_pos h]; exact Nat.zero_le _
  ·rw [if_neg h, if_neg (fun e => h (hn e))]; exact Nat.le_refl _
 ·unfold m3
  by_cases h : q0p l low = []
  ·rw [if_pos h]; exact Nat.zero_le _
  ·rw [if_neg h, if_neg (fun e => h (hn e))]
   have := q8Z l low
   omega
theorem qfs {L : LimS} {K K' : KsS} (h : q0D K) (h' : q0D K') (hf : q29 K) (hf' : q29 K') (hm : ∀ k, m1 k (q03 K k) ≤ m1 k (q03 K' k) ∧ m2 k (q03 K k) ≤ m2 k (q03 K' k) ∧ m3 k (q03 K k) ≤ m3 k (q03 K' k)) (hfit : q3r L K' = true) : q3r L K = true := by
 have s1 := q6t q3Y.1 h h' fun k => (hm k).1
 have s2 := q6t q3Y.2.1 h h' fun k => (hm k).2.1
 have s3 := q6t q3Y.2.2 h h' fun k => (hm k).2.2
 rw [← q4c hf, ← q4c hf'] at s1
 rw [← q2v, ← q2v] at s2
 rw [← q3a hf, ← q3a hf'] at s3
 unfold q3r at hfit ⊢
 simp only [Bool.and_eq_true, decide_eq_true_eq] at hfit ⊢
 omega
theorem q2O {L : LimS} {K : KsS} (h : q0D K) (hf : q29 K) (low : Nat) (hfit : q3r L K = true) : q3r L (q07 K low) = true :=
 qfs (q0O h low) h (q1g _ _) hf (fun k => by rw [q0M h]; exact qd9 k _ low) hfit
theorem qaF {K : KsS} (h : q0D K) {lo hi : KeyS} {t : Nat} {p : KeyS × List UInt8} : p ∈ q1q K lo hi t ↔ inS lo hi p.1 = true ∧ q0E K p.1 t = some p.2 := by
 unfold q1q
 rw [List.mem_filterMap]
 constructor
 ·rintro ⟨x, hx, e⟩
  unfold q3G at e
  split at e
  ·next hi =>
   obtain ⟨b, hb, e⟩ := Option.map_eq_some_iff.1 e
   subst e
   unfold q0E
   rw [q0G h hx]
   exact ⟨hi, hb⟩
  ·cases e
 ·rintro ⟨h1, h2⟩
  have hn : q03 K p.1 ≠ [] := fun e => by
   unfold q0E at h2
   rw [e] at h2
   cases h2
  refine ⟨_, q14 hn, ?_⟩
  unfold q3G
  unfold q0E at h2
  rw [if_pos h1, h2]
  rfl
theorem q6p {K : KsS} (h : q0D K) (lo hi : KeyS) (t : Nat) : (q1q K lo hi t).Pairwise fun a b => blt a.1 b.1 = true := by
 unfold q1q
 rw [List.pairwise_filterMap]
 refine List.Pairwise.imp ?_ h
 intro a b hab x hx y hy
 unfold q3G at hx hy
 split at hx
 ·split at hy
  ·obtain ⟨_, _, e⟩ := Option.map_eq_some_iff.1 hx
   obtain ⟨_, _, e'⟩ := Option.map_eq_some_iff.1 hy
   subst e e'
   exact hab
  ·cases hy
 ·cases hx
theorem q8V {K K' : KsS} (h : q0D K) (h' : q0D K') {lo hi : KeyS} {t : Nat} (he : ∀ k, q0E K k t = q0E K' k t) : q1q K lo hi t = q1q K' lo hi t :=
 q5w Prod.fst (q6p h lo hi t) (q6p h' lo hi t) fun p => by rw [qaF h, qaF h', he]
theorem q5h {st : PS} (h : OkS st) {low t : Nat} (ht : low ≤ t) (k : KeyS) : q0E (q07 st.K low) k t = q0E st.K k t := by
 unfold q0E
 rw [q0M h.sort]
 exact qax ((q0Y _ 0).1 (h.rightC k)).2 ht
theorem q8x {l : List Ver} (h : l.Pairwise (fun a b => a.tm < b.tm)) {t low : Nat} (ht : ∀ v ∈ l, v.tm ≤ t) : getH (q0p l low) t = getH l t := by
 by_cases hl : low ≤ t
 ·exact qax h hl
 ·have e1 : (l.filter fun v => decide (low < v.tm)) = [] := List.filter_eq_nil_iff.2 fun v hv => by
   have := ht v hv
   simp; omega
  have e2 : q0U l low = l.getLast? := by
   unfold q0U
   rw [List.filter_eq_self.2 fun v hv => by have := ht v hv; simp; omega]
  have e3 : q0U l t = l.getLast? := by
   unfold q0U
   rw [List.filter_eq_self.2 fun v hv => by have := ht v hv; simp; omega]
  unfold getH q0p
  rw [e1, e2, e3, List.append_nil]
  cases hg : l.getLast? with
  | none => rfl
  | some v =>
   have hv := ht v (List.mem_of_getLast? hg)
   by_cases hgo : v.gone = true
   ·rw [q2C hgo, qdn hgo]
    rfl
   ·have hgf : v.gone = false := by simpa using hgo
    rw [q3e hgf]
    unfold q0U
    rw [List.filter_cons, if_pos (by simpa using hv)]
    rfl
theorem q3q {st : PS} (h : OkS st) (low : Nat) (k : KeyS) : q0E (q07 st.K low) k st.time = q0E st.K k st.time := by
 unfold q0E
 rw [q0M h.sort]
 exact q8x ((q0Y _ 0).1 (h.rightC k)).2 (h.upto k)
end Go.Proofs.YtdpbllacfljmoaaGreat
