import Derived.Test.YtdpbllacfljmoaaGreatZF01
set_option maxRecDepth 100000
set_option maxHeartbeats 16000000
set_option linter.unusedVariables false
namespace Go.Proofs.YtdpbllacfljmoaaGreat
open Go.RowKit
structure OkS (st : PS) : Prop where
 sort : q0F st.K
 full : q2i st.K
 right : ∀ x ∈ st.K, q1A x.2 = true
 time : ∀ x ∈ st.K, ∀ v ∈ x.2, v.tm ≤ st.time
theorem ok_none : OkS ⟨0, []⟩ := ⟨List.Pairwise.nil, (fun _ h => by cases h), (fun _ h => by cases h), (fun _ h => by cases h)⟩
section
variable {st : PS}
theorem OkS.rightC (h : OkS st) (k : KeyS) : q1A (q03 st.K k) = true := by
 by_cases e : q03 st.K k = []
 ·rw [e]; rfl
 ·exact h.right _ (q14 e)
theorem OkS.upto (h : OkS st) (k : KeyS) : ∀ v ∈ q03 st.K k, v.tm ≤ st.time := by
 by_cases e : q03 st.K k = []
 ·rw [e]; intro v hv; cases hv
 ·exact h.time _ (q14 e)
theorem q7P {l : List Ver} {t : Nat} (h : ∀ v ∈ l, v.tm ≤ t) : q24 l ≤ t := by
 unfold q24
 cases hl : l.getLast? with
 | none => exact Nat.zero_le _
 | some v => exact h v (List.mem_of_getLast? hl)
end
theorem q0M : ∀ {l : List Wr} {last : KeyS}, q0h last l = 0 → (∀ w ∈ l, blt last w.key = true ∧ w.key.length ≤ 256 ∧ w.dat.length ≤ 4096 ∧ q4H ⟨0, w.gone, w.dat⟩ = true) ∧ l.Pairwise (fun a b => blt a.key b.key = true)
 | [], _, _ => ⟨(fun _ h => by cases h), List.Pairwise.nil⟩
 | w :: l, last, h => by
  unfold q0h at h
  split at h
  ·cases h
  ·next h1 =>
   split at h
   ·cases h
   ·next h2 =>
    obtain ⟨k1, k2⟩ := q0M h
    have g1 : blt last w.key = true := by
     cases e : blt last w.key
     ·exact absurd (.inl e) h2
     ·rfl
    have g2 : q4H ⟨0, w.gone, w.dat⟩ = true := by
     cases e : q4H ⟨0, w.gone, w.dat⟩
     ·exact absurd (.inr e) h2
     ·rfl
    refine ⟨fun x hx => ?_, List.pairwise_cons.2 ⟨fun x hx => (k1 x hx).1, k2⟩⟩
    rcases List.mem_cons.1 hx with rfl | hx
    ·exact ⟨g1, by omega, by omega, g2⟩
    ·exact ⟨q0p g1 (k1 x hx).1, (k1 x hx).2⟩
theorem qco {l : List Ver} {v : Ver} (h : q1A l = true) (hv : q4H v = true) (ht : q24 l < v.tm) : addH l v = l ++ [v] := by
 have h1 : q1A [v] = true := (q17 [v] 0).2 ⟨fun x hx => by
  rw [List.mem_singleton] at hx
  subst hx
  exact ⟨by omega, hv⟩, List.pairwise_singleton ..⟩
 unfold addH
 rw [h, h1, if_pos (show (true && true) = true from rfl), if_neg (by omega)]
def newC (st : PS) (w : Wr) : List Ver := if q1x st w = true then addH (q03 st.K w.key) (verW st w) else q03 st.K w.key
def q8c (st : PS) (l : List Wr) (k : KeyS) : List Ver := match l.find? fun w => w.key == k with | some w => newC st w | none => q03 st.K k
theorem q6M (st : PS) : ∀ (l : List Wr) (K : KsS), l.Pairwise (fun a b => blt a.key b.key = true) → q0F K → q2i K → (∀ w ∈ l, q03 K w.key = q03 st.K w.key) →
  q0F (l.foldl (q1e st) K) ∧ q2i (l.foldl (q1e st) K) ∧ ∀ k, q03 (l.foldl (q1e st) K) k = match l.find? fun w => w.key == k with | some w => newC st w | none => q03 K k
 | [], K, _, h, hf, _ => ⟨h, hf, fun _ => rfl⟩
 | w :: l, K, hl, h, hf, hk => by
  obtain ⟨hw, hl'⟩ := List.pairwise_cons.1 hl
  have hne : ∀ x ∈ l, x.key ≠ w.key := fun x hx e => q1j (hw x hx) e.symm
  have h1 : q0F (q1e st K w) := by unfold q1e; split; exact q3Z h _ _; exact h
  have h2 : q2i (q1e st K w) := by unfold q1e; split; exact qaP hf _ _; exact hf
  have h3 : ∀ k, q03 (q1e st K w) k = if k = w.key then newC st w else q03 K k := fun k => by
   unfold q1e newC
   split
   ·rw [q3w h hf]
   ·split
    ·next e => rw [e]; exact hk w (List.mem_cons_self ..)
    ·rfl
  obtain ⟨k1, k2, k3⟩ := q6M st l (q1e st K w) hl' h1 h2 fun x hx => by
   rw [h3, if_neg (hne x hx)]
   exact hk x (List.mem_cons_of_mem _ hx)
  refine ⟨k1, k2, fun k => ?_⟩
  rw [List.foldl_cons, k3, List.find?_cons]
  by_cases e : w.key = k
  ·have hno : l.find? (fun x => x.key == k) = none := List.find?_eq_none.2 fun x hx => by
    have := hne x hx
    rw [e] at this
    simpa using this
   have hy : (w.key == k) = true := by rw [e]; exact beq_self_eq_true _
   rw [hno, hy, h3, if_pos e.symm]
  ·rw [q5S e]
   show (match l.find? (fun x => x.key == k) with | some w => newC st w | none => q03 (q1e st K w) k) = match l.find? (fun x => x.key == k) with | some w => newC st w | none => q03 K k
   rw [h3, if_neg (fun e2 => e e2.symm)]
section
variable {st : PS} {l : List Wr}
theorem qag (h : OkS st) {w : Wr} (hw : q4H ⟨0, w.gone, w.dat⟩ = true) : newC st w = if q1x st w = true then q03 st.K w.key ++ [verW st w] else q03 st.K w.key := by
 unfold newC
 split
 ·exact qco (h.rightC _) hw (Nat.lt_succ_of_le (q7P (h.upto _)))
 ·rfl
theorem q5f (h : OkS st) (hc : q0h [] l = 0) : q0F (q0n st l) ∧ q2i (q0n st l) ∧ ∀ k, q03 (q0n st l) k = q8c st l k := by
 obtain ⟨_, h2⟩ := q0M hc
 exact q6M st l st.K h2 h.sort h.full fun _ _ => rfl
theorem q3u (h : OkS st) (hc : q0h [] l = 0) (k : KeyS) : q8c st l k = q03 st.K k ∨ ∃ w ∈ l, w.key = k ∧ q1x st w = true ∧ q8c st l k = q03 st.K k ++ [verW st w] ∧ q4H (verW st w) = true := by
 obtain ⟨h1, _⟩ := q0M hc
 unfold q8c
 cases hf : l.find? fun w => w.key == k with
 | none => exact Or.inl (Eq.refl (q03 st.K k))
 | some w =>
  have hm := List.mem_of_find?_eq_some hf
  have hk : w.key = k := by simpa using List.find?_some hf
  have ho := (h1 w hm).2.2.2
  have e : newC st w = if q1x st w = true then q03 st.K k ++ [verW st w] else q03 st.K k := by rw [qag h ho, hk]
  by_cases hcm : q1x st w = true
  ·rw [if_pos hcm] at e
   exact .inr ⟨w, hm, hk, hcm, e, ho⟩
  ·rw [if_neg hcm] at e
   exact .inl e
theorem q7T (h : OkS st) (hc : q0h [] l = 0) : OkS ⟨st.time + 1, q0n st l⟩ := by
 obtain ⟨k1, k2, k3⟩ := q5f h hc
 refine ⟨k1, k2, fun x hx => ?_, fun x hx => ?_⟩
 ·have e := q0K k1 hx
  rw [← e, k3]
  rcases q3u h hc x.1 with e2 | ⟨w, _, _, _, e2, ho⟩
  ·rw [e2]; exact h.rightC _
  ·rw [e2]; exact qe3 (h.rightC _) ho (Nat.lt_succ_of_le (q7P (h.upto _)))
 ·have e := q0K k1 hx
  rw [← e, k3]
  intro v hv
  rcases q3u h hc x.1 with e2 | ⟨w, _, _, _, e2, ho⟩
  ·rw [e2] at hv
   exact Nat.le_succ_of_le (h.upto _ v hv)
  ·rw [e2] at hv
   rcases List.mem_append.1 hv with hv | hv
   ·exact Nat.le_succ_of_le (h.upto _ v hv)
   ·rw [List.mem_singleton] at hv
    subst hv
    exact Nat.le_refl _
end
theorem q1T {K : KsS} {low : Nat} {x : KeyS × List Ver} : x ∈ q05 K low ↔ ∃ y ∈ K, x = (y.1, q0m y.2 low) ∧ x.2 ≠ [] := by
 unfold q05
 rw [List.mem_filterMap]
 constructor
 ·rintro ⟨y, hy, e⟩
  unfold q3M at e
  split at e
  ·cases e
  ·next h =>
   injection e with e
   subst e
   exact ⟨y, hy, rfl, by simpa using h⟩
 ·rintro ⟨y, hy, e, h⟩
  refine ⟨y, hy, ?_⟩
  unfold q3M
  subst e
  rw [if_neg (by simpa using h)]
theorem q0I {K : KsS} (h : q0F K) (low : Nat) : q0F (q05 K low) := by
 unfold q05 q0F
 rw [List.pairwise_filterMap]
 refine List.Pairwise.imp ?_ h
 intro a b hab x hx y hy
 unfold q3M at hx hy
 split at hx
 ·cases hx
 ·split at hy
  ·cases hy
  ·injection hx with hx
   injection hy with hy
   subst hx hy
   exact hab
theorem q10 (K : KsS) (low : Nat) : q2i (q05 K low) := fun x hx => by
 obtain ⟨_, _, _, h⟩ := q1T.1 hx
 exact h
theorem q0q {K : KsS} (h : q0F K) (low : Nat) (k : KeyS) : q03 (q05 K low) k = q0m (q03 K k) low := by
 refine q5U (q0I h low) (fun hc => ?_) fun hc x hx e => ?_
 ·have hn : q03 K k ≠ [] := fun e => hc (by rw [e]; rfl)
  exact q1T.2 ⟨(k, q03 K k), q14 hn, rfl, hc⟩
 ·obtain ⟨y, hy, ex, hn⟩ := q1T.1 hx
  have e2 : y.1 = k := by rw [← e, ex]
  have h1 := q0K h hy
  rw [e2] at h1
  rw [h1] at hc
  exact hn (by rw [ex]; exact hc)
theorem q1V {st : PS} (h : OkS st) (low : Nat) : OkS ⟨st.time, q05 st.K low⟩ := by
 refine ⟨q0I h.sort low, q10 _ _, fun x hx => ?_, fun x hx v hv => ?_⟩
 ·obtain ⟨y, hy, e, _⟩ := q1T.1 hx
  rw [e]
  exact qc7 (h.right y hy) low
 ·obtain ⟨y, hy, e, _⟩ := q1T.1 hx
  rw [e] at hv
  exact h.time y hy v (qbd hv)
theorem qbc (l : List Ver) (low : Nat) : (q0m l low).length ≤ l.length := by
 have hp : ∀ l : List Ver, (l.filter fun v => decide (v.tm ≤ low)).length + (l.filter fun v => decide (low < v.tm)).length = l.length := fun l => by
  induction l with
  | nil => rfl
  | cons v l ih =>
   rw [List.filter_cons, List.filter_cons]
   by_cases hv : v.tm ≤ low
   ·rw [if_pos (by simpa using hv), if_neg (by simp; omega)]
    simp only [List.length_cons]
    omega
   ·rw [if_neg (by simpa using hv), if_pos (by simp; omega)]
    simp only [List.length_cons]
    omega
 have h := hp l
 unfold q0m
 rw [List.length_append]
 have hk : (q4g (q0Y l low)).length ≤ (l.filter fun v => decide (v.tm ≤ low)).length := by
  unfold q0Y
  cases hf : (l.filter fun v => decide (v.tm ≤ low)).getLast? with
  | none => exact Nat.zero_le _
  | some v =>
   have := List.length_pos_of_mem (List.mem_of_getLast? hf)
   have := qaU (some v)
   omega
 omega
theorem q44 : (∀ k, m1 k [] = 0) ∧ (∀ k, m2 k [] = 0) ∧ ∀ k, m3 k [] = 0 := ⟨fun _ => rfl, fun _ => rfl, fun _ => rfl⟩
theorem qdB (k : KeyS) (l : List Ver) (low : Nat) : m1 k (q0m l low) ≤ m1 k l ∧ m2 k (q0m l low) ≤ m2 k l ∧ m3 k (q0m l low) ≤ m3 k l := by
 have hn : l = [] → q0m l low = [] := fun e => by rw [e]; rfl
 refine ⟨?_, qbc l low, ?_⟩
 ·unfold m1
  by_cases h : q0m l low = []
  ·rw [if_pos h]; exact Nat.zero_le _
  ·rw [if_neg h, if_neg (fun e => h (hn e))]; exact Nat.le_refl _
 ·unfold m3
  by_cases h : q0m l low = []
  ·rw [if_pos h]; exact Nat.zero_le _
  ·rw [if_neg h, if_neg (fun e => h (hn e))]
   have := q9i l low
   omega
theorem qg3 {L : LimS} {K K' : KsS} (h : q0F K) (h' : q0F K') (hf : q2i K) (hf' : q2i K') (hm : ∀ k, m1 k (q03 K k) ≤ m1 k (q03 K' k) ∧ m2 k (q03 K k) ≤ m2 k (q03 K' k) ∧ m3 k (q03 K k) ≤ m3 k (q03 K' k)) (hfit : q2J L K' = true) : q2J L K = true := by
 have s1 := q6G q44.1 h h' fun k => (hm k).1
 have s2 := q6G q44.2.1 h h' fun k => (hm k).2.1
 have s3 := q6G q44.2.2 h h' fun k => (hm k).2.2
 rw [← q4j hf, ← q4j hf'] at s1
 rw [← q2C, ← q2C] at s2
 rw [← q3g hf, ← q3g hf'] at s3
 unfold q2J at hfit ⊢
 simp only [Bool.and_eq_true, decide_eq_true_eq] at hfit ⊢
 omega
theorem q2n {L : LimS} {K : KsS} (h : q0F K) (hf : q2i K) (low : Nat) (hfit : q2J L K = true) : q2J L (q05 K low) = true :=
 qg3 (q0I h low) h (q10 _ _) hf (fun k => by rw [q0q h]; exact qdB k _ low) hfit
theorem qaY {K : KsS} (h : q0F K) {lo hi : KeyS} {t : Nat} {p : KeyS × List UInt8} : p ∈ q1w K lo hi t ↔ inS lo hi p.1 = true ∧ q1v K p.1 t = some p.2 := by
 unfold q1w
 rw [List.mem_filterMap]
 constructor
 ·rintro ⟨x, hx, e⟩
  unfold q3J at e
  split at e
  ·next hi =>
   obtain ⟨b, hb, e⟩ := Option.map_eq_some_iff.1 e
   subst e
   unfold q1v
   rw [q0K h hx]
   exact ⟨hi, hb⟩
  ·cases e
 ·rintro ⟨h1, h2⟩
  have hn : q03 K p.1 ≠ [] := fun e => by
   unfold q1v at h2
   rw [e] at h2
   cases h2
  refine ⟨_, q14 hn, ?_⟩
  unfold q3J
  unfold q1v at h2
  rw [if_pos h1, h2]
  rfl
theorem q6C {K : KsS} (h : q0F K) (lo hi : KeyS) (t : Nat) : (q1w K lo hi t).Pairwise fun a b => blt a.1 b.1 = true := by
 unfold q1w
 rw [List.pairwise_filterMap]
 refine List.Pairwise.imp ?_ h
 intro a b hab x hx y hy
 unfold q3J at hx hy
 split at hx
 ·split at hy
  ·obtain ⟨_, _, e⟩ := Option.map_eq_some_iff.1 hx
   obtain ⟨_, _, e'⟩ := Option.map_eq_some_iff.1 hy
   subst e e'
   exact hab
  ·cases hy
 ·cases hx
theorem qeb {K K' : KsS} (h : q0F K) (h' : q0F K') {lo hi : KeyS} {t : Nat} (he : ∀ k, q1v K k t = q1v K' k t) : q1w K lo hi t = q1w K' lo hi t :=
 q5I Prod.fst (q6C h lo hi t) (q6C h' lo hi t) fun p => by rw [qaY h, qaY h', he]
theorem q3H {st : PS} (h : OkS st) {low t : Nat} (ht : low ≤ t) (k : KeyS) : q1v (q05 st.K low) k t = q1v st.K k t := by
 unfold q1v
 rw [q0q h.sort]
 exact qf1 ((q17 _ 0).1 (h.rightC k)).2 ht
open Go.RowKit
structure q2X where
 n : Nat
 e : Int
 b : List UInt8
 is : Bool
 scan : List (KeyS × List UInt8)
def qgU : q2X := ⟨0, 0, [], false, []⟩
section
variable {L : LimS} {st : PS} {l : List Wr} {low : Nat}
theorem qb2 (h : OkS st) : OkS (q1O L st l low) := by
 unfold q1O
 split
 ·exact h
 ·exact q1V h low
theorem q4I : (q1O L st l low).time = st.time := by
 unfold q1O
 split <;> rfl
theorem q0H (L : LimS) (st : PS) (l : List Wr) (low : Nat) :
  ((q09 L st l low) = (st, 0, q0h [] l) ∧ q0h [] l ≠ 0) ∨ (q09 L st l low = (st, st.time, 0) ∧ q0h [] l = 0 ∧ l = []) ∨ (q09 L st l low = (st, 0, 5) ∧ q0h [] l = 0 ∧ l ≠ [] ∧ st.time = L.last) ∨
   (q09 L st l low = (⟨st.time + 1, q0n (q1O L st l low) l⟩, st.time + 1, 0) ∧ q0h [] l = 0 ∧ l ≠ [] ∧ st.time ≠ L.last ∧ q2J L (q0n (q1O L st l low) l) = true) ∨
   (q09 L st l low = (q1O L st l low, 0, 5) ∧ q0h [] l = 0 ∧ l ≠ [] ∧ st.time ≠ L.last ∧ q2J L (q0n (q1O L st l low) l) = false) := by
 unfold q09
 by_cases h1 : q0h [] l = 0
 ·rw [if_neg (fun h => h h1)]
  by_cases h2 : l = []
  ·rw [if_pos h2]
   exact .inr (.inl ⟨rfl, h1, h2⟩)
  ·rw [if_neg h2]
   by_cases h3 : st.time = L.last
   ·rw [if_pos h3]
    exact .inr (.inr (.inl ⟨rfl, h1, h2, h3⟩))
   ·rw [if_neg h3]
    by_cases h4 : q2J L (q0n (q1O L st l low) l) = true
    ·rw [if_pos h4]
     exact .inr (.inr (.inr (.inl ⟨rfl, h1, h2, h3, h4⟩)))
    ·rw [if_neg h4]
     exact .inr (.inr (.inr (.inr ⟨rfl, h1, h2, h3, by simpa using h4⟩)))
 ·rw [if_pos h1]
  exact .inl ⟨rfl, h1⟩
theorem q59 (h : OkS st) (L : LimS) (l : List Wr) (low : Nat) : OkS (q09 L st l low).1 := by
 rcases q0H L st l low with ⟨e, _⟩ | ⟨e, _⟩ | ⟨e, _⟩ | ⟨e, hc, _⟩ | ⟨e, _⟩ <;> rw [e]
 ·exact h
 ·exact h
 ·exact h
 ·have := q7T (qb2 (L := L) (l := l) (low := low) h) hc
  rw [q4I] at this
  exact this
 ·exact qb2 h
def InS (L : LimS) (st : PS) : Prop := q2J L st.K = true ∧ st.time ≤ L.last
theorem qg7 (h : OkS st) (hi : InS L st) : InS L (q1O L st l low) := by
 unfold q1O
 split
 ·exact hi
 ·exact ⟨q2n h.sort h.full low hi.1, hi.2⟩
theorem qdk (h : OkS st) (hi : InS L st) (l : List Wr) (low : Nat) : InS L (q09 L st l low).1 := by
 rcases q0H L st l low with ⟨e, _⟩ | ⟨e, _⟩ | ⟨e, _⟩ | ⟨e, _, _, h3, h4⟩ | ⟨e, _⟩ <;> rw [e]
 ·exact hi
 ·exact hi
 ·exact hi
 ·exact ⟨h4, by have := hi.2; show st.time + 1 ≤ L.last; omega⟩
 ·exact qg7 h hi
theorem q6I (L : LimS) (st : PS) (l : List Wr) (low : Nat) : st.time ≤ (q09 L st l low).1.time := by
 rcases q0H L st l low with ⟨e, _⟩ | ⟨e, _⟩ | ⟨e, _⟩ | ⟨e, _⟩ | ⟨e, _⟩ <;> rw [e]
 ·exact Nat.le_refl _
 ·exact Nat.le_refl _
 ·exact Nat.le_refl _
 ·exact Nat.le_succ _
 ·rw [q4I]; exact Nat.le_refl _
end
theorem q85 {l : List Ver} {v : Ver} {low : Nat} (hv : low < v.tm) : q0m (l ++ [v]) low = q0m l low ++ [v] := by
 unfold q0m
 rw [qeZ, if_neg (by omega), List.filter_append, List.append_assoc]
 congr 1
 congr 1
 rw [List.filter_cons, if_pos (by simpa using hv)]
 rfl
def q3N (st : PS) (low : Nat) : PS := ⟨st.time, q05 st.K low⟩
theorem qbt {st : PS} (h : OkS st) {low : Nat} (hl : low ≤ st.time) (w : Wr) : q1x (q3N st low) w = q1x st w := by
 unfold q1x
 rw [show q1v (q3N st low).K w.key (q3N st low).time = q1v st.K w.key st.time from q3H h hl w.key]
theorem q6K {st : PS} (h : OkS st) {l : List Wr} (hc : q0h [] l = 0) {low : Nat} (hl : low ≤ st.time) : q05 (q0n st l) low = q0n (q3N st low) l := by
 have ht := q1V h low
 obtain ⟨k1, k2, k3⟩ := q5f h hc
 obtain ⟨j1, j2, j3⟩ := q5f (st := q3N st low) ht hc
 refine q9l (q0I k1 low) j1 (q10 _ _) j2 fun k => ?_
 rw [q0q k1, k3, j3]
 obtain ⟨hw, _⟩ := q0M hc
 unfold q8c
 cases hf : l.find? fun w => w.key == k with
 | none => exact (q0q h.sort low k).symm
 | some w =>
  have hm := List.mem_of_find?_eq_some hf
  have hk : w.key = k := by simpa using List.find?_some hf
  have e1 := qag h (hw w hm).2.2.2
  have e2 := qag (st := q3N st low) ht (hw w hm).2.2.2
  show q0m (newC st w) low = newC (q3N st low) w
  rw [e1, e2, qbt h hl]
  split
  ·rw [q85 (show low < st.time + 1 by omega)]
   congr 1
   exact (q0q h.sort low _).symm
  ·exact (q0q h.sort low _).symm
theorem q1l {K : KsS} (h : q0F K) (hr : ∀ k, (q03 K k).Pairwise (fun a b => a.tm < b.tm)) {less low : Nat} (hl : less ≤ low) : q05 (q05 K less) low = q05 K low :=
 q9l (q0I (q0I h less) low) (q0I h low) (q10 _ _) (q10 _ _) fun k => by
  rw [q0q (q0I h less), q0q h, q0q h]
  exact qeo (hr k) hl
theorem OkS.rise {st : PS} (h : OkS st) (k : KeyS) : (q03 st.K k).Pairwise (fun a b => a.tm < b.tm) := ((q17 _ 0).1 (h.rightC k)).2
theorem q5X {L : LimS} {st : PS} (h : OkS st) {l : List Wr} (hc : q0h [] l = 0) {low : Nat} (hl : low ≤ st.time) :
  q2J L (q0n (q1O L st l low) l) = q2J L (q0n (q3N st low) l) ∧ q05 (q0n (q1O L st l low) l) low = q0n (q3N st low) l ∧ q05 (q1O L st l low).K low = q05 st.K low := by
 have ht := q1V h low
 unfold q1O
 by_cases hf : q2J L (q0n st l) = true
 ·rw [if_pos hf]
  obtain ⟨k1, k2, _⟩ := q5f h hc
  refine ⟨?_, q6K h hc hl, rfl⟩
  rw [hf, ← q6K h hc hl, q2n k1 k2 low hf]
 ·rw [if_neg hf]
  refine ⟨rfl, ?_, q1l h.sort h.rise (Nat.le_refl _)⟩
  have e := q6K (st := q3N st low) ht hc hl
  rw [show q3N (q3N st low) low = q3N st low by unfold q3N; rw [q1l h.sort h.rise (Nat.le_refl _)]] at e
  exact e
structure q2U (low : Nat) (s x : PS) : Prop where
 okS : OkS s
 okX : OkS x
 time : s.time = x.time
 upto : low ≤ s.time
 trim : q05 s.K low = q05 x.K low
theorem q2U.read {low : Nat} {s x : PS} (h : q2U low s x) {t : Nat} (ht : low ≤ t) (k : KeyS) : q1v s.K k t = q1v x.K k t := by
 rw [← q3H h.okS ht, ← q3H h.okX ht, h.trim]
theorem q2U.scan {low : Nat} {s x : PS} (h : q2U low s x) {t : Nat} (ht : low ≤ t) (lo hi : KeyS) : q1w s.K lo hi t = q1w x.K lo hi t :=
 qeb h.okS.sort h.okX.sort fun k => h.read ht k
theorem q2U.up {low low' : Nat} {s x : PS} (h : q2U low s x) (hl : low ≤ low') (ht : low' ≤ s.time) : q2U low' s x :=
 ⟨h.okS, h.okX, h.time, ht, by rw [← q1l h.okS.sort h.okS.rise hl, ← q1l h.okX.sort h.okX.rise hl, h.trim]⟩
theorem q2U.commit {L : LimS} {low : Nat} {s x : PS} (h : q2U low s x) (l : List Wr) : (q09 L s l low).2 = (q09 L x l low).2 ∧ q2U low (q09 L s l low).1 (q09 L x l low).1 := by
 have oS := q59 h.okS L l low
 have oX := q59 h.okX L l low
 have tS := q6I L s l low
 by_cases hc : q0h [] l = 0
 ·have hlx : low ≤ x.time := by rw [← h.time]; exact h.upto
  obtain ⟨f1, f2, f3⟩ := q5X (L := L) h.okS hc h.upto
  obtain ⟨g1, g2, g3⟩ := q5X (L := L) h.okX hc hlx
  have e0 : q3N s low = q3N x low := by unfold q3N; rw [h.time, h.trim]
  have e1 : q2J L (q0n (q1O L s l low) l) = q2J L (q0n (q1O L x l low) l) := by rw [f1, g1, e0]
  rcases q0H L s l low with ⟨e, hn⟩ | ⟨e, _, hn⟩ | ⟨e, _, hn, hlast⟩ | ⟨e, _, hn, hlast, hfit⟩ | ⟨e, _, hn, hlast, hfit⟩
  ·exact absurd hc hn
  ·rcases q0H L x l low with ⟨e', hn'⟩ | ⟨e', _, hn'⟩ | ⟨e', _, hn', _⟩ | ⟨e', _, hn', _⟩ | ⟨e', _, hn', _⟩
   ·exact absurd hc hn'
   ·rw [e, e']
    exact ⟨by rw [h.time], h⟩
   ·exact absurd hn hn'
   ·exact absurd hn hn'
   ·exact absurd hn hn'
  ·rcases q0H L x l low with ⟨e', hn'⟩ | ⟨e', _, hn'⟩ | ⟨e', _, _, _⟩ | ⟨e', _, _, hl', _⟩ | ⟨e', _, _, hl', _⟩
   ·exact absurd hc hn'
   ·exact absurd hn' hn
   ·rw [e, e']
    exact ⟨rfl, h⟩
   ·exact absurd (h.time.symm.trans hlast) hl'
   ·exact absurd (h.time.symm.trans hlast) hl'
  ·rcases q0H L x l low with ⟨e', hn'⟩ | ⟨e', _, hn'⟩ | ⟨e', _, _, hl'⟩ | ⟨e', _, _, _, _⟩ | ⟨e', _, _, _, hf'⟩
   ·exact absurd hc hn'
   ·exact absurd hn' hn
   ·exact absurd (h.time.trans hl') hlast
   ·rw [e] at oS tS
    rw [e'] at oX
    rw [e, e']
    refine ⟨by rw [h.time], oS, oX, by show s.time + 1 = x.time + 1; rw [h.time], Nat.le_trans h.upto tS, ?_⟩
    show q05 (q0n (q1O L s l low) l) low = q05 (q0n (q1O L x l low) l) low
    rw [f2, g2, e0]
   ·rw [e1, hf'] at hfit
    cases hfit
  ·rcases q0H L x l low with ⟨e', hn'⟩ | ⟨e', _, hn'⟩ | ⟨e', _, _, hl'⟩ | ⟨e', _, _, _, hf'⟩ | ⟨e', _, _, _, _⟩
   ·exact absurd hc hn'
   ·exact absurd hn' hn
   ·exact absurd (h.time.trans hl') hlast
   ·rw [e1, hf'] at hfit
    cases hfit
   ·rw [e] at oS tS
    rw [e'] at oX
    rw [e, e']
    refine ⟨rfl, oS, oX, by show (q1O L s l low).time = (q1O L x l low).time; rw [q4I, q4I, h.time], Nat.le_trans h.upto tS, ?_⟩
    show q05 (q1O L s l low).K low = q05 (q1O L x l low).K low
    rw [f3, g3, h.trim]
 ·have e1 : q09 L s l low = (s, 0, q0h [] l) := by unfold q09; rw [if_pos hc]
  have e2 : q09 L x l low = (x, 0, q0h [] l) := by unfold q09; rw [if_pos hc]
  rw [e1, e2]
  exact ⟨rfl, h⟩
theorem q2U.collect {low : Nat} {s x : PS} (h : q2U low s x) : q2U low ⟨s.time, q05 s.K low⟩ x :=
 ⟨q1V h.okS low, h.okX, h.time, h.upto, by show q05 (q05 s.K low) low = _; rw [q1l h.okS.sort h.okS.rise (Nat.le_refl _), h.trim]⟩
def q2V (n : Int) : Bool := decide (1 ≤ n) && decide (n ≤ 1048576)
def MayS (L : LimS) : Bool := q2V L.keys && q2V L.vers && q2V L.byts && decide (1 ≤ L.last)
def q7x (K : KsS) : Prop := ∀ x ∈ K, x.1 ≠ [] ∧ x.1.length ≤ 256
theorem q8Q (st : PS) : ∀ (l : List Wr) (K : KsS), (∀ w ∈ l, w.key ≠ [] ∧ w.key.length ≤ 256) → q7x K → q7x (l.foldl (q1e st) K)
 | [], _, _, h => h
 | w :: l, K, hl, h => by
  rw [List.foldl_cons]
  refine q8Q st l _ (fun x hx => hl x (List.mem_cons_of_mem _ hx)) ?_
  unfold q1e
  split
  ·intro x hx
   rcases q1R.1 hx with ⟨h1, _⟩ | ⟨rfl, _⟩ | ⟨h1, _⟩
   ·exact h x h1
   ·exact hl w (List.mem_cons_self ..)
   ·exact h x h1
  ·exact h
theorem q8R {st : PS} {l : List Wr} (h : q7x st.K) (hc : q0h [] l = 0) : q7x (q0n st l) := by
 obtain ⟨h1, _⟩ := q0M hc
 exact q8Q st l st.K (fun w hw => ⟨(fun e => by
  have := (h1 w hw).1
  rw [e, q0V] at this
  cases this), (h1 w hw).2.1⟩) h
theorem q5r {K : KsS} (h : q7x K) (low : Nat) : q7x (q05 K low) := fun x hx => by
 obtain ⟨y, hy, e, _⟩ := q1T.1 hx
 rw [e]
 exact h y hy
theorem qaX {L : LimS} (h : MayS L = true) : (1 ≤ L.keys ∧ L.keys ≤ 1048576) ∧ (1 ≤ L.vers ∧ L.vers ≤ 1048576) ∧ (1 ≤ L.byts ∧ L.byts ≤ 1048576) ∧ 1 ≤ L.last := by
 unfold MayS q2V at h
 simp only [Bool.and_eq_true, decide_eq_true_eq] at h
 omega
theorem qaS {L : LimS} {st : PS} (hm : MayS L = true) (hi : InS L st) : st.K.length ≤ 1048576 ∧ q1q st.K ≤ 1048576 ∧ q3f st.K ≤ 1048576 := by
 have h := qaX hm
 have hf := hi.1
 unfold q2J at hf
 simp only [Bool.and_eq_true, decide_eq_true_eq] at hf
 omega
theorem qdl {L : LimS} (hm : MayS L = true) : InS L ⟨0, []⟩ := by
 have h := qaX hm
 refine ⟨?_, Nat.zero_le _⟩
 unfold q2J
 simp only [Bool.and_eq_true, decide_eq_true_eq]
 have e1 : q1q [] = 0 := rfl
 have e2 : q3f [] = 0 := rfl
 rw [e1, e2]
 simp only [List.length_nil]
 omega
theorem qau {m : KeyS × List Ver → Nat} : ∀ {K : KsS} {x : KeyS × List Ver}, x ∈ K → m x ≤ (K.map m).sum
 | y :: K, x, hx => by
  rw [List.map_cons, List.sum_cons]
  rcases List.mem_cons.1 hx with rfl | hx
  ·omega
  ·have := qau (m := m) hx
   omega
theorem q9B (K : KsS) (k : KeyS) : (q03 K k).length ≤ q1q K ∧ q0z (q03 K k) ≤ q3f K := by
 by_cases e : q03 K k = []
 ·rw [e]
  exact ⟨Nat.zero_le _, Nat.zero_le _⟩
 ·have hm := q14 e
  refine ⟨qau (m := fun x => x.2.length) hm, ?_⟩
  have := qau (m := fun x => x.1.length + q0z x.2) hm
  exact Nat.le_trans (Nat.le_add_left _ _) this
theorem q9r {st : PS} (h : OkS st) (low : Nat) : q1q (q05 st.K low) ≤ q1q st.K := by
 rw [q2C, q2C]
 exact q6G q44.2.1 (q0I h.sort low) h.sort fun k => by rw [q0q h.sort]; exact (qdB k _ low).2.1
end Go.Proofs.YtdpbllacfljmoaaGreat
