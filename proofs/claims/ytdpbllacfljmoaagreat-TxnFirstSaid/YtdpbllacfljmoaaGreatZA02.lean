import Derived.Test.YtdpbllacfljmoaaGreatZA01
set_option maxRecDepth 100000
set_option maxHeartbeats 16000000
set_option linter.unusedVariables false
namespace Go.Proofs.YtdpbllacfljmoaaGreat
open Go.RowKit
structure OkS (st : PS) : Prop where
 sort : q0F st.K
 full : q2c st.K
 right : ∀ x ∈ st.K, q1t x.2 = true
 time : ∀ x ∈ st.K, ∀ v ∈ x.2, v.tm ≤ st.time
theorem ok_none : OkS ⟨0, []⟩ := ⟨List.Pairwise.nil, (fun _ h => by cases h), (fun _ h => by cases h), (fun _ h => by cases h)⟩
section
variable {st : PS}
theorem OkS.rightC (h : OkS st) (k : KeyS) : q1t (q03 st.K k) = true := by
 by_cases e : q03 st.K k = []
 ·rw [e]; rfl
 ·exact h.right _ (q10 e)
theorem OkS.upto (h : OkS st) (k : KeyS) : ∀ v ∈ q03 st.K k, v.tm ≤ st.time := by
 by_cases e : q03 st.K k = []
 ·rw [e]; intro v hv; cases hv
 ·exact h.time _ (q10 e)
theorem q7C {l : List Ver} {t : Nat} (h : ∀ v ∈ l, v.tm ≤ t) : q1Z l ≤ t := by
 unfold q1Z
 cases hl : l.getLast? with
 | none => exact Nat.zero_le _
 | some v => exact h v (List.mem_of_getLast? hl)
end
theorem q0H : ∀ {l : List Wr} {last : KeyS}, q0j last l = 0 → (∀ w ∈ l, blt last w.key = true ∧ w.key.length ≤ 256 ∧ w.dat.length ≤ 4096 ∧ q4w ⟨0, w.gone, w.dat⟩ = true) ∧ l.Pairwise (fun a b => blt a.key b.key = true)
 | [], _, _ => ⟨(fun _ h => by cases h), List.Pairwise.nil⟩
 | w :: l, last, h => by
  unfold q0j at h
  split at h
  ·cases h
  ·next h1 =>
   split at h
   ·cases h
   ·next h2 =>
    obtain ⟨k1, k2⟩ := q0H h
    have g1 : blt last w.key = true := by
     cases e : blt last w.key
     ·exact absurd (.inl e) h2
     ·rfl
    have g2 : q4w ⟨0, w.gone, w.dat⟩ = true := by
     cases e : q4w ⟨0, w.gone, w.dat⟩
     ·exact absurd (.inr e) h2
     ·rfl
    refine ⟨fun x hx => ?_, List.pairwise_cons.2 ⟨fun x hx => (k1 x hx).1, k2⟩⟩
    rcases List.mem_cons.1 hx with rfl | hx
    ·exact ⟨g1, by omega, by omega, g2⟩
    ·exact ⟨q0q g1 (k1 x hx).1, (k1 x hx).2⟩
theorem qc2 {l : List Ver} {v : Ver} (h : q1t l = true) (hv : q4w v = true) (ht : q1Z l < v.tm) : addH l v = l ++ [v] := by
 have h1 : q1t [v] = true := (q15 [v] 0).2 ⟨fun x hx => by
  rw [List.mem_singleton] at hx
  subst hx
  exact ⟨by omega, hv⟩, List.pairwise_singleton ..⟩
 unfold addH
 rw [h, h1, if_pos (show (true && true) = true from rfl), if_neg (by omega)]
def newC (st : PS) (w : Wr) : List Ver := if q1P st w = true then addH (q03 st.K w.key) (verW st w) else q03 st.K w.key
def q7Y (st : PS) (l : List Wr) (k : KeyS) : List Ver := match l.find? fun w => w.key == k with | some w => newC st w | none => q03 st.K k
theorem q6y (st : PS) : ∀ (l : List Wr) (K : KsS), l.Pairwise (fun a b => blt a.key b.key = true) → q0F K → q2c K → (∀ w ∈ l, q03 K w.key = q03 st.K w.key) →
  q0F (l.foldl (q1e st) K) ∧ q2c (l.foldl (q1e st) K) ∧ ∀ k, q03 (l.foldl (q1e st) K) k = match l.find? fun w => w.key == k with | some w => newC st w | none => q03 K k
 | [], K, _, h, hf, _ => ⟨h, hf, fun _ => rfl⟩
 | w :: l, K, hl, h, hf, hk => by
  obtain ⟨hw, hl'⟩ := List.pairwise_cons.1 hl
  have hne : ∀ x ∈ l, x.key ≠ w.key := fun x hx e => q13 (hw x hx) e.symm
  have h1 : q0F (q1e st K w) := by unfold q1e; split; exact q3S h _ _; exact h
  have h2 : q2c (q1e st K w) := by unfold q1e; split; exact qaA hf _ _; exact hf
  have h3 : ∀ k, q03 (q1e st K w) k = if k = w.key then newC st w else q03 K k := fun k => by
   unfold q1e newC
   split
   ·rw [q3u h hf]
   ·split
    ·next e => rw [e]; exact hk w (List.mem_cons_self ..)
    ·rfl
  obtain ⟨k1, k2, k3⟩ := q6y st l (q1e st K w) hl' h1 h2 fun x hx => by
   rw [h3, if_neg (hne x hx)]
   exact hk x (List.mem_cons_of_mem _ hx)
  refine ⟨k1, k2, fun k => ?_⟩
  rw [List.foldl_cons, k3, List.find?_cons]
  by_cases e : w.key = k
  ·have hno : l.find? (fun x => x.key == k) = none := List.find?_eq_none.2 fun x hx => by
    have := hne x hx
    rw [e] at this
    simpa using this
   have hy : (w.key == k) = true := by rw [e]; exact beq_self_eq_true _
   rw [hno, hy, h3, if_pos e.symm]
  ·rw [q9e e]
   show (match l.find? (fun x => x.key == k) with | some w => newC st w | none => q03 (q1e st K w) k) = match l.find? (fun x => x.key == k) with | some w => newC st w | none => q03 K k
   rw [h3, if_neg (fun e2 => e e2.symm)]
section
variable {st : PS} {l : List Wr}
theorem qdl (h : OkS st) {w : Wr} (hw : q4w ⟨0, w.gone, w.dat⟩ = true) : newC st w = if q1P st w = true then q03 st.K w.key ++ [verW st w] else q03 st.K w.key := by
 unfold newC
 split
 ·exact qc2 (h.rightC _) hw (Nat.lt_succ_of_le (q7C (h.upto _)))
 ·rfl
theorem q6z (h : OkS st) (hc : q0j [] l = 0) : q0F (q0t st l) ∧ q2c (q0t st l) ∧ ∀ k, q03 (q0t st l) k = q7Y st l k := by
 obtain ⟨_, h2⟩ := q0H hc
 exact q6y st l st.K h2 h.sort h.full fun _ _ => rfl
theorem q2N (h : OkS st) (hc : q0j [] l = 0) (k : KeyS) : q7Y st l k = q03 st.K k ∨ ∃ w ∈ l, w.key = k ∧ q1P st w = true ∧ q7Y st l k = q03 st.K k ++ [verW st w] ∧ q4w (verW st w) = true := by
 obtain ⟨h1, _⟩ := q0H hc
 unfold q7Y
 cases hf : l.find? fun w => w.key == k with
 | none => exact Or.inl (Eq.refl (q03 st.K k))
 | some w =>
  have hm := List.mem_of_find?_eq_some hf
  have hk : w.key = k := by simpa using List.find?_some hf
  have ho := (h1 w hm).2.2.2
  have e : newC st w = if q1P st w = true then q03 st.K k ++ [verW st w] else q03 st.K k := by rw [qdl h ho, hk]
  by_cases hcm : q1P st w = true
  ·rw [if_pos hcm] at e
   exact .inr ⟨w, hm, hk, hcm, e, ho⟩
  ·rw [if_neg hcm] at e
   exact .inl e
theorem q7H (h : OkS st) (hc : q0j [] l = 0) : OkS ⟨st.time + 1, q0t st l⟩ := by
 obtain ⟨k1, k2, k3⟩ := q6z h hc
 refine ⟨k1, k2, fun x hx => ?_, fun x hx => ?_⟩
 ·have e := q0G k1 hx
  rw [← e, k3]
  rcases q2N h hc x.1 with e2 | ⟨w, _, _, _, e2, ho⟩
  ·rw [e2]; exact h.rightC _
  ·rw [e2]; exact qdK (h.rightC _) ho (Nat.lt_succ_of_le (q7C (h.upto _)))
 ·have e := q0G k1 hx
  rw [← e, k3]
  intro v hv
  rcases q2N h hc x.1 with e2 | ⟨w, _, _, _, e2, ho⟩
  ·rw [e2] at hv
   exact Nat.le_succ_of_le (h.upto _ v hv)
  ·rw [e2] at hv
   rcases List.mem_append.1 hv with hv | hv
   ·exact Nat.le_succ_of_le (h.upto _ v hv)
   ·rw [List.mem_singleton] at hv
    subst hv
    exact Nat.le_refl _
end
theorem q1L {K : KsS} {low : Nat} {x : KeyS × List Ver} : x ∈ q08 K low ↔ ∃ y ∈ K, x = (y.1, q0r y.2 low) ∧ x.2 ≠ [] := by
 unfold q08
 rw [List.mem_filterMap]
 constructor
 ·rintro ⟨y, hy, e⟩
  unfold q3G at e
  split at e
  ·cases e
  ·next h =>
   injection e with e
   subst e
   exact ⟨y, hy, rfl, by simpa using h⟩
 ·rintro ⟨y, hy, e, h⟩
  refine ⟨y, hy, ?_⟩
  unfold q3G
  subst e
  rw [if_neg (by simpa using h)]
theorem q0N {K : KsS} (h : q0F K) (low : Nat) : q0F (q08 K low) := by
 unfold q08 q0F
 rw [List.pairwise_filterMap]
 refine List.Pairwise.imp ?_ h
 intro a b hab x hx y hy
 unfold q3G at hx hy
 split at hx
 ·cases hx
 ·split at hy
  ·cases hy
  ·injection hx with hx
   injection hy with hy
   subst hx hy
   exact hab
theorem q1k (K : KsS) (low : Nat) : q2c (q08 K low) := fun x hx => by
 obtain ⟨_, _, _, h⟩ := q1L.1 hx
 exact h
theorem q12 {K : KsS} (h : q0F K) (low : Nat) (k : KeyS) : q03 (q08 K low) k = q0r (q03 K k) low := by
 refine q5H (q0N h low) (fun hc => ?_) fun hc x hx e => ?_
 ·have hn : q03 K k ≠ [] := fun e => hc (by rw [e]; rfl)
  exact q1L.2 ⟨(k, q03 K k), q10 hn, rfl, hc⟩
 ·obtain ⟨y, hy, ex, hn⟩ := q1L.1 hx
  have e2 : y.1 = k := by rw [← e, ex]
  have h1 := q0G h hy
  rw [e2] at h1
  rw [h1] at hc
  exact hn (by rw [ex]; exact hc)
theorem q2I {st : PS} (h : OkS st) (low : Nat) : OkS ⟨st.time, q08 st.K low⟩ := by
 refine ⟨q0N h.sort low, q1k _ _, fun x hx => ?_, fun x hx v hv => ?_⟩
 ·obtain ⟨y, hy, e, _⟩ := q1L.1 hx
  rw [e]
  exact qbQ (h.right y hy) low
 ·obtain ⟨y, hy, e, _⟩ := q1L.1 hx
  rw [e] at hv
  exact h.time y hy v (qaW hv)
theorem qaV (l : List Ver) (low : Nat) : (q0r l low).length ≤ l.length := by
 have hp : ∀ l : List Ver, (l.filter fun v => decide (v.tm ≤ low)).length + (l.filter fun v => decide (low < v.tm)).length = l.length := fun l => by
  induction l with
  | nil => rfl
  | cons v l ih =>
   rw [List.filter_cons, List.filter_cons]
   by_cases hv : v.tm ≤ low
   ·rw [if_pos (by simpa using hv), if_neg (by simp; omega)]
    simp only [List.length_cons]
    omega
   ·rw [if_neg (by simpa using hv), if_pos (by simp; omega)]
    simp only [List.length_cons]
    omega
 have h := hp l
 unfold q0r
 rw [List.length_append]
 have hk : (q46 (q0W l low)).length ≤ (l.filter fun v => decide (v.tm ≤ low)).length := by
  unfold q0W
  cases hf : (l.filter fun v => decide (v.tm ≤ low)).getLast? with
  | none => exact Nat.zero_le _
  | some v =>
   have := List.length_pos_of_mem (List.mem_of_getLast? hf)
   have := qaF (some v)
   omega
 omega
theorem q3X : (∀ k, m1 k [] = 0) ∧ (∀ k, m2 k [] = 0) ∧ ∀ k, m3 k [] = 0 := ⟨fun _ => rfl, fun _ => rfl, fun _ => rfl⟩
theorem qdb (k : KeyS) (l : List Ver) (low : Nat) : m1 k (q0r l low) ≤ m1 k l ∧ m2 k (q0r l low) ≤ m2 k l ∧ m3 k (q0r l low) ≤ m3 k l := by
 have hn : l = [] → q0r l low = [] := fun e => by rw [e]; rfl
 refine ⟨?_, qaV l low, ?_⟩
 ·unfold m1
  by_cases h : q0r l low = []
  ·rw [if_pos h]; exact Nat.zero_le _
  ·rw [if_neg h, if_neg (fun e => h (hn e))]; exact Nat.le_refl _
 ·unfold m3
  by_cases h : q0r l low = []
  ·rw [if_pos h]; exact Nat.zero_le _
  ·rw [if_neg h, if_neg (fun e => h (hn e))]
   have := q91 l low
   omega
theorem qfC {L : LimS} {K K' : KsS} (h : q0F K) (h' : q0F K') (hf : q2c K) (hf' : q2c K') (hm : ∀ k, m1 k (q03 K k) ≤ m1 k (q03 K' k) ∧ m2 k (q03 K k) ≤ m2 k (q03 K' k) ∧ m3 k (q03 K k) ≤ m3 k (q03 K' k)) (hfit : q3r L K' = true) : q3r L K = true := by
 have s1 := q6u q3X.1 h h' fun k => (hm k).1
 have s2 := q6u q3X.2.1 h h' fun k => (hm k).2.1
 have s3 := q6u q3X.2.2 h h' fun k => (hm k).2.2
 rw [← q49 hf, ← q49 hf'] at s1
 rw [← q2y, ← q2y] at s2
 rw [← q3d hf, ← q3d hf'] at s3
 unfold q3r at hfit ⊢
 simp only [Bool.and_eq_true, decide_eq_true_eq] at hfit ⊢
 omega
theorem q2P {L : LimS} {K : KsS} (h : q0F K) (hf : q2c K) (low : Nat) (hfit : q3r L K = true) : q3r L (q08 K low) = true :=
 qfC (q0N h low) h (q1k _ _) hf (fun k => by rw [q12 h]; exact qdb k _ low) hfit
theorem qaH {K : KsS} (h : q0F K) {lo hi : KeyS} {t : Nat} {p : KeyS × List UInt8} : p ∈ q1R K lo hi t ↔ inS lo hi p.1 = true ∧ q0V K p.1 t = some p.2 := by
 unfold q1R
 rw [List.mem_filterMap]
 constructor
 ·rintro ⟨x, hx, e⟩
  unfold q3D at e
  split at e
  ·next hi =>
   obtain ⟨b, hb, e⟩ := Option.map_eq_some_iff.1 e
   subst e
   unfold q0V
   rw [q0G h hx]
   exact ⟨hi, hb⟩
  ·cases e
 ·rintro ⟨h1, h2⟩
  have hn : q03 K p.1 ≠ [] := fun e => by
   unfold q0V at h2
   rw [e] at h2
   cases h2
  refine ⟨_, q10 hn, ?_⟩
  unfold q3D
  unfold q0V at h2
  rw [if_pos h1, h2]
  rfl
theorem q6q {K : KsS} (h : q0F K) (lo hi : KeyS) (t : Nat) : (q1R K lo hi t).Pairwise fun a b => blt a.1 b.1 = true := by
 unfold q1R
 rw [List.pairwise_filterMap]
 refine List.Pairwise.imp ?_ h
 intro a b hab x hx y hy
 unfold q3D at hx hy
 split at hx
 ·split at hy
  ·obtain ⟨_, _, e⟩ := Option.map_eq_some_iff.1 hx
   obtain ⟨_, _, e'⟩ := Option.map_eq_some_iff.1 hy
   subst e e'
   exact hab
  ·cases hy
 ·cases hx
theorem qdM {K K' : KsS} (h : q0F K) (h' : q0F K') {lo hi : KeyS} {t : Nat} (he : ∀ k, q0V K k t = q0V K' k t) : q1R K lo hi t = q1R K' lo hi t :=
 q5t Prod.fst (q6q h lo hi t) (q6q h' lo hi t) fun p => by rw [qaH h, qaH h', he]
theorem qdH {st : PS} {l : List Wr} (h : OkS st) (hc : q0j [] l = 0) {t : Nat} (ht : t ≤ st.time) (k : KeyS) : q0V (q0t st l) k t = q0V st.K k t := by
 unfold q0V
 rw [(q6z h hc).2.2]
 rcases q2N h hc k with e | ⟨w, _, _, _, e, _⟩
 ·rw [e]
 ·rw [e]
  unfold getH
  rw [qeC, if_neg (show ¬ (verW st w).tm ≤ t by show ¬ st.time + 1 ≤ t; omega)]
theorem q2R {st : PS} (h : OkS st) {low t : Nat} (ht : low ≤ t) (k : KeyS) : q0V (q08 st.K low) k t = q0V st.K k t := by
 unfold q0V
 rw [q12 h.sort]
 exact qeE ((q15 _ 0).1 (h.rightC k)).2 ht
open Go.RowKit
structure q4h where
 n : Nat
 e : Int
 b : List UInt8
 is : Bool
 scan : List (KeyS × List UInt8)
def qgp : q4h := ⟨0, 0, [], false, []⟩
section
variable {L : LimS} {st : PS} {l : List Wr} {low : Nat}
theorem q5q (h : OkS st) : OkS (q2x L st l low) := by
 unfold q2x
 split
 ·exact h
 ·exact q2I h low
theorem q4x : (q2x L st l low).time = st.time := by
 unfold q2x
 split <;> rfl
theorem q1j (L : LimS) (st : PS) (l : List Wr) (low : Nat) :
  ((q09 L st l low) = (st, 0, q0j [] l) ∧ q0j [] l ≠ 0) ∨ (q09 L st l low = (st, st.time, 0) ∧ q0j [] l = 0 ∧ l = []) ∨ (q09 L st l low = (st, 0, 5) ∧ q0j [] l = 0 ∧ l ≠ [] ∧ st.time = L.last) ∨
   (q09 L st l low = (⟨st.time + 1, q0t (q2x L st l low) l⟩, st.time + 1, 0) ∧ q0j [] l = 0 ∧ l ≠ [] ∧ st.time ≠ L.last ∧ q3r L (q0t (q2x L st l low) l) = true) ∨
   (q09 L st l low = (q2x L st l low, 0, 5) ∧ q0j [] l = 0 ∧ l ≠ [] ∧ st.time ≠ L.last ∧ q3r L (q0t (q2x L st l low) l) = false) := by
 unfold q09
 by_cases h1 : q0j [] l = 0
 ·rw [if_neg (fun h => h h1)]
  by_cases h2 : l = []
  ·rw [if_pos h2]
   exact .inr (.inl ⟨rfl, h1, h2⟩)
  ·rw [if_neg h2]
   by_cases h3 : st.time = L.last
   ·rw [if_pos h3]
    exact .inr (.inr (.inl ⟨rfl, h1, h2, h3⟩))
   ·rw [if_neg h3]
    by_cases h4 : q3r L (q0t (q2x L st l low) l) = true
    ·rw [if_pos h4]
     exact .inr (.inr (.inr (.inl ⟨rfl, h1, h2, h3, h4⟩)))
    ·rw [if_neg h4]
     exact .inr (.inr (.inr (.inr ⟨rfl, h1, h2, h3, by simpa using h4⟩)))
 ·rw [if_pos h1]
  exact .inl ⟨rfl, h1⟩
theorem qbI (h : OkS st) (L : LimS) (l : List Wr) (low : Nat) : OkS (q09 L st l low).1 := by
 rcases q1j L st l low with ⟨e, _⟩ | ⟨e, _⟩ | ⟨e, _⟩ | ⟨e, hc, _⟩ | ⟨e, _⟩ <;> rw [e]
 ·exact h
 ·exact h
 ·exact h
 ·have := q7H (q5q (L := L) (l := l) (low := low) h) hc
  rw [q4x] at this
  exact this
 ·exact q5q h
def InS (L : LimS) (st : PS) : Prop := q3r L st.K = true ∧ st.time ≤ L.last
theorem qfF (h : OkS st) (hi : InS L st) : InS L (q2x L st l low) := by
 unfold q2x
 split
 ·exact hi
 ·exact ⟨q2P h.sort h.full low hi.1, hi.2⟩
theorem qcX (h : OkS st) (hi : InS L st) (l : List Wr) (low : Nat) : InS L (q09 L st l low).1 := by
 rcases q1j L st l low with ⟨e, _⟩ | ⟨e, _⟩ | ⟨e, _⟩ | ⟨e, _, _, h3, h4⟩ | ⟨e, _⟩ <;> rw [e]
 ·exact hi
 ·exact hi
 ·exact hi
 ·exact ⟨h4, by have := hi.2; show st.time + 1 ≤ L.last; omega⟩
 ·exact qfF h hi
theorem qaf (L : LimS) (st : PS) (l : List Wr) (low : Nat) : st.time ≤ (q09 L st l low).1.time := by
 rcases q1j L st l low with ⟨e, _⟩ | ⟨e, _⟩ | ⟨e, _⟩ | ⟨e, _⟩ | ⟨e, _⟩ <;> rw [e]
 ·exact Nat.le_refl _
 ·exact Nat.le_refl _
 ·exact Nat.le_refl _
 ·exact Nat.le_succ _
 ·rw [q4x]; exact Nat.le_refl _
theorem q8Q (h : OkS st) {t : Nat} (hl : low ≤ t) (k : KeyS) : q0V (q2x L st l low).K k t = q0V st.K k t := by
 unfold q2x
 split
 ·rfl
 ·exact q2R h hl k
theorem q6o (h : OkS st) {t : Nat} (ht : t ≤ st.time) (hl : low ≤ t) (k : KeyS) : q0V (q09 L st l low).1.K k t = q0V st.K k t := by
 rcases q1j L st l low with ⟨e, _⟩ | ⟨e, _⟩ | ⟨e, _⟩ | ⟨e, hc, _⟩ | ⟨e, _⟩ <;> rw [e]
 ·rw [← q8Q (L := L) (l := l) (low := low) h hl]
  exact qdH (q5q h) hc (by rw [q4x]; exact ht) k
 ·exact q8Q h hl k
end
theorem q5K {K : KsS} (h : q0F K) (hr : ∀ k, (q03 K k).Pairwise (fun a b => a.tm < b.tm)) {less low : Nat} (hl : less ≤ low) : q08 (q08 K less) low = q08 K low :=
 qdV (q0N (q0N h less) low) (q0N h low) (q1k _ _) (q1k _ _) fun k => by
  rw [q12 (q0N h less), q12 h, q12 h]
  exact qe2 (hr k) hl
theorem OkS.rise {st : PS} (h : OkS st) (k : KeyS) : (q03 st.K k).Pairwise (fun a b => a.tm < b.tm) := ((q15 _ 0).1 (h.rightC k)).2
structure q98 (low : Nat) (s x : PS) : Prop where
 okS : OkS s
 okX : OkS x
 time : s.time = x.time
 upto : low ≤ s.time
 trim : q08 s.K low = q08 x.K low
theorem q98.read {low : Nat} {s x : PS} (h : q98 low s x) {t : Nat} (ht : low ≤ t) (k : KeyS) : q0V s.K k t = q0V x.K k t := by
 rw [← q2R h.okS ht, ← q2R h.okX ht, h.trim]
theorem q98.scan {low : Nat} {s x : PS} (h : q98 low s x) {t : Nat} (ht : low ≤ t) (lo hi : KeyS) : q1R s.K lo hi t = q1R x.K lo hi t :=
 qdM h.okS.sort h.okX.sort fun k => h.read ht k
theorem q98.collect {low : Nat} {s x : PS} (h : q98 low s x) : q98 low ⟨s.time, q08 s.K low⟩ x :=
 ⟨q2I h.okS low, h.okX, h.time, h.upto, by show q08 (q08 s.K low) low = _; rw [q5K h.okS.sort h.okS.rise (Nat.le_refl _), h.trim]⟩
def q4V (n : Int) : Bool := decide (1 ≤ n) && decide (n ≤ 1048576)
def MayS (L : LimS) : Bool := q4V L.keys && q4V L.vers && q4V L.byts && decide (1 ≤ L.last)
def q7i (K : KsS) : Prop := ∀ x ∈ K, x.1 ≠ [] ∧ x.1.length ≤ 256
theorem q8B (st : PS) : ∀ (l : List Wr) (K : KsS), (∀ w ∈ l, w.key ≠ [] ∧ w.key.length ≤ 256) → q7i K → q7i (l.foldl (q1e st) K)
 | [], _, _, h => h
 | w :: l, K, hl, h => by
  rw [List.foldl_cons]
  refine q8B st l _ (fun x hx => hl x (List.mem_cons_of_mem _ hx)) ?_
  unfold q1e
  split
  ·intro x hx
   rcases q1I.1 hx with ⟨h1, _⟩ | ⟨rfl, _⟩ | ⟨h1, _⟩
   ·exact h x h1
   ·exact hl w (List.mem_cons_self ..)
   ·exact h x h1
  ·exact h
theorem q8C {st : PS} {l : List Wr} (h : q7i st.K) (hc : q0j [] l = 0) : q7i (q0t st l) := by
 obtain ⟨h1, _⟩ := q0H hc
 exact q8B st l st.K (fun w hw => ⟨(fun e => by
  have := (h1 w hw).1
  rw [e, q0S] at this
  cases this), (h1 w hw).2.1⟩) h
theorem q5b {K : KsS} (h : q7i K) (low : Nat) : q7i (q08 K low) := fun x hx => by
 obtain ⟨y, hy, e, _⟩ := q1L.1 hx
 rw [e]
 exact h y hy
theorem qaG {L : LimS} (h : MayS L = true) : (1 ≤ L.keys ∧ L.keys ≤ 1048576) ∧ (1 ≤ L.vers ∧ L.vers ≤ 1048576) ∧ (1 ≤ L.byts ∧ L.byts ≤ 1048576) ∧ 1 ≤ L.last := by
 unfold MayS q4V at h
 simp only [Bool.and_eq_true, decide_eq_true_eq] at h
 omega
theorem qaD {L : LimS} {st : PS} (hm : MayS L = true) (hi : InS L st) : st.K.length ≤ 1048576 ∧ q1n st.K ≤ 1048576 ∧ q3c st.K ≤ 1048576 := by
 have h := qaG hm
 have hf := hi.1
 unfold q3r at hf
 simp only [Bool.and_eq_true, decide_eq_true_eq] at hf
 omega
theorem qcY {L : LimS} (hm : MayS L = true) : InS L ⟨0, []⟩ := by
 have h := qaG hm
 refine ⟨?_, Nat.zero_le _⟩
 unfold q3r
 simp only [Bool.and_eq_true, decide_eq_true_eq]
 have e1 : q1n [] = 0 := rfl
 have e2 : q3c [] = 0 := rfl
 rw [e1, e2]
 simp only [List.length_nil]
 omega
theorem qac {m : KeyS × List Ver → Nat} : ∀ {K : KsS} {x : KeyS × List Ver}, x ∈ K → m x ≤ (K.map m).sum
 | y :: K, x, hx => by
  rw [List.map_cons, List.sum_cons]
  rcases List.mem_cons.1 hx with rfl | hx
  ·omega
  ·have := qac (m := m) hx
   omega
theorem q9g (K : KsS) (k : KeyS) : (q03 K k).length ≤ q1n K ∧ q0z (q03 K k) ≤ q3c K := by
 by_cases e : q03 K k = []
 ·rw [e]
  exact ⟨Nat.zero_le _, Nat.zero_le _⟩
 ·have hm := q10 e
  refine ⟨qac (m := fun x => x.2.length) hm, ?_⟩
  have := qac (m := fun x => x.1.length + q0z x.2) hm
  exact Nat.le_trans (Nat.le_add_left _ _) this
theorem q97 {st : PS} (h : OkS st) (low : Nat) : q1n (q08 st.K low) ≤ q1n st.K := by
 rw [q2y, q2y]
 exact q6u q3X.2.1 (q0N h.sort low) h.sort fun k => by rw [q12 h.sort]; exact (qdb k _ low).2.1
end Go.Proofs.YtdpbllacfljmoaaGreat
