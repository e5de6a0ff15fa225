import Derived.WalkKit
import Derived.Test.YtdpbllacfljmoaaGreatZF00
set_option maxRecDepth 100000
set_option maxHeartbeats 16000000
set_option linter.unusedVariables false
namespace Go.Proofs.YtdpbllacfljmoaaGreat
structure Ver where
 tm : Nat
 gone : Bool
 dat : List UInt8
def q4H (v : Ver) : Bool := !(v.gone && decide (0 < v.dat.length))
def q99 : Nat → List Ver → Bool
 | _, [] => true
 | t, v :: l => decide (t < v.tm) && q4H v && q99 v.tm l
def q1A (l : List Ver) : Bool := q99 0 l
def q0Y (l : List Ver) (t : Nat) : Option Ver := (l.filter fun v => decide (v.tm ≤ t)).getLast?
def qg5 : Option Ver → Option (List UInt8)
 | some v => if v.gone = true then none else some v.dat
 | none => none
def getH (l : List Ver) (t : Nat) : Option (List UInt8) := qg5 (q0Y l t)
def q24 (l : List Ver) : Nat := match l.getLast? with | some v => v.tm | none => 0
def q4g : Option Ver → List Ver
 | some v => if v.gone = true then [] else [v]
 | none => []
theorem q34 {v : Ver} (h : v.gone = true) : q4g (some v) = [] := if_pos h
theorem q3V {v : Ver} (h : v.gone = false) : q4g (some v) = [v] := if_neg (by simp [h])
theorem qgh {v : Ver} (h : v.gone = true) : qg5 (some v) = none := if_pos h
def q0m (l : List Ver) (low : Nat) : List Ver := q4g (q0Y l low) ++ l.filter fun v => decide (low < v.tm)
def q0z (l : List Ver) : Nat := (l.map fun v => v.dat.length).sum
theorem q17 : ∀ (l : List Ver) (t : Nat), q99 t l = true ↔ (∀ v ∈ l, t < v.tm ∧ q4H v = true) ∧ l.Pairwise (fun a b => a.tm < b.tm)
 | [], t => by simp [q99]
 | v :: l, t => by
  rw [q99, Bool.and_eq_true, Bool.and_eq_true, decide_eq_true_iff, q17 l v.tm, List.pairwise_cons]
  constructor
  ·rintro ⟨⟨h1, h2⟩, h3, h4⟩
   refine ⟨fun x hx => ?_, fun x hx => (h3 x hx).1, h4⟩
   rcases List.mem_cons.1 hx with rfl | hx
   ·exact ⟨h1, h2⟩
   ·exact ⟨Nat.lt_trans h1 (h3 x hx).1, (h3 x hx).2⟩
  ·rintro ⟨h1, h2, h3⟩
   exact ⟨h1 v (List.mem_cons_self ..), fun x hx => ⟨h2 x hx, (h1 x (List.mem_cons_of_mem _ hx)).2⟩, h3⟩
theorem q8A {l : List Ver} (h : l.Pairwise (fun a b => a.tm < b.tm)) {a b : Nat} (hab : a ≤ b) :
  (l.filter fun v => decide (v.tm ≤ b)) = (l.filter fun v => decide (v.tm ≤ a)) ++ (l.filter fun v => decide (a < v.tm) && decide (v.tm ≤ b)) := by
 induction l with
 | nil => rfl
 | cons v l ih =>
  have h' := List.pairwise_cons.1 h
  have ih := ih h'.2
  by_cases h1 : v.tm ≤ a
  ·have h2 : v.tm ≤ b := by omega
   have h3 : ¬ a < v.tm := by omega
   simp only [List.filter_cons, h1, h2, h3, decide_true, decide_false, Bool.false_and, if_true, if_false, List.cons_append, Bool.false_eq_true]
   rw [ih]
  ·have h3 : a < v.tm := by omega
   have hn : (l.filter fun v => decide (v.tm ≤ a)) = [] := by
    rw [List.filter_eq_nil_iff]
    intro x hx
    have := h'.1 x hx
    simp; omega
   rw [hn, List.nil_append] at ih
   by_cases h2 : v.tm ≤ b
   ·simp only [List.filter_cons, h1, h2, h3, decide_true, decide_false, Bool.true_and, if_true, if_false, Bool.false_eq_true]
    rw [hn, ih]
    rfl
   ·simp only [List.filter_cons, h1, h2, h3, decide_true, decide_false, Bool.and_false, if_false, Bool.false_eq_true]
    rw [hn, ih]
    rfl
theorem q7N {l : List Ver} {t : Nat} : ∀ v ∈ q4g (q0Y l t), v.tm ≤ t ∧ v.gone = false ∧ v ∈ l := by
 intro v hv
 cases hf : q0Y l t with
 | none => rw [hf] at hv; cases hv
 | some x =>
  rw [hf] at hv
  cases hg : x.gone
  ·rw [q3V hg, List.mem_singleton] at hv
   subst hv
   have hm := List.mem_of_getLast? hf
   rw [List.mem_filter, decide_eq_true_iff] at hm
   exact ⟨hm.2, hg, hm.1⟩
  ·rw [q34 hg] at hv
   cases hv
theorem qaU (o : Option Ver) : (q4g o).length ≤ 1 := by
 cases o with
 | none => exact Nat.zero_le _
 | some v =>
  cases hg : v.gone
  ·rw [q3V hg]
   exact Nat.le_refl _
  ·rw [q34 hg]
   exact Nat.zero_le _
theorem q8B {l : List Ver} (h : l.Pairwise (fun a b => a.tm < b.tm)) {low t : Nat} (ht : low ≤ t) :
  q0Y (q0m l low) t = q0Y l t ∨ (q0Y (q0m l low) t = none ∧ ∃ v, q0Y l t = some v ∧ v.gone = true) := by
 have e : ((q0m l low).filter fun v => decide (v.tm ≤ t)) = q4g (q0Y l low) ++ (l.filter fun v => decide (low < v.tm) && decide (v.tm ≤ t)) := by
  unfold q0m
  rw [List.filter_append, List.filter_filter]
  congr 1
  ·rw [List.filter_eq_self]
   intro v hv
   have := (q7N v hv).1
   rw [decide_eq_true_iff]
   omega
  ·congr 1
   funext v
   exact Bool.and_comm _ _
 unfold q0Y
 rw [e, q8A h ht]
 cases hs : (l.filter fun v => decide (low < v.tm) && decide (v.tm ≤ t)) with
 | cons x r =>
  left
  rw [List.getLast?_append, List.getLast?_append]
  have : ∃ y, (x :: r).getLast? = some y := ⟨_, List.getLast?_eq_some_getLast (by simp)⟩
  obtain ⟨y, hy⟩ := this
  rw [hy]
  rfl
 | nil =>
  rw [List.append_nil, List.append_nil]
  show (q4g (q0Y l low)).getLast? = q0Y l low ∨ _ = _ ∧ ∃ v, q0Y l low = some v ∧ _
  cases hf : q0Y l low with
  | none => exact .inl rfl
  | some v =>
   cases hg : v.gone
   ·left
    rw [q3V hg]
    rfl
   ·right
    refine ⟨?_, v, rfl, hg⟩
    rw [q34 hg]
    rfl
theorem qf1 {l : List Ver} (h : l.Pairwise (fun a b => a.tm < b.tm)) {low t : Nat} (ht : low ≤ t) : getH (q0m l low) t = getH l t := by
 unfold getH
 rcases q8B h ht with e | ⟨e, v, e2, hg⟩
 ·rw [e]
 ·rw [e, e2, qgh hg]
  rfl
theorem q9o {l : List Ver} (h : l.Pairwise (fun a b => a.tm < b.tm)) (low : Nat) : (q0m l low).Pairwise (fun a b => a.tm < b.tm) := by
 unfold q0m
 rw [List.pairwise_append]
 refine ⟨?_, h.filter _, ?_⟩
 ·cases hk : q4g (q0Y l low) with
  | nil => exact List.Pairwise.nil
  | cons x r =>
   have := qaU (q0Y l low)
   rw [hk, List.length_cons] at this
   have : r = [] := List.eq_nil_of_length_eq_zero (by omega)
   rw [this]
   exact List.pairwise_singleton ..
 ·intro a ha b hb
  have h1 := (q7N a ha).1
  have h2 := (List.mem_filter.1 hb).2
  rw [decide_eq_true_iff] at h2
  omega
theorem qbd {l : List Ver} {low : Nat} {v : Ver} (h : v ∈ q0m l low) : v ∈ l := by
 unfold q0m at h
 rcases List.mem_append.1 h with h | h
 ·exact (q7N v h).2.2
 ·exact (List.mem_filter.1 h).1
theorem qc7 {l : List Ver} (h : q1A l = true) (low : Nat) : q1A (q0m l low) = true := by
 obtain ⟨h1, h2⟩ := (q17 l 0).1 h
 exact (q17 _ 0).2 ⟨fun v hv => h1 v (qbd hv), q9o h2 low⟩
theorem q9n {l : List Ver} {low less : Nat} (h : less ≤ low) : ((q0m l less).filter fun v => decide (low < v.tm)) = l.filter fun v => decide (low < v.tm) := by
 unfold q0m
 rw [List.filter_append, List.filter_filter]
 have h1 : ((q4g (q0Y l less)).filter fun v => decide (low < v.tm)) = [] := by
  rw [List.filter_eq_nil_iff]
  intro v hv
  have := (q7N v hv).1
  simp; omega
 rw [h1, List.nil_append]
 congr 1
 funext v
 by_cases h2 : low < v.tm
 ·simp [h2, show less < v.tm by omega]
 ·simp [h2]
theorem qeo {l : List Ver} (h : l.Pairwise (fun a b => a.tm < b.tm)) {low less : Nat} (hl : less ≤ low) : q0m (q0m l less) low = q0m l low := by
 show q4g (q0Y (q0m l less) low) ++ _ = q4g (q0Y l low) ++ _
 rw [q9n hl]
 rcases q8B h hl with e | ⟨e, v, e2, hg⟩
 ·rw [e]
 ·rw [e, e2, q34 hg]
  rfl
theorem qal (p : Ver → Bool) : ∀ l : List Ver, q0z (l.filter p) ≤ q0z l
 | [] => Nat.le_refl _
 | v :: l => by
  have ih := qal p l
  unfold q0z at *
  rw [List.filter_cons]
  split
  ·simp only [List.map_cons, List.sum_cons]; omega
  ·simp only [List.map_cons, List.sum_cons]; omega
theorem q6F (a b : List Ver) : q0z (a ++ b) = q0z a + q0z b := by simp [q0z]
theorem q80 {l : List Ver} {v : Ver} (h : v ∈ l) : v.dat.length ≤ q0z l := by
 induction l with
 | nil => cases h
 | cons x l ih =>
  unfold q0z at *
  simp only [List.map_cons, List.sum_cons]
  rcases List.mem_cons.1 h with rfl | h
  ·omega
  ·have := ih h
   omega
theorem q7r (low : Nat) : ∀ l : List Ver, q0z (l.filter fun v => decide (v.tm ≤ low)) + q0z (l.filter fun v => decide (low < v.tm)) = q0z l
 | [] => rfl
 | v :: l => by
  have ih := q7r low l
  unfold q0z at *
  by_cases h : v.tm ≤ low
  ·have h2 : ¬ low < v.tm := by omega
   simp only [List.filter_cons, h, h2, decide_true, decide_false, if_true, if_false, Bool.false_eq_true, List.map_cons, List.sum_cons]
   omega
  ·have h2 : low < v.tm := by omega
   simp only [List.filter_cons, h, h2, decide_true, decide_false, if_true, if_false, Bool.false_eq_true, List.map_cons, List.sum_cons]
   omega
theorem q9i (l : List Ver) (low : Nat) : q0z (q0m l low) ≤ q0z l := by
 have h := q7r low l
 have hk : q0z (q4g (q0Y l low)) ≤ q0z (l.filter fun v => decide (v.tm ≤ low)) := by
  cases hf : q0Y l low with
  | none => exact Nat.zero_le _
  | some v =>
   cases hg : v.gone
   ·rw [q3V hg]
    have := q80 (List.mem_of_getLast? hf)
    simpa [q0z] using this
   ·rw [q34 hg]
    exact Nat.zero_le _
 unfold q0m
 rw [q6F]
 omega
theorem qeZ (l : List Ver) (v : Ver) (t : Nat) : q0Y (l ++ [v]) t = if v.tm ≤ t then some v else q0Y l t := by
 unfold q0Y
 rw [List.filter_append]
 by_cases hv : v.tm ≤ t
 ·rw [if_pos hv]
  simp [hv]
 ·rw [if_neg hv]
  simp [hv]
theorem qdt {l : List Ver} (h : l.Pairwise (fun a b => a.tm < b.tm)) {t : Nat} (ht : q24 l < t) : ∀ x ∈ l, x.tm < t := by
 intro x hx
 unfold q24 at ht
 cases hl : l.getLast? with
 | none => rw [List.getLast?_eq_none_iff] at hl; rw [hl] at hx; cases hx
 | some v =>
  rw [hl] at ht
  have ht : v.tm < t := ht
  obtain ⟨ys, hy⟩ := List.getLast?_eq_some_iff.1 hl
  subst hy
  rw [List.pairwise_append] at h
  rcases List.mem_append.1 hx with hx | hx
  ·have := h.2.2 x hx v (List.mem_singleton.2 rfl)
   omega
  ·rw [List.mem_singleton] at hx
   subst hx
   exact ht
theorem qe3 {l : List Ver} {v : Ver} (h : q1A l = true) (hv : q4H v = true) (ht : q24 l < v.tm) : q1A (l ++ [v]) = true := by
 obtain ⟨h1, h2⟩ := (q17 l 0).1 h
 refine (q17 _ 0).2 ⟨fun x hx => ?_, ?_⟩
 ·rcases List.mem_append.1 hx with hx | hx
  ·exact h1 x hx
  ·rw [List.mem_singleton] at hx
   subst hx
   exact ⟨by omega, hv⟩
 ·rw [List.pairwise_append]
  refine ⟨h2, List.pairwise_singleton .., fun a ha b hb => ?_⟩
  rw [List.mem_singleton] at hb
  subst hb
  exact qdt h2 ht a ha
open Go.RowKit
structure MV where
 v : Ver
 A : Option Addr
 c : Nat
def q1D (x : MV) : List Value := [.int .u64 x.v.tm, .bool x.v.gone, .slice x.A x.v.dat.length x.c]
theorem mvF : q12 3 q1D := ⟨by decide, fun _ => rfl, fun x v hv => by
 simp only [q1D, List.mem_cons, List.not_mem_nil, or_false] at hv
 rcases hv with rfl | rfl | rfl <;> rfl⟩
def Sl (w : World) (hi : Nat) (A : Option Addr) (c : Nat) (l : List UInt8) : Prop := l.length ≤ c ∧ c ≤ maxLen ∧ (A = none → c = 0) ∧ Rd w 0 hi A l
def OkMV (w : World) (hi : Nat) (x : MV) : Prop := x.v.tm < 18446744073709551616 ∧ Sl w hi x.A x.c x.v.dat
def RowH (w : World) (hi : Nat) (A : Option Addr) (l : List Ver) : Prop := ∃ ms : List MV, ms.map MV.v = l ∧ RowG q1D w 0 hi A ms ∧ ∀ x ∈ ms, OkMV w hi x
section
variable {w w' : World} {hi hi' B : Nat} {A : Option Addr} {l : List Ver}
theorem Sl.below {c : Nat} {d : List UInt8} (h : Sl w hi A c d) (hb : Below B w w') (hB : hi ≤ B) (hh : hi ≤ hi') : Sl w' hi' A c d := ⟨h.1, h.2.1, h.2.2.1, (h.2.2.2.below hb hB).wide (Nat.le_refl _) hh⟩
theorem OkMV.below {x : MV} (h : OkMV w hi x) (hb : Below B w w') (hB : hi ≤ B) (hh : hi ≤ hi') : OkMV w' hi' x := ⟨h.1, h.2.below hb hB hh⟩
theorem RowH.below (h : RowH w hi A l) (hb : Below B w w') (hB : hi ≤ B) (hh : hi ≤ hi') : RowH w' hi' A l := by
 obtain ⟨ms, e, h1, h2⟩ := h
 exact ⟨ms, e, (h1.below hb hB).wide (Nat.le_refl _) hh, fun x hx => (h2 x hx).below hb hB hh⟩
theorem RowH.nil_ (w : World) (hi : Nat) (A : Option Addr) : RowH w hi A [] := ⟨[], rfl, RowG.nil_, by simp⟩
theorem RowH.at_ (h : RowH w hi A l) {j : Nat} (hj : j < l.length) :
  ∃ b o A' c', A = some ⟨b, o, none⟩ ∧ b < hi ∧ w.cell? ⟨b, o + j * 3, none⟩ = some (.int .u64 (l[j]'hj).tm) ∧ w.cell? ⟨b, o + j * 3 + 1, none⟩ = some (.bool (l[j]'hj).gone) ∧ w.cell? ⟨b, o + j * 3 + 2, none⟩ = some (.slice A' (l[j]'hj).dat.length c') ∧
   Sl w hi A' c' (l[j]'hj).dat ∧ (l[j]'hj).tm < 18446744073709551616 := by
 obtain ⟨ms, rfl, h1, h2⟩ := h
 have hj' : j < ms.length := by simpa using hj
 obtain ⟨b, o, e, _, hb, hc⟩ := h1.at_ mvF hj'
 obtain ⟨k1, k2⟩ := h2 _ (List.getElem_mem hj')
 refine ⟨b, o, ms[j].A, ms[j].c, e, hb, ?_, ?_, ?_, by simpa using k2, by simpa using k1⟩
 ·have := hc 0 _ rfl
  simpa using this
 ·have := hc 1 _ rfl
  simpa using this
 ·have := hc 2 _ rfl
  simpa using this
end
theorem q91 : q2a Tryz.prog 182 3 40 := q2a.of (by kernel_rfl)
instance : DecidableEq Ver := fun a b => decidable_of_iff (a.tm = b.tm ∧ a.gone = b.gone ∧ a.dat = b.dat) (by cases a; cases b; simp)
def q2T (v : Ver) (A : Option Addr) (c : Nat) : Value := .agg #[.int .u64 v.tm, .bool v.gone, .slice A v.dat.length c]
def Ver0 : Ver := ⟨0, false, []⟩
abbrev blt (a b : List UInt8) : Bool := Op.bytesLess a b
theorem q5T (a : List UInt8) : blt a [] = false := by cases a <;> rfl
theorem q4s (a b : UInt8) (x y : List UInt8) : blt (a :: x) (b :: y) = (decide (a < b) || (a == b && blt x y)) := rfl
theorem q0V (a : List UInt8) : blt a a = false := by
 induction a with
 | nil => rfl
 | cons c a ih => simp [q4s, ih]
theorem q6Y {a b : UInt8} {x y : List UInt8} (h : a < b) : blt (a :: x) (b :: y) = true := by simp [q4s, h]
theorem q6X {a b : UInt8} {x y : List UInt8} (h : b < a) : blt (a :: x) (b :: y) = false := by
 have h1 : ¬ a < b := UInt8.lt_asymm h
 have h2 : (a == b) = false := by
  rw [beq_eq_false_iff_ne]
  intro e
  subst e
  exact UInt8.lt_irrefl _ h
 simp [q4s, h1, h2]
theorem q8f (a : UInt8) (x y : List UInt8) : blt (a :: x) (a :: y) = blt x y := by simp [q4s]
theorem q9p (a b : UInt8) : a < b ∨ a = b ∨ b < a := by
 rcases Nat.lt_trichotomy a.toNat b.toNat with h | h | h
 ·exact .inl (UInt8.lt_iff_toNat_lt.2 h)
 ·exact .inr (.inl (UInt8.toNat_inj.1 h))
 ·exact .inr (.inr (UInt8.lt_iff_toNat_lt.2 h))
theorem q2c : ∀ a b : List UInt8, blt a b = true ∨ a = b ∨ blt b a = true
 | [], [] => .inr (.inl rfl)
 | [], _ :: _ => .inl rfl
 | _ :: _, [] => .inr (.inr rfl)
 | a :: x, b :: y => by
  rcases q9p a b with h | rfl | h
  ·exact .inl (q6Y h)
  ·rw [q8f, q8f]
   rcases q2c x y with h | rfl | h
   ·exact .inl h
   ·exact .inr (.inl rfl)
   ·exact .inr (.inr h)
  ·exact .inr (.inr (q6Y h))
theorem q1Z : ∀ {a b : List UInt8}, blt a b = true → blt b a = false
 | _, [], h => by rw [q5T] at h; cases h
 | [], _ :: _, _ => rfl
 | a :: x, b :: y, h => by
  rcases q9p a b with g | rfl | g
  ·exact q6X g
  ·rw [q8f] at h ⊢
   exact q1Z h
  ·rw [q6X g] at h
   cases h
def bs (k : List UInt8) : ByteArray := ⟨k.toArray⟩
theorem q1k (k : List UInt8) : (bs k).toList = k := by rw [ByteArray.toList_eq]; rfl
theorem q20 (k : List UInt8) : (bs k).size = k.length := by simp [bs, ByteArray.size]
theorem qgB (s : ByteArray) : s = bs s.data.toList := by cases s; simp [bs]
theorem q4Y (a b : List UInt8) : Op.bytesLess (bs a).toList (bs b).toList = blt a b := by rw [q1k, q1k]
theorem q4a (a b : List UInt8) : ((bs a).toList == (bs b).toList) = (a == b) := by rw [q1k, q1k]
theorem qgq (a b : List UInt8) (t : TypeId) : binOp .lss t (.string (bs a)) (.string (bs b)) = pure (.bool (blt a b)) := by
 have h : binOp .lss t (.string (bs a)) (.string (bs b)) = pure (.bool (Op.bytesLess (bs a).toList (bs b).toList)) := by simp [binOp, Op.stringOp]
 rw [h, q4Y]
theorem qgS (a b : List UInt8) (t : TypeId) : binOp .geq t (.string (bs a)) (.string (bs b)) = pure (.bool !(blt a b)) := by
 have h : binOp .geq t (.string (bs a)) (.string (bs b)) = pure (.bool !(Op.bytesLess (bs a).toList (bs b).toList)) := by simp [binOp, Op.stringOp]
 rw [h, q4Y]
theorem qgT (a b : List UInt8) (t : TypeId) : binOp .gtr t (.string (bs a)) (.string (bs b)) = pure (.bool (blt b a)) := by
 have h : binOp .gtr t (.string (bs a)) (.string (bs b)) = pure (.bool !(Op.bytesLess (bs a).toList (bs b).toList || (bs a).toList == (bs b).toList)) := by simp [binOp, Op.stringOp]
 rw [h, q4Y, q4a]
 rcases q2c a b with g | g | g
 ·have g2 := q1Z g
  rw [g2, show blt a b = true from g]
  rfl
 ·subst g
  rw [q0V]
  simp
 ·have g2 := q1Z g
  have g3 : (a == b) = false := by
   rw [beq_eq_false_iff_ne]
   rintro rfl
   rw [q0V] at g
   cases g
  rw [g, g2, g3]
  rfl
theorem q0p : ∀ {a b c : List UInt8}, blt a b = true → blt b c = true → blt a c = true
 | _, [], _, h, _ => by rw [q5T] at h; cases h
 | _, _ :: _, [], _, h => by rw [q5T] at h; cases h
 | [], _ :: _, _ :: _, _, _ => rfl
 | a :: x, b :: y, c :: z, h, g => by
  rcases q9p a b with e | rfl | e
  ·rcases q9p b c with f | rfl | f
   ·exact q6Y (UInt8.lt_trans e f)
   ·exact q6Y e
   ·rw [q6X f] at g; cases g
  ·rcases q9p a c with f | rfl | f
   ·exact q6Y f
   ·rw [q8f] at h g ⊢
    exact q0p h g
   ·rw [q6X f] at g; cases g
  ·rw [q6X e] at h; cases h
structure V where
 k : Int
 n : Int
 s : ByteArray
section
variable {k k' n n' : Int} {s s' : ByteArray}
end
open Go.RowKit
abbrev KeyS := List UInt8
abbrev KsS := List (KeyS × List Ver)
structure Wr where
 key : KeyS
 gone : Bool
 dat : List UInt8
structure LimS where
 keys : Int
 vers : Int
 byts : Int
 last : Nat
structure PS where
 time : Nat
 K : KsS
def q03 (K : KsS) (k : KeyS) : List Ver := ((K.find? fun x => x.1 == k).map Prod.snd).getD []
def q1v (K : KsS) (k : KeyS) (t : Nat) : Option (List UInt8) := getH (q03 K k) t
def inS (lo hi k : KeyS) : Bool := !blt k lo && (hi.isEmpty || blt k hi)
def q3J (lo hi : KeyS) (t : Nat) (x : KeyS × List Ver) : Option (KeyS × List UInt8) := if inS lo hi x.1 = true then (getH x.2 t).map fun b => (x.1, b) else none
def q1w (K : KsS) (lo hi : KeyS) (t : Nat) : List (KeyS × List UInt8) := K.filterMap (q3J lo hi t)
def q0h : KeyS → List Wr → Int
 | _, [] => 0
 | last, w :: l => if 256 < w.key.length ∨ 4096 < w.dat.length then 3 else if blt last w.key = false ∨ q4H ⟨0, w.gone, w.dat⟩ = false then 1 else q0h w.key l
def q1q (K : KsS) : Nat := (K.map fun x => x.2.length).sum
def q3f (K : KsS) : Nat := (K.map fun x => x.1.length + q0z x.2).sum
def putS (K : KsS) (k : KeyS) (c : List Ver) : KsS := K.filter (fun x => blt x.1 k) ++ (if c.isEmpty = true then [] else [(k, c)]) ++ K.filter (fun x => blt k x.1)
def addH (l : List Ver) (v : Ver) : List Ver := if (q1A l && q1A [v]) = true then if v.tm ≤ q24 l then [] else l ++ [v] else []
def q1x (st : PS) (w : Wr) : Bool := !(w.gone && (q1v st.K w.key st.time).isNone)
def verW (st : PS) (w : Wr) : Ver := ⟨st.time + 1, w.gone, w.dat⟩
def q1e (st : PS) (K : KsS) (w : Wr) : KsS := if q1x st w = true then putS K w.key (addH (q03 st.K w.key) (verW st w)) else K
def q0n (st : PS) (l : List Wr) : KsS := l.foldl (q1e st) st.K
def q2J (L : LimS) (K : KsS) : Bool := decide ((K.length : Int) ≤ L.keys) && decide ((q1q K : Int) ≤ L.vers) && decide ((q3f K : Int) ≤ L.byts)
def q3M (low : Nat) (x : KeyS × List Ver) : Option (KeyS × List Ver) := if (q0m x.2 low).isEmpty = true then none else some (x.1, q0m x.2 low)
def q05 (K : KsS) (low : Nat) : KsS := K.filterMap (q3M low)
def q1O (L : LimS) (st : PS) (l : List Wr) (low : Nat) : PS := if q2J L (q0n st l) = true then st else ⟨st.time, q05 st.K low⟩
def q09 (L : LimS) (st : PS) (l : List Wr) (low : Nat) : PS × Nat × Int :=
 if q0h [] l ≠ 0 then (st, 0, q0h [] l)
 else if l = [] then (st, st.time, 0)
 else if st.time = L.last then (st, 0, 5)
 else if q2J L (q0n (q1O L st l low) l) = true then (⟨st.time + 1, q0n (q1O L st l low) l⟩, st.time + 1, 0)
 else (q1O L st l low, 0, 5)
theorem q1j {a b : List UInt8} (h : blt a b = true) : a ≠ b := fun e => by
 subst e
 rw [q0V] at h
 cases h
theorem q5S {a b : List UInt8} (h : a ≠ b) : (a == b) = false := by rw [beq_eq_false_iff_ne]; exact h
theorem q5I {α : Type} (f : α → List UInt8) : ∀ {a b : List α}, a.Pairwise (fun x y => blt (f x) (f y) = true) → b.Pairwise (fun x y => blt (f x) (f y) = true) → (∀ x, x ∈ a ↔ x ∈ b) → a = b
 | [], [], _, _, _ => rfl
 | [], y :: b, _, _, h => absurd ((h y).2 (List.mem_cons_self ..)) (by simp)
 | x :: a, [], _, _, h => absurd ((h x).1 (List.mem_cons_self ..)) (by simp)
 | x :: a, y :: b, ha, hb, h => by
  rw [List.pairwise_cons] at ha hb
  have e : x = y := by
   rcases List.mem_cons.1 ((h x).1 (List.mem_cons_self ..)) with e | hx
   ·exact e
   ·rcases List.mem_cons.1 ((h y).2 (List.mem_cons_self ..)) with e | hy
    ·exact e.symm
    ·have h1 := q1Z (hb.1 x hx)
     rw [ha.1 y hy] at h1
     cases h1
  subst e
  have ht := q5I f ha.2 hb.2 (fun z => by
   constructor
   ·intro hz
    rcases List.mem_cons.1 ((h z).1 (List.mem_cons_of_mem _ hz)) with e | hz'
    ·subst e
     exact absurd rfl (q1j (ha.1 z hz))
    ·exact hz'
   ·intro hz
    rcases List.mem_cons.1 ((h z).2 (List.mem_cons_of_mem _ hz)) with e | hz'
    ·subst e
     exact absurd rfl (q1j (hb.1 z hz))
    ·exact hz')
  rw [ht]
def q0F (K : KsS) : Prop := K.Pairwise (fun x y => blt x.1 y.1 = true)
def q2i (K : KsS) : Prop := ∀ x ∈ K, x.2 ≠ []
theorem q6Z (k : KeyS) : q03 [] k = [] := rfl
theorem q0s (x : KeyS × List Ver) (K : KsS) (k : KeyS) : q03 (x :: K) k = if x.1 = k then x.2 else q03 K k := by
 unfold q03
 rw [List.find?_cons]
 by_cases h : x.1 = k
 ·rw [if_pos h, h, beq_self_eq_true]
  rfl
 ·rw [if_neg h, q5S h]
theorem q2G {K : KsS} {k : KeyS} (h : ∀ x ∈ K, x.1 ≠ k) : q03 K k = [] := by
 induction K with
 | nil => rfl
 | cons x K ih =>
  rw [q0s, if_neg (h x (List.mem_cons_self ..))]
  exact ih fun y hy => h y (List.mem_cons_of_mem _ hy)
theorem q0F.tail {x : KeyS × List Ver} {K : KsS} (h : q0F (x :: K)) : q0F K := (List.pairwise_cons.1 h).2
theorem q0F.head {x : KeyS × List Ver} {K : KsS} (h : q0F (x :: K)) : ∀ y ∈ K, blt x.1 y.1 = true := (List.pairwise_cons.1 h).1
theorem q0K {K : KsS} (h : q0F K) {x : KeyS × List Ver} (hx : x ∈ K) : q03 K x.1 = x.2 := by
 induction K with
 | nil => cases hx
 | cons y K ih =>
  rw [q0s]
  rcases List.mem_cons.1 hx with rfl | hx
  ·rw [if_pos rfl]
  ·rw [if_neg (q1j (h.head x hx))]
   exact ih h.tail hx
theorem q14 {K : KsS} {k : KeyS} (h : q03 K k ≠ []) : (k, q03 K k) ∈ K := by
 induction K with
 | nil => exact absurd rfl h
 | cons y K ih =>
  rw [q0s] at h ⊢
  by_cases e : y.1 = k
  ·rw [if_pos e]
   subst e
   exact List.mem_cons_self ..
  ·rw [if_neg e] at h ⊢
   exact List.mem_cons_of_mem _ (ih h)
theorem q9l {K K' : KsS} (h : q0F K) (h' : q0F K') (hf : q2i K) (hf' : q2i K') (he : ∀ k, q03 K k = q03 K' k) : K = K' := by
 refine q5I Prod.fst h h' fun x => ?_
 constructor
 ·intro hx
  have e := q0K h hx
  have h2 : q03 K' x.1 ≠ [] := by rw [← he, e]; exact hf x hx
  have h3 := q14 h2
  rw [← he, e] at h3
  exact h3
 ·intro hx
  have e := q0K h' hx
  have h2 : q03 K x.1 ≠ [] := by rw [he, e]; exact hf' x hx
  have h3 := q14 h2
  rw [he, e] at h3
  exact h3
theorem q1R {K : KsS} {k : KeyS} {c : List Ver} {x : KeyS × List Ver} : x ∈ putS K k c ↔ (x ∈ K ∧ blt x.1 k = true) ∨ (x = (k, c) ∧ c ≠ []) ∨ (x ∈ K ∧ blt k x.1 = true) := by
 unfold putS
 rw [List.mem_append, List.mem_append, List.mem_filter, List.mem_filter]
 cases c with
 | nil => simp
 | cons v c => simp [or_assoc]
theorem q3Z {K : KsS} (h : q0F K) (k : KeyS) (c : List Ver) : q0F (putS K k c) := by
 unfold putS q0F
 rw [List.pairwise_append, List.pairwise_append]
 refine ⟨⟨List.Pairwise.filter _ h, ?_, ?_⟩, List.Pairwise.filter _ h, ?_⟩
 ·cases c <;> simp
 ·intro a ha b hb
  cases c with
  | nil => simp at hb
  | cons v c =>
   have hb : b = (k, v :: c) := by simpa using hb
   subst hb
   exact (List.mem_filter.1 ha).2
 ·intro a ha b hb
  have hb2 := (List.mem_filter.1 hb).2
  rcases List.mem_append.1 ha with ha | ha
  ·exact q0p (List.mem_filter.1 ha).2 hb2
  ·cases c with
   | nil => simp at ha
   | cons v c =>
    have ha : a = (k, v :: c) := by simpa using ha
    subst ha
    exact hb2
theorem qaP {K : KsS} (h : q2i K) (k : KeyS) (c : List Ver) : q2i (putS K k c) := fun x hx => by
 rcases q1R.1 hx with ⟨h1, _⟩ | ⟨rfl, h1⟩ | ⟨h1, _⟩
 ·exact h x h1
 ·exact h1
 ·exact h x h1
theorem q5U {K : KsS} (h : q0F K) {k : KeyS} {c : List Ver} (hm : c ≠ [] → (k, c) ∈ K) (hn : c = [] → ∀ x ∈ K, x.1 ≠ k) : q03 K k = c := by
 by_cases hc : c = []
 ·rw [hc]
  exact q2G (hn hc)
 ·exact q0K h (hm hc)
theorem q3w {K : KsS} (h : q0F K) (hf : q2i K) (k : KeyS) (c : List Ver) (k' : KeyS) : q03 (putS K k c) k' = if k' = k then c else q03 K k' := by
 by_cases e : k' = k
 ·subst e
  rw [if_pos rfl]
  refine q5U (q3Z h k' c) (fun hc => q1R.2 (.inr (.inl ⟨rfl, hc⟩))) fun hc x hx => ?_
  rcases q1R.1 hx with ⟨_, h1⟩ | ⟨_, h1⟩ | ⟨_, h1⟩
  ·exact q1j h1
  ·exact absurd hc h1
  ·exact fun e => q1j h1 e.symm
 ·rw [if_neg e]
  refine q5U (q3Z h k c) (fun hc => ?_) fun hc x hx ex => ?_
  ·have hm := q14 hc
   rcases q2c k' k with g | g | g
   ·exact q1R.2 (.inl ⟨hm, g⟩)
   ·exact absurd g e
   ·exact q1R.2 (.inr (.inr ⟨hm, g⟩))
  ·have no : x ∈ K → False := fun hm => by
    have h1 := q0K h hm
    rw [ex, hc] at h1
    exact hf x hm h1.symm
   rcases q1R.1 hx with ⟨h1, _⟩ | ⟨rfl, _⟩ | ⟨h1, _⟩
   ·exact no h1
   ·exact e ex.symm
   ·exact no h1
def sumS (m : KeyS → List Ver → Nat) (K : KsS) : Nat := (K.map fun x => m x.1 x.2).sum
theorem q2N (m : KeyS → List Ver → Nat) (x : KeyS × List Ver) (K : KsS) : sumS m (x :: K) = m x.1 x.2 + sumS m K := by simp [sumS]
theorem q5L (m : KeyS → List Ver → Nat) (a b : KsS) : sumS m (a ++ b) = sumS m a + sumS m b := by simp [sumS]
def m1 : KeyS → List Ver → Nat := fun _ c => if c = [] then 0 else 1
def m2 : KeyS → List Ver → Nat := fun _ c => c.length
def m3 : KeyS → List Ver → Nat := fun k c => if c = [] then 0 else k.length + q0z c
theorem q4j {K : KsS} (hf : q2i K) : K.length = sumS m1 K := by
 induction K with
 | nil => rfl
 | cons x K ih =>
  rw [q2N, List.length_cons, ih fun y hy => hf y (List.mem_cons_of_mem _ hy)]
  have := hf x (List.mem_cons_self ..)
  unfold m1
  rw [if_neg this]
  omega
theorem q2C (K : KsS) : q1q K = sumS m2 K := rfl
theorem q3g {K : KsS} (hf : q2i K) : q3f K = sumS m3 K := by
 induction K with
 | nil => rfl
 | cons x K ih =>
  have e : q3f (x :: K) = x.1.length + q0z x.2 + q3f K := by simp [q3f]
  rw [q2N, e, ih fun y hy => hf y (List.mem_cons_of_mem _ hy)]
  have := hf x (List.mem_cons_self ..)
  unfold m3
  rw [if_neg this]
theorem q83 {m : KeyS → List Ver → Nat} (h0 : ∀ k, m k [] = 0) {K : KsS} (h : q0F K) (k : KeyS) : sumS m K = m k (q03 K k) + sumS m (K.filter fun x => decide (x.1 ≠ k)) := by
 induction K with
 | nil => simp [sumS, q6Z, h0]
 | cons x K ih =>
  rw [q2N, q0s, List.filter_cons]
  by_cases e : x.1 = k
  ·have hall : K.filter (fun x => decide (x.1 ≠ k)) = K := List.filter_eq_self.2 fun y hy => by
    have := q1j (h.head y hy)
    rw [e] at this
    simpa using fun e => this e.symm
   rw [if_pos e, if_neg (by simp [e]), hall, e]
  ·rw [if_neg e, if_pos (by simp [e]), q2N, ih h.tail]
   omega
theorem q2H {K : KsS} {k k' : KeyS} (h : k' ≠ k) : q03 (K.filter fun x => decide (x.1 ≠ k)) k' = q03 K k' := by
 induction K with
 | nil => rfl
 | cons x K ih =>
  rw [List.filter_cons]
  by_cases e : x.1 = k
  ·rw [if_neg (by simp [e]), ih, q0s, if_neg (by rw [e]; exact fun e => h e.symm)]
  ·rw [if_pos (by simp [e]), q0s, q0s, ih]
theorem q5k {K : KsS} {k : KeyS} : q03 (K.filter fun x => decide (x.1 ≠ k)) k = [] := q2G fun x hx => by simpa using (List.mem_filter.1 hx).2
theorem q2M {K : KsS} (h : q0F K) (p : KeyS × List Ver → Bool) : q0F (K.filter p) := List.Pairwise.filter _ h
theorem q6G {m : KeyS → List Ver → Nat} (h0 : ∀ k, m k [] = 0) : ∀ {K K' : KsS}, q0F K → q0F K' → (∀ k, m k (q03 K k) ≤ m k (q03 K' k)) → sumS m K ≤ sumS m K'
 | [], _, _, _, _ => Nat.zero_le _
 | x :: K, K', h, h', hle => by
  rw [q2N, q83 h0 h' x.1]
  have h1 := hle x.1
  rw [q0s, if_pos rfl] at h1
  have h2 := q6G h0 h.tail (q2M h' fun y => decide (y.1 ≠ x.1)) fun k => by
   by_cases e : k = x.1
   ·subst e
    rw [q2G fun y hy => fun e => q1j (h.head y hy) e.symm, h0]
    exact Nat.zero_le _
   ·rw [q2H e]
    have := hle k
    rw [q0s, if_neg (fun e2 => e e2.symm)] at this
    exact this
  omega
theorem qav {m : KeyS → List Ver → Nat} (h0 : ∀ k, m k [] = 0) {K : KsS} (h : q0F K) (hf : q2i K) (k : KeyS) (c : List Ver) : sumS m (putS K k c) + m k (q03 K k) = sumS m K + m k c := by
 have h1 := q83 h0 (q3Z h k c) k
 have h2 := q83 h0 h k
 rw [q3w h hf, if_pos rfl] at h1
 have e : sumS m ((putS K k c).filter fun x => decide (x.1 ≠ k)) = sumS m (K.filter fun x => decide (x.1 ≠ k)) := by
  apply Nat.le_antisymm
  ·refine q6G h0 (q2M (q3Z h k c) _) (q2M h _) fun k' => ?_
   by_cases e : k' = k
   ·subst e
    rw [q5k, h0]
    exact Nat.zero_le _
   ·rw [q2H e, q2H e, q3w h hf, if_neg e]
    exact Nat.le_refl _
  ·refine q6G h0 (q2M h _) (q2M (q3Z h k c) _) fun k' => ?_
   by_cases e : k' = k
   ·subst e
    rw [q5k, h0]
    exact Nat.zero_le _
   ·rw [q2H e, q2H e, q3w h hf, if_neg e]
    exact Nat.le_refl _
 omega
end Go.Proofs.YtdpbllacfljmoaaGreat
