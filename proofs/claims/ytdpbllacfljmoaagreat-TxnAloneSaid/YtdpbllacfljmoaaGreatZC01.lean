import Derived.WalkKit
import Derived.Test.YtdpbllacfljmoaaGreatZC00
set_option maxRecDepth 100000
set_option maxHeartbeats 16000000
set_option linter.unusedVariables false
namespace Go.Proofs.YtdpbllacfljmoaaGreat
structure Ver where
 tm : Nat
 gone : Bool
 dat : List UInt8
def q4v (v : Ver) : Bool := !(v.gone && decide (0 < v.dat.length))
def q8J : Nat → List Ver → Bool
 | _, [] => true
 | t, v :: l => decide (t < v.tm) && q4v v && q8J v.tm l
def q1u (l : List Ver) : Bool := q8J 0 l
def q0W (l : List Ver) (t : Nat) : Option Ver := (l.filter fun v => decide (v.tm ≤ t)).getLast?
def qfz : Option Ver → Option (List UInt8)
 | some v => if v.gone = true then none else some v.dat
 | none => none
def getH (l : List Ver) (t : Nat) : Option (List UInt8) := qfz (q0W l t)
def q2v (l : List Ver) : Nat := match l.getLast? with | some v => v.tm | none => 0
def q46 : Option Ver → List Ver
 | some v => if v.gone = true then [] else [v]
 | none => []
theorem q2E {v : Ver} (h : v.gone = true) : q46 (some v) = [] := if_pos h
theorem q3e {v : Ver} (h : v.gone = false) : q46 (some v) = [v] := if_neg (by simp [h])
theorem qdn {v : Ver} (h : v.gone = true) : qfz (some v) = none := if_pos h
def q0p (l : List Ver) (low : Nat) : List Ver := q46 (q0W l low) ++ l.filter fun v => decide (low < v.tm)
def q0z (l : List Ver) : Nat := (l.map fun v => v.dat.length).sum
theorem q10 : ∀ (l : List Ver) (t : Nat), q8J t l = true ↔ (∀ v ∈ l, t < v.tm ∧ q4v v = true) ∧ l.Pairwise (fun a b => a.tm < b.tm)
 | [], t => by simp [q8J]
 | v :: l, t => by
  rw [q8J, Bool.and_eq_true, Bool.and_eq_true, decide_eq_true_iff, q10 l v.tm, List.pairwise_cons]
  constructor
  ·rintro ⟨⟨h1, h2⟩, h3, h4⟩
   refine ⟨fun x hx => ?_, fun x hx => (h3 x hx).1, h4⟩
   rcases List.mem_cons.1 hx with rfl | hx
   ·exact ⟨h1, h2⟩
   ·exact ⟨Nat.lt_trans h1 (h3 x hx).1, (h3 x hx).2⟩
  ·rintro ⟨h1, h2, h3⟩
   exact ⟨h1 v (List.mem_cons_self ..), fun x hx => ⟨h2 x hx, (h1 x (List.mem_cons_of_mem _ hx)).2⟩, h3⟩
theorem q8e {l : List Ver} (h : l.Pairwise (fun a b => a.tm < b.tm)) {a b : Nat} (hab : a ≤ b) :
  (l.filter fun v => decide (v.tm ≤ b)) = (l.filter fun v => decide (v.tm ≤ a)) ++ (l.filter fun v => decide (a < v.tm) && decide (v.tm ≤ b)) := by
 induction l with
 | nil => rfl
 | cons v l ih =>
  have h' := List.pairwise_cons.1 h
  have ih := ih h'.2
  by_cases h1 : v.tm ≤ a
  ·have h2 : v.tm ≤ b := by omega
   have h3 : ¬ a < v.tm := by omega
   simp only [List.filter_cons, h1, h2, h3, decide_true, decide_false, Bool.false_and, if_true, if_false, List.cons_append, Bool.false_eq_true]
   rw [ih]
  ·have h3 : a < v.tm := by omega
   have hn : (l.filter fun v => decide (v.tm ≤ a)) = [] := by
    rw [List.filter_eq_nil_iff]
    intro x hx
    have := h'.1 x hx
    simp; omega
   rw [hn, List.nil_append] at ih
   by_cases h2 : v.tm ≤ b
   ·simp only [List.filter_cons, h1, h2, h3, decide_true, decide_false, Bool.true_and, if_true, if_false, Bool.false_eq_true]
    rw [hn, ih]
    rfl
   ·simp only [List.filter_cons, h1, h2, h3, decide_true, decide_false, Bool.and_false, if_false, Bool.false_eq_true]
    rw [hn, ih]
    rfl
theorem q7u {l : List Ver} {t : Nat} : ∀ v ∈ q46 (q0W l t), v.tm ≤ t ∧ v.gone = false ∧ v ∈ l := by
 intro v hv
 cases hf : q0W l t with
 | none => rw [hf] at hv; cases hv
 | some x =>
  rw [hf] at hv
  cases hg : x.gone
  ·rw [q3e hg, List.mem_singleton] at hv
   subst hv
   have hm := List.mem_of_getLast? hf
   rw [List.mem_filter, decide_eq_true_iff] at hm
   exact ⟨hm.2, hg, hm.1⟩
  ·rw [q2E hg] at hv
   cases hv
theorem qau (o : Option Ver) : (q46 o).length ≤ 1 := by
 cases o with
 | none => exact Nat.zero_le _
 | some v =>
  cases hg : v.gone
  ·rw [q3e hg]
   exact Nat.le_refl _
  ·rw [q2E hg]
   exact Nat.zero_le _
theorem q8f {l : List Ver} (h : l.Pairwise (fun a b => a.tm < b.tm)) {low t : Nat} (ht : low ≤ t) :
  q0W (q0p l low) t = q0W l t ∨ (q0W (q0p l low) t = none ∧ ∃ v, q0W l t = some v ∧ v.gone = true) := by
 have e : ((q0p l low).filter fun v => decide (v.tm ≤ t)) = q46 (q0W l low) ++ (l.filter fun v => decide (low < v.tm) && decide (v.tm ≤ t)) := by
  unfold q0p
  rw [List.filter_append, List.filter_filter]
  congr 1
  ·rw [List.filter_eq_self]
   intro v hv
   have := (q7u v hv).1
   rw [decide_eq_true_iff]
   omega
  ·congr 1
   funext v
   exact Bool.and_comm _ _
 unfold q0W
 rw [e, q8e h ht]
 cases hs : (l.filter fun v => decide (low < v.tm) && decide (v.tm ≤ t)) with
 | cons x r =>
  left
  rw [List.getLast?_append, List.getLast?_append]
  have : ∃ y, (x :: r).getLast? = some y := ⟨_, List.getLast?_eq_some_getLast (by simp)⟩
  obtain ⟨y, hy⟩ := this
  rw [hy]
  rfl
 | nil =>
  rw [List.append_nil, List.append_nil]
  show (q46 (q0W l low)).getLast? = q0W l low ∨ _ = _ ∧ ∃ v, q0W l low = some v ∧ _
  cases hf : q0W l low with
  | none => exact .inl rfl
  | some v =>
   cases hg : v.gone
   ·left
    rw [q3e hg]
    rfl
   ·right
    refine ⟨?_, v, rfl, hg⟩
    rw [q2E hg]
    rfl
theorem qap {l : List Ver} (h : l.Pairwise (fun a b => a.tm < b.tm)) {low t : Nat} (ht : low ≤ t) : getH (q0p l low) t = getH l t := by
 unfold getH
 rcases q8f h ht with e | ⟨e, v, e2, hg⟩
 ·rw [e]
 ·rw [e, e2, qdn hg]
  rfl
theorem qdT {l : List Ver} (h : l.Pairwise (fun a b => a.tm < b.tm)) (low : Nat) : (q0p l low).Pairwise (fun a b => a.tm < b.tm) := by
 unfold q0p
 rw [List.pairwise_append]
 refine ⟨?_, h.filter _, ?_⟩
 ·cases hk : q46 (q0W l low) with
  | nil => exact List.Pairwise.nil
  | cons x r =>
   have := qau (q0W l low)
   rw [hk, List.length_cons] at this
   have : r = [] := List.eq_nil_of_length_eq_zero (by omega)
   rw [this]
   exact List.pairwise_singleton ..
 ·intro a ha b hb
  have h1 := (q7u a ha).1
  have h2 := (List.mem_filter.1 hb).2
  rw [decide_eq_true_iff] at h2
  omega
theorem qaL {l : List Ver} {low : Nat} {v : Ver} (h : v ∈ q0p l low) : v ∈ l := by
 unfold q0p at h
 rcases List.mem_append.1 h with h | h
 ·exact (q7u v h).2.2
 ·exact (List.mem_filter.1 h).1
theorem qbI {l : List Ver} (h : q1u l = true) (low : Nat) : q1u (q0p l low) = true := by
 obtain ⟨h1, h2⟩ := (q10 l 0).1 h
 exact (q10 _ 0).2 ⟨fun v hv => h1 v (qaL hv), qdT h2 low⟩
theorem qdS {l : List Ver} {low less : Nat} (h : less ≤ low) : ((q0p l less).filter fun v => decide (low < v.tm)) = l.filter fun v => decide (low < v.tm) := by
 unfold q0p
 rw [List.filter_append, List.filter_filter]
 have h1 : ((q46 (q0W l less)).filter fun v => decide (low < v.tm)) = [] := by
  rw [List.filter_eq_nil_iff]
  intro v hv
  have := (q7u v hv).1
  simp; omega
 rw [h1, List.nil_append]
 congr 1
 funext v
 by_cases h2 : low < v.tm
 ·simp [h2, show less < v.tm by omega]
 ·simp [h2]
theorem qdU {l : List Ver} (h : l.Pairwise (fun a b => a.tm < b.tm)) {low less : Nat} (hl : less ≤ low) : q0p (q0p l less) low = q0p l low := by
 show q46 (q0W (q0p l less) low) ++ _ = q46 (q0W l low) ++ _
 rw [qdS hl]
 rcases q8f h hl with e | ⟨e, v, e2, hg⟩
 ·rw [e]
 ·rw [e, e2, q2E hg]
  rfl
theorem q9U (p : Ver → Bool) : ∀ l : List Ver, q0z (l.filter p) ≤ q0z l
 | [] => Nat.le_refl _
 | v :: l => by
  have ih := q9U p l
  unfold q0z at *
  rw [List.filter_cons]
  split
  ·simp only [List.map_cons, List.sum_cons]; omega
  ·simp only [List.map_cons, List.sum_cons]; omega
theorem q6q (a b : List Ver) : q0z (a ++ b) = q0z a + q0z b := by simp [q0z]
theorem q7H {l : List Ver} {v : Ver} (h : v ∈ l) : v.dat.length ≤ q0z l := by
 induction l with
 | nil => cases h
 | cons x l ih =>
  unfold q0z at *
  simp only [List.map_cons, List.sum_cons]
  rcases List.mem_cons.1 h with rfl | h
  ·omega
  ·have := ih h
   omega
theorem q76 (low : Nat) : ∀ l : List Ver, q0z (l.filter fun v => decide (v.tm ≤ low)) + q0z (l.filter fun v => decide (low < v.tm)) = q0z l
 | [] => rfl
 | v :: l => by
  have ih := q76 low l
  unfold q0z at *
  by_cases h : v.tm ≤ low
  ·have h2 : ¬ low < v.tm := by omega
   simp only [List.filter_cons, h, h2, decide_true, decide_false, if_true, if_false, Bool.false_eq_true, List.map_cons, List.sum_cons]
   omega
  ·have h2 : low < v.tm := by omega
   simp only [List.filter_cons, h, h2, decide_true, decide_false, if_true, if_false, Bool.false_eq_true, List.map_cons, List.sum_cons]
   omega
theorem q8R (l : List Ver) (low : Nat) : q0z (q0p l low) ≤ q0z l := by
 have h := q76 low l
 have hk : q0z (q46 (q0W l low)) ≤ q0z (l.filter fun v => decide (v.tm ≤ low)) := by
  cases hf : q0W l low with
  | none => exact Nat.zero_le _
  | some v =>
   cases hg : v.gone
   ·rw [q3e hg]
    have := q7H (List.mem_of_getLast? hf)
    simpa [q0z] using this
   ·rw [q2E hg]
    exact Nat.zero_le _
 unfold q0p
 rw [q6q]
 omega
theorem qfG {l : List Ver} (h : l.Pairwise (fun a b => a.tm < b.tm)) {t : Nat} (ht : q2v l < t) : ∀ x ∈ l, x.tm < t := by
 intro x hx
 unfold q2v at ht
 cases hl : l.getLast? with
 | none => rw [List.getLast?_eq_none_iff] at hl; rw [hl] at hx; cases hx
 | some v =>
  rw [hl] at ht
  have ht : v.tm < t := ht
  obtain ⟨ys, hy⟩ := List.getLast?_eq_some_iff.1 hl
  subst hy
  rw [List.pairwise_append] at h
  rcases List.mem_append.1 hx with hx | hx
  ·have := h.2.2 x hx v (List.mem_singleton.2 rfl)
   omega
  ·rw [List.mem_singleton] at hx
   subst hx
   exact ht
theorem qdC {l : List Ver} {v : Ver} (h : q1u l = true) (hv : q4v v = true) (ht : q2v l < v.tm) : q1u (l ++ [v]) = true := by
 obtain ⟨h1, h2⟩ := (q10 l 0).1 h
 refine (q10 _ 0).2 ⟨fun x hx => ?_, ?_⟩
 ·rcases List.mem_append.1 hx with hx | hx
  ·exact h1 x hx
  ·rw [List.mem_singleton] at hx
   subst hx
   exact ⟨by omega, hv⟩
 ·rw [List.pairwise_append]
  refine ⟨h2, List.pairwise_singleton .., fun a ha b hb => ?_⟩
  rw [List.mem_singleton] at hb
  subst hb
  exact qfG h2 ht a ha
open Go.RowKit
structure MV where
 v : Ver
 A : Option Addr
 c : Nat
def q1w (x : MV) : List Value := [.int .u64 x.v.tm, .bool x.v.gone, .slice x.A x.v.dat.length x.c]
theorem mvF : q12 3 q1w := ⟨by decide, fun _ => rfl, fun x v hv => by
 simp only [q1w, List.mem_cons, List.not_mem_nil, or_false] at hv
 rcases hv with rfl | rfl | rfl <;> rfl⟩
def Sl (w : World) (hi : Nat) (A : Option Addr) (c : Nat) (l : List UInt8) : Prop := l.length ≤ c ∧ c ≤ maxLen ∧ (A = none → c = 0) ∧ Rd w 0 hi A l
def OkMV (w : World) (hi : Nat) (x : MV) : Prop := x.v.tm < 18446744073709551616 ∧ Sl w hi x.A x.c x.v.dat
def RowH (w : World) (hi : Nat) (A : Option Addr) (l : List Ver) : Prop := ∃ ms : List MV, ms.map MV.v = l ∧ RowG q1w w 0 hi A ms ∧ ∀ x ∈ ms, OkMV w hi x
section
variable {w w' : World} {hi hi' B : Nat} {A : Option Addr} {l : List Ver}
theorem Sl.below {c : Nat} {d : List UInt8} (h : Sl w hi A c d) (hb : Below B w w') (hB : hi ≤ B) (hh : hi ≤ hi') : Sl w' hi' A c d := ⟨h.1, h.2.1, h.2.2.1, (h.2.2.2.below hb hB).wide (Nat.le_refl _) hh⟩
theorem OkMV.below {x : MV} (h : OkMV w hi x) (hb : Below B w w') (hB : hi ≤ B) (hh : hi ≤ hi') : OkMV w' hi' x := ⟨h.1, h.2.below hb hB hh⟩
theorem RowH.below (h : RowH w hi A l) (hb : Below B w w') (hB : hi ≤ B) (hh : hi ≤ hi') : RowH w' hi' A l := by
 obtain ⟨ms, e, h1, h2⟩ := h
 exact ⟨ms, e, (h1.below hb hB).wide (Nat.le_refl _) hh, fun x hx => (h2 x hx).below hb hB hh⟩
theorem RowH.nil_ (w : World) (hi : Nat) (A : Option Addr) : RowH w hi A [] := ⟨[], rfl, RowG.nil_, by simp⟩
theorem RowH.at_ (h : RowH w hi A l) {j : Nat} (hj : j < l.length) :
  ∃ b o A' c', A = some ⟨b, o, none⟩ ∧ b < hi ∧ w.cell? ⟨b, o + j * 3, none⟩ = some (.int .u64 (l[j]'hj).tm) ∧ w.cell? ⟨b, o + j * 3 + 1, none⟩ = some (.bool (l[j]'hj).gone) ∧ w.cell? ⟨b, o + j * 3 + 2, none⟩ = some (.slice A' (l[j]'hj).dat.length c') ∧
   Sl w hi A' c' (l[j]'hj).dat ∧ (l[j]'hj).tm < 18446744073709551616 := by
 obtain ⟨ms, rfl, h1, h2⟩ := h
 have hj' : j < ms.length := by simpa using hj
 obtain ⟨b, o, e, _, hb, hc⟩ := h1.at_ mvF hj'
 obtain ⟨k1, k2⟩ := h2 _ (List.getElem_mem hj')
 refine ⟨b, o, ms[j].A, ms[j].c, e, hb, ?_, ?_, ?_, by simpa using k2, by simpa using k1⟩
 ·have := hc 0 _ rfl
  simpa using this
 ·have := hc 1 _ rfl
  simpa using this
 ·have := hc 2 _ rfl
  simpa using this
end
theorem q8C : q1R Tryz.prog 182 3 40 := q1R.of (by kernel_rfl)
instance : DecidableEq Ver := fun a b => decidable_of_iff (a.tm = b.tm ∧ a.gone = b.gone ∧ a.dat = b.dat) (by cases a; cases b; simp)
def q2S (v : Ver) (A : Option Addr) (c : Nat) : Value := .agg #[.int .u64 v.tm, .bool v.gone, .slice A v.dat.length c]
def Ver0 : Ver := ⟨0, false, []⟩
abbrev blt (a b : List UInt8) : Bool := Op.bytesLess a b
theorem q5C (a : List UInt8) : blt a [] = false := by cases a <;> rfl
theorem q4j (a b : UInt8) (x y : List UInt8) : blt (a :: x) (b :: y) = (decide (a < b) || (a == b && blt x y)) := rfl
theorem q0X (a : List UInt8) : blt a a = false := by
 induction a with
 | nil => rfl
 | cons c a ih => simp [q4j, ih]
theorem q6G {a b : UInt8} {x y : List UInt8} (h : a < b) : blt (a :: x) (b :: y) = true := by simp [q4j, h]
theorem q6F {a b : UInt8} {x y : List UInt8} (h : b < a) : blt (a :: x) (b :: y) = false := by
 have h1 : ¬ a < b := UInt8.lt_asymm h
 have h2 : (a == b) = false := by
  rw [beq_eq_false_iff_ne]
  intro e
  subst e
  exact UInt8.lt_irrefl _ h
 simp [q4j, h1, h2]
theorem q7V (a : UInt8) (x y : List UInt8) : blt (a :: x) (a :: y) = blt x y := by simp [q4j]
theorem q8V (a b : UInt8) : a < b ∨ a = b ∨ b < a := by
 rcases Nat.lt_trichotomy a.toNat b.toNat with h | h | h
 ·exact .inl (UInt8.lt_iff_toNat_lt.2 h)
 ·exact .inr (.inl (UInt8.toNat_inj.1 h))
 ·exact .inr (.inr (UInt8.lt_iff_toNat_lt.2 h))
theorem q21 : ∀ a b : List UInt8, blt a b = true ∨ a = b ∨ blt b a = true
 | [], [] => .inr (.inl rfl)
 | [], _ :: _ => .inl rfl
 | _ :: _, [] => .inr (.inr rfl)
 | a :: x, b :: y => by
  rcases q8V a b with h | rfl | h
  ·exact .inl (q6G h)
  ·rw [q7V, q7V]
   rcases q21 x y with h | rfl | h
   ·exact .inl h
   ·exact .inr (.inl rfl)
   ·exact .inr (.inr h)
  ·exact .inr (.inr (q6G h))
theorem q1S : ∀ {a b : List UInt8}, blt a b = true → blt b a = false
 | _, [], h => by rw [q5C] at h; cases h
 | [], _ :: _, _ => rfl
 | a :: x, b :: y, h => by
  rcases q8V a b with g | rfl | g
  ·exact q6F g
  ·rw [q7V] at h ⊢
   exact q1S h
  ·rw [q6F g] at h
   cases h
def bs (k : List UInt8) : ByteArray := ⟨k.toArray⟩
theorem q2l (k : List UInt8) : (bs k).toList = k := by rw [ByteArray.toList_eq]; rfl
theorem q1T (k : List UInt8) : (bs k).size = k.length := by simp [bs, ByteArray.size]
theorem qg5 (s : ByteArray) : s = bs s.data.toList := by cases s; simp [bs]
theorem q4I (a b : List UInt8) : Op.bytesLess (bs a).toList (bs b).toList = blt a b := by rw [q2l, q2l]
theorem q5D (a b : List UInt8) : ((bs a).toList == (bs b).toList) = (a == b) := by rw [q2l, q2l]
theorem qfU (a b : List UInt8) (t : TypeId) : binOp .lss t (.string (bs a)) (.string (bs b)) = pure (.bool (blt a b)) := by
 have h : binOp .lss t (.string (bs a)) (.string (bs b)) = pure (.bool (Op.bytesLess (bs a).toList (bs b).toList)) := by simp [binOp, Op.stringOp]
 rw [h, q4I]
theorem qgl (a b : List UInt8) (t : TypeId) : binOp .geq t (.string (bs a)) (.string (bs b)) = pure (.bool !(blt a b)) := by
 have h : binOp .geq t (.string (bs a)) (.string (bs b)) = pure (.bool !(Op.bytesLess (bs a).toList (bs b).toList)) := by simp [binOp, Op.stringOp]
 rw [h, q4I]
theorem qgm (a b : List UInt8) (t : TypeId) : binOp .gtr t (.string (bs a)) (.string (bs b)) = pure (.bool (blt b a)) := by
 have h : binOp .gtr t (.string (bs a)) (.string (bs b)) = pure (.bool !(Op.bytesLess (bs a).toList (bs b).toList || (bs a).toList == (bs b).toList)) := by simp [binOp, Op.stringOp]
 rw [h, q4I, q5D]
 rcases q21 a b with g | g | g
 ·have g2 := q1S g
  rw [g2, show blt a b = true from g]
  rfl
 ·subst g
  rw [q0X]
  simp
 ·have g2 := q1S g
  have g3 : (a == b) = false := by
   rw [beq_eq_false_iff_ne]
   rintro rfl
   rw [q0X] at g
   cases g
  rw [g, g2, g3]
  rfl
theorem q0o : ∀ {a b c : List UInt8}, blt a b = true → blt b c = true → blt a c = true
 | _, [], _, h, _ => by rw [q5C] at h; cases h
 | _, _ :: _, [], _, h => by rw [q5C] at h; cases h
 | [], _ :: _, _ :: _, _, _ => rfl
 | a :: x, b :: y, c :: z, h, g => by
  rcases q8V a b with e | rfl | e
  ·rcases q8V b c with f | rfl | f
   ·exact q6G (UInt8.lt_trans e f)
   ·exact q6G e
   ·rw [q6F f] at g; cases g
  ·rcases q8V a c with f | rfl | f
   ·exact q6G f
   ·rw [q7V] at h g ⊢
    exact q0o h g
   ·rw [q6F f] at g; cases g
  ·rw [q6F e] at h; cases h
structure V where
 k : Int
 n : Int
 s : ByteArray
section
variable {k k' n n' : Int} {s s' : ByteArray}
end
end Go.Proofs.YtdpbllacfljmoaaGreat
