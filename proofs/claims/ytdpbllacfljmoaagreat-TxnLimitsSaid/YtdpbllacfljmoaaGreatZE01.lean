import Derived.WalkKit
import Derived.Test.YtdpbllacfljmoaaGreatZE00
set_option maxRecDepth 100000
set_option maxHeartbeats 16000000
set_option linter.unusedVariables false
namespace Go.Proofs.YtdpbllacfljmoaaGreat
structure Ver where
 tm : Nat
 gone : Bool
 dat : List UInt8
def q4z (v : Ver) : Bool := !(v.gone && decide (0 < v.dat.length))
def q8O : Nat → List Ver → Bool
 | _, [] => true
 | t, v :: l => decide (t < v.tm) && q4z v && q8O v.tm l
def q1q (l : List Ver) : Bool := q8O 0 l
def q19 (l : List Ver) (t : Nat) : Option Ver := (l.filter fun v => decide (v.tm ≤ t)).getLast?
def qfp : Option Ver → Option (List UInt8)
 | some v => if v.gone = true then none else some v.dat
 | none => none
def getH (l : List Ver) (t : Nat) : Option (List UInt8) := qfp (q19 l t)
def q2N (l : List Ver) : Nat := match l.getLast? with | some v => v.tm | none => 0
def q49 : Option Ver → List Ver
 | some v => if v.gone = true then [] else [v]
 | none => []
theorem q30 {v : Ver} (h : v.gone = true) : q49 (some v) = [] := if_pos h
theorem q3P {v : Ver} (h : v.gone = false) : q49 (some v) = [v] := if_neg (by simp [h])
theorem qfD {v : Ver} (h : v.gone = true) : qfp (some v) = none := if_pos h
def q0o (l : List Ver) (low : Nat) : List Ver := q49 (q19 l low) ++ l.filter fun v => decide (low < v.tm)
def q0x (l : List Ver) : Nat := (l.map fun v => v.dat.length).sum
theorem q13 : ∀ (l : List Ver) (t : Nat), q8O t l = true ↔ (∀ v ∈ l, t < v.tm ∧ q4z v = true) ∧ l.Pairwise (fun a b => a.tm < b.tm)
 | [], t => by simp [q8O]
 | v :: l, t => by
  rw [q8O, Bool.and_eq_true, Bool.and_eq_true, decide_eq_true_iff, q13 l v.tm, List.pairwise_cons]
  constructor
  ·rintro ⟨⟨h1, h2⟩, h3, h4⟩
   refine ⟨fun x hx => ?_, fun x hx => (h3 x hx).1, h4⟩
   rcases List.mem_cons.1 hx with rfl | hx
   ·exact ⟨h1, h2⟩
   ·exact ⟨Nat.lt_trans h1 (h3 x hx).1, (h3 x hx).2⟩
  ·rintro ⟨h1, h2, h3⟩
   exact ⟨h1 v (List.mem_cons_self ..), fun x hx => ⟨h2 x hx, (h1 x (List.mem_cons_of_mem _ hx)).2⟩, h3⟩
theorem q8k {l : List Ver} (h : l.Pairwise (fun a b => a.tm < b.tm)) {a b : Nat} (hab : a ≤ b) :
  (l.filter fun v => decide (v.tm ≤ b)) = (l.filter fun v => decide (v.tm ≤ a)) ++ (l.filter fun v => decide (a < v.tm) && decide (v.tm ≤ b)) := by
 induction l with
 | nil => rfl
 | cons v l ih =>
  have h' := List.pairwise_cons.1 h
  have ih := ih h'.2
  by_cases h1 : v.tm ≤ a
  ·have h2 : v.tm ≤ b := by omega
   have h3 : ¬ a < v.tm := by omega
   simp only [List.filter_cons, h1, h2, h3, decide_true, decide_false, Bool.false_and, if_true, if_false, List.cons_append, Bool.false_eq_true]
   rw [ih]
  ·have h3 : a < v.tm := by omega
   have hn : (l.filter fun v => decide (v.tm ≤ a)) = [] := by
    rw [List.filter_eq_nil_iff]
    intro x hx
    have := h'.1 x hx
    simp; omega
   rw [hn, List.nil_append] at ih
   by_cases h2 : v.tm ≤ b
   ·simp only [List.filter_cons, h1, h2, h3, decide_true, decide_false, Bool.true_and, if_true, if_false, Bool.false_eq_true]
    rw [hn, ih]
    rfl
   ·simp only [List.filter_cons, h1, h2, h3, decide_true, decide_false, Bool.and_false, if_false, Bool.false_eq_true]
    rw [hn, ih]
    rfl
theorem q7v {l : List Ver} {t : Nat} : ∀ v ∈ q49 (q19 l t), v.tm ≤ t ∧ v.gone = false ∧ v ∈ l := by
 intro v hv
 cases hf : q19 l t with
 | none => rw [hf] at hv; cases hv
 | some x =>
  rw [hf] at hv
  cases hg : x.gone
  ·rw [q3P hg, List.mem_singleton] at hv
   subst hv
   have hm := List.mem_of_getLast? hf
   rw [List.mem_filter, decide_eq_true_iff] at hm
   exact ⟨hm.2, hg, hm.1⟩
  ·rw [q30 hg] at hv
   cases hv
theorem qaA (o : Option Ver) : (q49 o).length ≤ 1 := by
 cases o with
 | none => exact Nat.zero_le _
 | some v =>
  cases hg : v.gone
  ·rw [q3P hg]
   exact Nat.le_refl _
  ·rw [q30 hg]
   exact Nat.zero_le _
theorem q8l {l : List Ver} (h : l.Pairwise (fun a b => a.tm < b.tm)) {low t : Nat} (ht : low ≤ t) :
  q19 (q0o l low) t = q19 l t ∨ (q19 (q0o l low) t = none ∧ ∃ v, q19 l t = some v ∧ v.gone = true) := by
 have e : ((q0o l low).filter fun v => decide (v.tm ≤ t)) = q49 (q19 l low) ++ (l.filter fun v => decide (low < v.tm) && decide (v.tm ≤ t)) := by
  unfold q0o
  rw [List.filter_append, List.filter_filter]
  congr 1
  ·rw [List.filter_eq_self]
   intro v hv
   have := (q7v v hv).1
   rw [decide_eq_true_iff]
   omega
  ·congr 1
   funext v
   exact Bool.and_comm _ _
 unfold q19
 rw [e, q8k h ht]
 cases hs : (l.filter fun v => decide (low < v.tm) && decide (v.tm ≤ t)) with
 | cons x r =>
  left
  rw [List.getLast?_append, List.getLast?_append]
  have : ∃ y, (x :: r).getLast? = some y := ⟨_, List.getLast?_eq_some_getLast (by simp)⟩
  obtain ⟨y, hy⟩ := this
  rw [hy]
  rfl
 | nil =>
  rw [List.append_nil, List.append_nil]
  show (q49 (q19 l low)).getLast? = q19 l low ∨ _ = _ ∧ ∃ v, q19 l low = some v ∧ _
  cases hf : q19 l low with
  | none => exact .inl rfl
  | some v =>
   cases hg : v.gone
   ·left
    rw [q3P hg]
    rfl
   ·right
    refine ⟨?_, v, rfl, hg⟩
    rw [q30 hg]
    rfl
theorem qes {l : List Ver} (h : l.Pairwise (fun a b => a.tm < b.tm)) {low t : Nat} (ht : low ≤ t) : getH (q0o l low) t = getH l t := by
 unfold getH
 rcases q8l h ht with e | ⟨e, v, e2, hg⟩
 ·rw [e]
 ·rw [e, e2, qfD hg]
  rfl
theorem qdO {l : List Ver} (h : l.Pairwise (fun a b => a.tm < b.tm)) (low : Nat) : (q0o l low).Pairwise (fun a b => a.tm < b.tm) := by
 unfold q0o
 rw [List.pairwise_append]
 refine ⟨?_, h.filter _, ?_⟩
 ·cases hk : q49 (q19 l low) with
  | nil => exact List.Pairwise.nil
  | cons x r =>
   have := qaA (q19 l low)
   rw [hk, List.length_cons] at this
   have : r = [] := List.eq_nil_of_length_eq_zero (by omega)
   rw [this]
   exact List.pairwise_singleton ..
 ·intro a ha b hb
  have h1 := (q7v a ha).1
  have h2 := (List.mem_filter.1 hb).2
  rw [decide_eq_true_iff] at h2
  omega
theorem qaS {l : List Ver} {low : Nat} {v : Ver} (h : v ∈ q0o l low) : v ∈ l := by
 unfold q0o at h
 rcases List.mem_append.1 h with h | h
 ·exact (q7v v h).2.2
 ·exact (List.mem_filter.1 h).1
theorem qbM {l : List Ver} (h : q1q l = true) (low : Nat) : q1q (q0o l low) = true := by
 obtain ⟨h1, h2⟩ := (q13 l 0).1 h
 exact (q13 _ 0).2 ⟨fun v hv => h1 v (qaS hv), qdO h2 low⟩
theorem qdN {l : List Ver} {low less : Nat} (h : less ≤ low) : ((q0o l less).filter fun v => decide (low < v.tm)) = l.filter fun v => decide (low < v.tm) := by
 unfold q0o
 rw [List.filter_append, List.filter_filter]
 have h1 : ((q49 (q19 l less)).filter fun v => decide (low < v.tm)) = [] := by
  rw [List.filter_eq_nil_iff]
  intro v hv
  have := (q7v v hv).1
  simp; omega
 rw [h1, List.nil_append]
 congr 1
 funext v
 by_cases h2 : low < v.tm
 ·simp [h2, show less < v.tm by omega]
 ·simp [h2]
theorem qdP {l : List Ver} (h : l.Pairwise (fun a b => a.tm < b.tm)) {low less : Nat} (hl : less ≤ low) : q0o (q0o l less) low = q0o l low := by
 show q49 (q19 (q0o l less) low) ++ _ = q49 (q19 l low) ++ _
 rw [qdN hl]
 rcases q8l h hl with e | ⟨e, v, e2, hg⟩
 ·rw [e]
 ·rw [e, e2, q30 hg]
  rfl
theorem q9Z (p : Ver → Bool) : ∀ l : List Ver, q0x (l.filter p) ≤ q0x l
 | [] => Nat.le_refl _
 | v :: l => by
  have ih := q9Z p l
  unfold q0x at *
  rw [List.filter_cons]
  split
  ·simp only [List.map_cons, List.sum_cons]; omega
  ·simp only [List.map_cons, List.sum_cons]; omega
theorem q6o (a b : List Ver) : q0x (a ++ b) = q0x a + q0x b := by simp [q0x]
theorem q7K {l : List Ver} {v : Ver} (h : v ∈ l) : v.dat.length ≤ q0x l := by
 induction l with
 | nil => cases h
 | cons x l ih =>
  unfold q0x at *
  simp only [List.map_cons, List.sum_cons]
  rcases List.mem_cons.1 h with rfl | h
  ·omega
  ·have := ih h
   omega
theorem q78 (low : Nat) : ∀ l : List Ver, q0x (l.filter fun v => decide (v.tm ≤ low)) + q0x (l.filter fun v => decide (low < v.tm)) = q0x l
 | [] => rfl
 | v :: l => by
  have ih := q78 low l
  unfold q0x at *
  by_cases h : v.tm ≤ low
  ·have h2 : ¬ low < v.tm := by omega
   simp only [List.filter_cons, h, h2, decide_true, decide_false, if_true, if_false, Bool.false_eq_true, List.map_cons, List.sum_cons]
   omega
  ·have h2 : low < v.tm := by omega
   simp only [List.filter_cons, h, h2, decide_true, decide_false, if_true, if_false, Bool.false_eq_true, List.map_cons, List.sum_cons]
   omega
theorem q8X (l : List Ver) (low : Nat) : q0x (q0o l low) ≤ q0x l := by
 have h := q78 low l
 have hk : q0x (q49 (q19 l low)) ≤ q0x (l.filter fun v => decide (v.tm ≤ low)) := by
  cases hf : q19 l low with
  | none => exact Nat.zero_le _
  | some v =>
   cases hg : v.gone
   ·rw [q3P hg]
    have := q7K (List.mem_of_getLast? hf)
    simpa [q0x] using this
   ·rw [q30 hg]
    exact Nat.zero_le _
 unfold q0o
 rw [q6o]
 omega
theorem qfw {l : List Ver} (h : l.Pairwise (fun a b => a.tm < b.tm)) {t : Nat} (ht : q2N l < t) : ∀ x ∈ l, x.tm < t := by
 intro x hx
 unfold q2N at ht
 cases hl : l.getLast? with
 | none => rw [List.getLast?_eq_none_iff] at hl; rw [hl] at hx; cases hx
 | some v =>
  rw [hl] at ht
  have ht : v.tm < t := ht
  obtain ⟨ys, hy⟩ := List.getLast?_eq_some_iff.1 hl
  subst hy
  rw [List.pairwise_append] at h
  rcases List.mem_append.1 hx with hx | hx
  ·have := h.2.2 x hx v (List.mem_singleton.2 rfl)
   omega
  ·rw [List.mem_singleton] at hx
   subst hx
   exact ht
theorem qdw {l : List Ver} {v : Ver} (h : q1q l = true) (hv : q4z v = true) (ht : q2N l < v.tm) : q1q (l ++ [v]) = true := by
 obtain ⟨h1, h2⟩ := (q13 l 0).1 h
 refine (q13 _ 0).2 ⟨fun x hx => ?_, ?_⟩
 ·rcases List.mem_append.1 hx with hx | hx
  ·exact h1 x hx
  ·rw [List.mem_singleton] at hx
   subst hx
   exact ⟨by omega, hv⟩
 ·rw [List.pairwise_append]
  refine ⟨h2, List.pairwise_singleton .., fun a ha b hb => ?_⟩
  rw [List.mem_singleton] at hb
  subst hb
  exact qfw h2 ht a ha
open Go.RowKit
structure MV where
 v : Ver
 A : Option Addr
 c : Nat
def q1s (x : MV) : List Value := [.int .u64 x.v.tm, .bool x.v.gone, .slice x.A x.v.dat.length x.c]
theorem mvF : q0X 3 q1s := ⟨by decide, fun _ => rfl, fun x v hv => by
 simp only [q1s, List.mem_cons, List.not_mem_nil, or_false] at hv
 rcases hv with rfl | rfl | rfl <;> rfl⟩
def Sl (w : World) (hi : Nat) (A : Option Addr) (c : Nat) (l : List UInt8) : Prop := l.length ≤ c ∧ c ≤ maxLen ∧ (A = none → c = 0) ∧ Rd w 0 hi A l
def OkMV (w : World) (hi : Nat) (x : MV) : Prop := x.v.tm < 18446744073709551616 ∧ Sl w hi x.A x.c x.v.dat
def RowH (w : World) (hi : Nat) (A : Option Addr) (l : List Ver) : Prop := ∃ ms : List MV, ms.map MV.v = l ∧ RowG q1s w 0 hi A ms ∧ ∀ x ∈ ms, OkMV w hi x
section
variable {w w' : World} {hi hi' B : Nat} {A : Option Addr} {l : List Ver}
theorem Sl.below {c : Nat} {d : List UInt8} (h : Sl w hi A c d) (hb : Below B w w') (hB : hi ≤ B) (hh : hi ≤ hi') : Sl w' hi' A c d := ⟨h.1, h.2.1, h.2.2.1, (h.2.2.2.below hb hB).wide (Nat.le_refl _) hh⟩
theorem OkMV.below {x : MV} (h : OkMV w hi x) (hb : Below B w w') (hB : hi ≤ B) (hh : hi ≤ hi') : OkMV w' hi' x := ⟨h.1, h.2.below hb hB hh⟩
theorem RowH.below (h : RowH w hi A l) (hb : Below B w w') (hB : hi ≤ B) (hh : hi ≤ hi') : RowH w' hi' A l := by
 obtain ⟨ms, e, h1, h2⟩ := h
 exact ⟨ms, e, (h1.below hb hB).wide (Nat.le_refl _) hh, fun x hx => (h2 x hx).below hb hB hh⟩
theorem RowH.nil_ (w : World) (hi : Nat) (A : Option Addr) : RowH w hi A [] := ⟨[], rfl, RowG.nil_, by simp⟩
theorem RowH.at_ (h : RowH w hi A l) {j : Nat} (hj : j < l.length) :
  ∃ b o A' c', A = some ⟨b, o, none⟩ ∧ b < hi ∧ w.cell? ⟨b, o + j * 3, none⟩ = some (.int .u64 (l[j]'hj).tm) ∧ w.cell? ⟨b, o + j * 3 + 1, none⟩ = some (.bool (l[j]'hj).gone) ∧ w.cell? ⟨b, o + j * 3 + 2, none⟩ = some (.slice A' (l[j]'hj).dat.length c') ∧
   Sl w hi A' c' (l[j]'hj).dat ∧ (l[j]'hj).tm < 18446744073709551616 := by
 obtain ⟨ms, rfl, h1, h2⟩ := h
 have hj' : j < ms.length := by simpa using hj
 obtain ⟨b, o, e, _, hb, hc⟩ := h1.at_ mvF hj'
 obtain ⟨k1, k2⟩ := h2 _ (List.getElem_mem hj')
 refine ⟨b, o, ms[j].A, ms[j].c, e, hb, ?_, ?_, ?_, by simpa using k2, by simpa using k1⟩
 ·have := hc 0 _ rfl
  simpa using this
 ·have := hc 1 _ rfl
  simpa using this
 ·have := hc 2 _ rfl
  simpa using this
end
theorem q8I : q23 Tryz.prog 182 3 40 := q23.of (by kernel_rfl)
instance : DecidableEq Ver := fun a b => decidable_of_iff (a.tm = b.tm ∧ a.gone = b.gone ∧ a.dat = b.dat) (by cases a; cases b; simp)
def q2S (v : Ver) (A : Option Addr) (c : Nat) : Value := .agg #[.int .u64 v.tm, .bool v.gone, .slice A v.dat.length c]
def Ver0 : Ver := ⟨0, false, []⟩
abbrev blt (a b : List UInt8) : Bool := Op.bytesLess a b
theorem q5D (a : List UInt8) : blt a [] = false := by cases a <;> rfl
theorem q4m (a b : UInt8) (x y : List UInt8) : blt (a :: x) (b :: y) = (decide (a < b) || (a == b && blt x y)) := rfl
theorem q0I (a : List UInt8) : blt a a = false := by
 induction a with
 | nil => rfl
 | cons c a ih => simp [q4m, ih]
theorem q6F {a b : UInt8} {x y : List UInt8} (h : a < b) : blt (a :: x) (b :: y) = true := by simp [q4m, h]
theorem q6E {a b : UInt8} {x y : List UInt8} (h : b < a) : blt (a :: x) (b :: y) = false := by
 have h1 : ¬ a < b := UInt8.lt_asymm h
 have h2 : (a == b) = false := by
  rw [beq_eq_false_iff_ne]
  intro e
  subst e
  exact UInt8.lt_irrefl _ h
 simp [q4m, h1, h2]
theorem q7Y (a : UInt8) (x y : List UInt8) : blt (a :: x) (a :: y) = blt x y := by simp [q4m]
theorem q91 (a b : UInt8) : a < b ∨ a = b ∨ b < a := by
 rcases Nat.lt_trichotomy a.toNat b.toNat with h | h | h
 ·exact .inl (UInt8.lt_iff_toNat_lt.2 h)
 ·exact .inr (.inl (UInt8.toNat_inj.1 h))
 ·exact .inr (.inr (UInt8.lt_iff_toNat_lt.2 h))
theorem q1Q : ∀ a b : List UInt8, blt a b = true ∨ a = b ∨ blt b a = true
 | [], [] => .inr (.inl rfl)
 | [], _ :: _ => .inl rfl
 | _ :: _, [] => .inr (.inr rfl)
 | a :: x, b :: y => by
  rcases q91 a b with h | rfl | h
  ·exact .inl (q6F h)
  ·rw [q7Y, q7Y]
   rcases q1Q x y with h | rfl | h
   ·exact .inl h
   ·exact .inr (.inl rfl)
   ·exact .inr (.inr h)
  ·exact .inr (.inr (q6F h))
theorem q1e : ∀ {a b : List UInt8}, blt a b = true → blt b a = false
 | _, [], h => by rw [q5D] at h; cases h
 | [], _ :: _, _ => rfl
 | a :: x, b :: y, h => by
  rcases q91 a b with g | rfl | g
  ·exact q6E g
  ·rw [q7Y] at h ⊢
   exact q1e h
  ·rw [q6E g] at h
   cases h
def bs (k : List UInt8) : ByteArray := ⟨k.toArray⟩
theorem q1g (k : List UInt8) : (bs k).toList = k := by rw [ByteArray.toList_eq]; rfl
theorem q1R (k : List UInt8) : (bs k).size = k.length := by simp [bs, ByteArray.size]
theorem qfW (s : ByteArray) : s = bs s.data.toList := by cases s; simp [bs]
theorem q43 (a b : List UInt8) : Op.bytesLess (bs a).toList (bs b).toList = blt a b := by rw [q1g, q1g]
theorem q4M (a b : List UInt8) : ((bs a).toList == (bs b).toList) = (a == b) := by rw [q1g, q1g]
theorem qdC (a b : List UInt8) (t : TypeId) : binOp .lss t (.string (bs a)) (.string (bs b)) = pure (.bool (blt a b)) := by
 have h : binOp .lss t (.string (bs a)) (.string (bs b)) = pure (.bool (Op.bytesLess (bs a).toList (bs b).toList)) := by simp [binOp, Op.stringOp]
 rw [h, q43]
theorem qgc (a b : List UInt8) (t : TypeId) : binOp .geq t (.string (bs a)) (.string (bs b)) = pure (.bool !(blt a b)) := by
 have h : binOp .geq t (.string (bs a)) (.string (bs b)) = pure (.bool !(Op.bytesLess (bs a).toList (bs b).toList)) := by simp [binOp, Op.stringOp]
 rw [h, q43]
theorem qgd (a b : List UInt8) (t : TypeId) : binOp .gtr t (.string (bs a)) (.string (bs b)) = pure (.bool (blt b a)) := by
 have h : binOp .gtr t (.string (bs a)) (.string (bs b)) = pure (.bool !(Op.bytesLess (bs a).toList (bs b).toList || (bs a).toList == (bs b).toList)) := by simp [binOp, Op.stringOp]
 rw [h, q43, q4M]
 rcases q1Q a b with g | g | g
 ·have g2 := q1e g
  rw [g2, show blt a b = true from g]
  rfl
 ·subst g
  rw [q0I]
  simp
 ·have g2 := q1e g
  have g3 : (a == b) = false := by
   rw [beq_eq_false_iff_ne]
   rintro rfl
   rw [q0I] at g
   cases g
  rw [g, g2, g3]
  rfl
theorem qge (a b : List UInt8) (t : TypeId) : binOp .leq t (.string (bs a)) (.string (bs b)) = pure (.bool !(blt b a)) := by
 have h : binOp .leq t (.string (bs a)) (.string (bs b)) = pure (.bool (Op.bytesLess (bs a).toList (bs b).toList || (bs a).toList == (bs b).toList)) := by simp [binOp, Op.stringOp]
 rw [h, q43, q4M]
 rcases q1Q a b with g | g | g
 ·have g2 := q1e g
  rw [g2, show blt a b = true from g]
  rfl
 ·subst g
  rw [q0I]
  simp
 ·have g2 := q1e g
  have g3 : (a == b) = false := by
   rw [beq_eq_false_iff_ne]
   rintro rfl
   rw [q0I] at g
   cases g
  rw [g, g2, g3]
  rfl
theorem q0n : ∀ {a b c : List UInt8}, blt a b = true → blt b c = true → blt a c = true
 | _, [], _, h, _ => by rw [q5D] at h; cases h
 | _, _ :: _, [], _, h => by rw [q5D] at h; cases h
 | [], _ :: _, _ :: _, _, _ => rfl
 | a :: x, b :: y, c :: z, h, g => by
  rcases q91 a b with e | rfl | e
  ·rcases q91 b c with f | rfl | f
   ·exact q6F (UInt8.lt_trans e f)
   ·exact q6F e
   ·rw [q6E f] at g; cases g
  ·rcases q91 a c with f | rfl | f
   ·exact q6F f
   ·rw [q7Y] at h g ⊢
    exact q0n h g
   ·rw [q6E f] at g; cases g
  ·rw [q6E e] at h; cases h
structure V where
 k : Int
 n : Int
 s : ByteArray
section
variable {k k' n n' : Int} {s s' : ByteArray}
end
end Go.Proofs.YtdpbllacfljmoaaGreat
