import Derived.Test.YtdpbllacfljmoaaGreatZE06
import Derived.Test.YtdpbllacfljmoaaGreatZE04
import Derived.Laws.Cover1
import Derived.Deep.DeepCutAuto
import Derived.Deep.RegionHeld3
set_option maxRecDepth 100000
set_option maxHeartbeats 16000000
set_option linter.unusedVariables false
namespace Go.Proofs.YtdpbllacfljmoaaGreat
def wTx (t : TxS) : Nat := 3 * (1 + t.marks.length + t.ws.length)
def q6s (d : q5x) : Nat := 1 + d.reads.length + d.writes.length
def WgtT (b : q07) : Nat := (b.live.map wTx).sum + q0z b.recs + b.recs.length + (b.hist.map q6s).sum + b.event + b.last
def q2j (w : Wr) : Prop := w.key.length ≤ 300 ∧ w.dat.length ≤ 5000
def qah (b : q07) : Prop := ∀ t ∈ b.live, ∀ w ∈ t.ws, q2j w
theorem qdK : ∀ {l : List TxS}, IdsT l → ∀ {u : TxS}, u ∈ l → ∀ (t : TxS), t.id = u.id → ∀ f : TxS → Nat, ((l.map fun x => if x.id = t.id then t else x).map f).sum + f u = (l.map f).sum + f t
 | [], _, _, hu, _, _, _ => by cases hu
 | x :: l, hi, u, hu, t, e, f => by
  obtain ⟨h1, h2⟩ := List.pairwise_cons.1 hi
  rcases List.mem_cons.1 hu with rfl | hu
  ·have hr : (l.map fun x => if x.id = t.id then t else x) = l := by
    conv => rhs; rw [← List.map_id l]
    refine List.map_congr_left fun y hy => ?_
    have := h1 y hy
    rw [if_neg (by omega)]
    rfl
   rw [List.map_cons, hr, if_pos e.symm]
   simp only [List.map_cons, List.sum_cons]
   omega
  ·have := h1 u hu
   have ih := qdK h2 hu t e f
   rw [List.map_cons, if_neg (by omega)]
   simp only [List.map_cons, List.sum_cons]
   omega
theorem qaQ : ∀ {l : List TxS}, IdsT l → ∀ {u : TxS}, u ∈ l → ∀ f : TxS → Nat, ((l.filter fun x => decide (x.id ≠ u.id)).map f).sum + f u = (l.map f).sum
 | [], _, _, hu, _ => by cases hu
 | x :: l, hi, u, hu, f => by
  obtain ⟨h1, h2⟩ := List.pairwise_cons.1 hi
  rcases List.mem_cons.1 hu with rfl | hu
  ·have hr : (l.filter fun x => decide (x.id ≠ u.id)) = l := List.filter_eq_self.2 fun y hy => by
    have := h1 y hy
    rw [decide_eq_true_iff]
    omega
   rw [List.filter_cons_of_neg (by simp), hr]
   simp only [List.map_cons, List.sum_cons]
   omega
  ·have := h1 u hu
   have ih := qaQ h2 hu f
   rw [List.filter_cons_of_pos (by rw [decide_eq_true_iff]; omega)]
   simp only [List.map_cons, List.sum_cons]
   omega
section
variable {F : List Sp → List Sp}
theorem q7f (hF : ∀ l, (F l).length ≤ l.length) (m : List Sp) (s : Sp) : (addF F m s).length ≤ m.length + 1 := by
 have h1 := hF (q09 (m ++ [s]))
 have h2 := q1p (m ++ [s])
 rw [List.length_append] at h2
 unfold addF
 simp only [List.length_cons, List.length_nil] at h2
 omega
theorem q3B (hF : ∀ l, (F l).length ≤ l.length) (st : PS) (t : TxS) : ∀ (l : List Wr) (m : List Sp), (l.foldl (fun m w => if q1O st t w = true then addF F m (q0j w.key) else m) m).length + (l.filter fun w => !q1O st t w).length ≤ m.length + l.length
 | [], m => by simp
 | w :: l, m => by
  rw [List.foldl_cons]
  cases hi : q1O st t w with
  | true =>
   have ih := q3B hF st t l (addF F m (q0j w.key))
   have h1 := q7f hF m (q0j w.key)
   rw [if_pos rfl, List.filter_cons_of_neg (by rw [hi]; simp)]
   simp only [List.length_cons]
   omega
  | false =>
   have ih := q3B hF st t l m
   rw [if_neg Bool.false_ne_true, List.filter_cons_of_pos (by rw [hi]; rfl)]
   simp only [List.length_cons]
   omega
theorem q3J : ∀ (l : List Wr) (m : List Sp), (l.foldl (fun m w => q09 (m ++ [q0j w.key])) m).length ≤ m.length + l.length
 | [], m => by simp
 | w :: l, m => by
  have ih := q3J l (q09 (m ++ [q0j w.key]))
  have h := q1p (m ++ [q0j w.key])
  rw [List.length_append] at h
  rw [List.foldl_cons]
  simp only [List.length_cons, List.length_nil] at h ⊢
  omega
theorem qag (hF : ∀ l, (F l).length ≤ l.length) (l : List Wr) : (q1u F l).length ≤ l.length := by
 have h1 := hF (l.foldl (fun m w => q09 (m ++ [q0j w.key])) [])
 have h2 := q3J l []
 simp only [List.length_nil] at h2
 unfold q1u
 omega
theorem qfe (hF : ∀ l, (F l).length ≤ l.length) (st : PS) (t : TxS) : (q1U F st t).length + (q1u F (q08 st t)).length ≤ t.marks.length + t.ws.length := by
 have h1 := q3B hF st t t.ws t.marks
 have h2 := qag hF (q08 st t)
 unfold q1U q08 at *
 omega
theorem qcS (hF : ∀ l, (F l).length ≤ l.length) (a b : List Sp) : (q8z F a b).length ≤ a.length + b.length := by
 have h1 := hF (q09 (a ++ b))
 have h2 := q1p (a ++ b)
 rw [List.length_append] at h2
 unfold q8z
 omega
theorem fit_many' {J : List Sp → List Sp → List Sp} (hJ : ∀ a b, (J a b).length ≤ a.length + b.length) (n : Nat) : ∀ (m : Nat) (l : List RecS), l.length ≤ m → q0z (fitR J n l) ≤ q0z l ∧ (fitR J n l).length ≤ l.length
 | _, [], _ => by unfold fitR; exact ⟨Nat.le_refl _, Nat.le_refl _⟩
 | _, [x], _ => by unfold fitR; exact ⟨Nat.le_refl _, Nat.le_refl _⟩
 | 0, x :: y :: l, h => by simp at h
 | m + 1, x :: y :: l, h => by
  unfold fitR
  split
  ·obtain ⟨h1, h2⟩ := fit_many' hJ n m (q2w J x y :: l) (by simp at h ⊢; omega)
   have h3 := q8F hJ x y l
   refine ⟨by omega, ?_⟩
   simp only [List.length_cons] at h2 ⊢
   omega
  ·exact ⟨Nat.le_refl _, Nat.le_refl _⟩
theorem q9Q {l : List RecS} (f : RecS → Bool) : q0z (l.filter f) ≤ q0z l := by
 induction l with
 | nil => exact Nat.le_refl _
 | cons x l ih =>
  have e : q0z (x :: l) = (x.reads.length + x.writes.length) + q0z l := by simp [q0z]
  cases hf : f x with
  | true =>
   rw [List.filter_cons_of_pos (by simpa using hf)]
   have e2 : q0z (x :: l.filter f) = (x.reads.length + x.writes.length) + q0z (l.filter f) := by simp [q0z]
   omega
  | false =>
   rw [List.filter_cons_of_neg (by simp [hf])]
   omega
theorem qdv (hF : ∀ l, (F l).length ≤ l.length) (n low : Nat) (l : List RecS) : q0z (fitR (q8z F) n (q0c l low)) ≤ q0z l ∧ (fitR (q8z F) n (q0c l low)).length ≤ l.length := by
 obtain ⟨h1, h2⟩ := fit_many' (qcS hF) n _ (q0c l low) (Nat.le_refl _)
 exact ⟨Nat.le_trans h1 (q9Q _), Nat.le_trans h2 (q4S _ _)⟩
theorem qae {b : q07} (hi : IdsT b.live) {u t : TxS} (hu : u ∈ b.live) (e : t.id = u.id) (hw : wTx t ≤ wTx u + 3) : WgtT (setT b t) ≤ WgtT b + 3 := by
 have h := qdK hi hu t e wTx
 unfold WgtT setT
 simp only
 omega
theorem q4H (hF : ∀ l, (F l).length ≤ l.length) {L : LimT} {b : q07} (hi : IdsT b.live) {t : TxS} (ht : t ∈ b.live) : WgtT (q2L F L b t) + wTx t ≤ WgtT b := by
 have h := qaQ hi ht wTx
 obtain ⟨h1, h2⟩ := qdv hF (q6z L) (lowT ⟨b.st, b.live.filter (fun x => decide (x.id ≠ t.id)), b.recs, b.hist, b.last, b.event⟩) b.recs
 unfold WgtT q2L
 simp only
 omega
theorem qeH (ws : List Wr) (w : Wr) : (putW ws w).length ≤ ws.length + 1 := by
 have key : ∀ l : List Wr, (l.filter fun x => blt x.key w.key).length + (l.filter fun x => blt w.key x.key).length ≤ l.length := by
  intro l
  induction l with
  | nil => simp
  | cons y l ih =>
   cases h1 : blt y.key w.key with
   | true =>
    have h2 : blt w.key y.key = false := by
     cases h : blt w.key y.key
     ·rfl
     ·have := q0n h1 h
      rw [q0I] at this
      cases this
    rw [List.filter_cons_of_pos (by simpa using h1), List.filter_cons_of_neg (by simp [h2])]
    simp only [List.length_cons]
    omega
   | false =>
    rw [List.filter_cons_of_neg (by simp [h1])]
    have : (List.filter (fun x => blt w.key x.key) (y :: l)).length ≤ (l.filter fun x => blt w.key x.key).length + 1 := by
     rw [List.filter_cons]
     split <;> simp
    simp only [List.length_cons]
    omega
 have := key ws
 unfold putW
 simp only [List.length_append, List.length_cons, List.length_nil]
 omega
theorem qeX (hF : ∀ l, (F l).length ≤ l.length) {M : Nat} {L : LimT} {b : q07} (h : OkTx L M b) (o : OpT) : WgtT (q1X F L b o).1 ≤ WgtT b + 5 := by
 have hi := h.ids
 unfold q1X
 split
 ·unfold q0M
  split
  ·exact Nat.le_add_right _ _
  ·simp [WgtT, wTx]
   omega
 split
 ·unfold q12
  cases ho : ofT b o.id with
  | none => exact Nat.le_add_right _ _
  | some t =>
   simp only
   cases hf : t.ws.find? fun w => w.key == o.w.key with
   | some w => exact Nat.le_add_right _ _
   | none =>
    have := q7f hF t.marks (q0j o.w.key)
    exact Nat.le_trans (qae hi (q20 ho).1 (t := q32 F t (q0j o.w.key)) rfl (by unfold wTx q32; simp only; omega)) (by omega)
 split
 ·unfold q1L
  cases ho : ofT b o.id with
  | none => exact Nat.le_add_right _ _
  | some t =>
   simp only
   split
   ·exact Nat.le_add_right _ _
   ·have := q7f hF t.marks ⟨o.w.key, o.hi⟩
    exact Nat.le_trans (qae hi (q20 ho).1 (t := q32 F t ⟨o.w.key, o.hi⟩) rfl (by unfold wTx q32; simp only; omega)) (by omega)
 split
 ·unfold q0H
  cases ho : ofT b o.id with
  | none => exact Nat.le_add_right _ _
  | some t =>
   simp only
   split
   ·exact Nat.le_add_right _ _
   ·have := qeH t.ws o.w
    exact Nat.le_trans (qae hi (q20 ho).1 (t := ⟨t.id, t.began, t.start, t.marks, putW t.ws o.w⟩) rfl (by unfold wTx; simp only; omega)) (by omega)
 split
 ·unfold q0q
  cases ho : ofT b o.id with
  | none => exact Nat.le_add_right _ _
  | some t =>
   have ht := (q20 ho).1
   simp only
   split
   ·have := q4H hF (L := L) hi ht
    simp only
    omega
   cases hj : q1B b.recs (askT F b.st t) with
   | none =>
    have := q4H hF (L := L) hi ht
    simp only
    omega
   | some out =>
    simp only
    split
    ·have := q4H hF (L := L) (b := ⟨(q0a L.s b.st (q08 b.st t) (lowT b)).1, b.live, b.recs, b.hist, b.last, b.event⟩) hi ht
     have e : WgtT ⟨(q0a L.s b.st (q08 b.st t) (lowT b)).1, b.live, b.recs, b.hist, b.last, b.event⟩ = WgtT b := rfl
     simp only
     omega
    ·generalize hb : q07.mk (q0a L.s b.st (q08 b.st t) (lowT b)).1 b.live (b.recs ++ [⟨max (q0a L.s b.st (q08 b.st t) (lowT b)).2.1 1, max (q0a L.s b.st (q08 b.st t) (lowT b)).2.1 1, t.began, out, q1U F b.st t, q1u F (q08 b.st t)⟩])
      (b.hist ++ [⟨t.id, t.began, (q0a L.s b.st (q08 b.st t) (lowT b)).2.1, t.start, b.event + 1, q1U F b.st t, q1u F (q08 b.st t)⟩]) b.last (b.event + 1) = b2
     have hi2 : IdsT b2.live := by rw [← hb]; exact hi
     have ht2 : t ∈ b2.live := by rw [← hb]; exact ht
     have h1 := q4H hF (L := L) hi2 ht2
     have h2 := qfe hF b.st t
     have h3 : WgtT b2 = WgtT b + 3 + 2 * ((q1U F b.st t).length + (q1u F (q08 b.st t)).length) := by
      rw [← hb]
      simp [WgtT, q6s, q0z]
      omega
     have h4 : wTx t = 3 * (1 + t.marks.length + t.ws.length) := rfl
     simp only
     omega
 split
 ·unfold q1P
  cases ho : ofT b o.id with
  | none => exact Nat.le_add_right _ _
  | some t =>
   have := q4H hF (L := L) hi (q20 ho).1
   simp only
   omega
 split
 ·unfold q1G
  exact Nat.le_add_right _ _
 ·exact Nat.le_add_right _ _
end
theorem qfO {F : List Sp → List Sp} {L : LimT} {b : q07} {o : OpT} : ∀ t' ∈ (q1X F L b o).1.live, ∀ w ∈ t'.ws, (∃ t ∈ b.live, w ∈ t.ws) ∨ w = o.w := by
 intro t' ht' w hw
 have same : t' ∈ b.live → (∃ t ∈ b.live, w ∈ t.ws) ∨ w = o.w := fun h => .inl ⟨t', h, hw⟩
 have ends : ∀ {b2 : q07} {t : TxS}, b2.live = b.live → t' ∈ (q2L F L b2 t).live → t' ∈ b.live := fun e h => by
  unfold q2L at h
  simp only at h
  rw [e] at h
  exact (List.mem_filter.1 h).1
 unfold q1X at ht'
 split at ht'
 ·unfold q0M at ht'
  split at ht'
  ·exact same ht'
  ·rcases List.mem_append.1 ht' with h | h
   ·exact same h
   ·rw [List.mem_singleton] at h
    subst h
    cases hw
 split at ht'
 ·unfold q12 at ht'
  cases ho : ofT b o.id with
  | none => rw [ho] at ht'; exact same ht'
  | some t =>
   rw [ho] at ht'
   simp only at ht'
   cases hf : t.ws.find? fun w => w.key == o.w.key with
   | some x => rw [hf] at ht'; exact same ht'
   | none =>
    rw [hf] at ht'
    rcases q4u ht' with ⟨e, _⟩ | ⟨h, _⟩
    ·subst e
     exact .inl ⟨t, (q20 ho).1, hw⟩
    ·exact same h
 split at ht'
 ·unfold q1L at ht'
  cases ho : ofT b o.id with
  | none => rw [ho] at ht'; exact same ht'
  | some t =>
   rw [ho] at ht'
   simp only at ht'
   split at ht'
   ·exact same ht'
   ·rcases q4u ht' with ⟨e, _⟩ | ⟨h, _⟩
    ·subst e
     exact .inl ⟨t, (q20 ho).1, hw⟩
    ·exact same h
 split at ht'
 ·unfold q0H at ht'
  cases ho : ofT b o.id with
  | none => rw [ho] at ht'; exact same ht'
  | some t =>
   rw [ho] at ht'
   simp only at ht'
   split at ht'
   ·exact same ht'
   ·rcases q4u ht' with ⟨e, _⟩ | ⟨h, _⟩
    ·subst e
     unfold putW at hw
     simp only [List.mem_append, List.mem_singleton] at hw
     rcases hw with (h | h) | h
     ·exact .inl ⟨t, (q20 ho).1, (List.mem_filter.1 h).1⟩
     ·exact .inr h
     ·exact .inl ⟨t, (q20 ho).1, (List.mem_filter.1 h).1⟩
    ·exact same h
 split at ht'
 ·unfold q0q at ht'
  cases ho : ofT b o.id with
  | none => rw [ho] at ht'; exact same ht'
  | some t =>
   rw [ho] at ht'
   simp only at ht'
   split at ht'
   ·exact same (ends rfl ht')
   ·cases hj : q1B b.recs (askT F b.st t) with
    | none => rw [hj] at ht'; exact same (ends rfl ht')
    | some out =>
     rw [hj] at ht'
     simp only at ht'
     split at ht'
     ·exact same (ends rfl ht')
     ·exact same (ends rfl ht')
 split at ht'
 ·unfold q1P at ht'
  cases ho : ofT b o.id with
  | none => rw [ho] at ht'; exact same ht'
  | some t => rw [ho] at ht'; exact same (ends rfl ht')
 split at ht'
 ·exact same ht'
 ·exact same ht'
theorem qa0 {F : List Sp → List Sp} {L : LimT} {b : q07} {o : OpT} (h : qah b) (hw : q2j o.w) : qah (q1X F L b o).1 := fun t' ht' w hx => by
 rcases qfO t' ht' w hx with ⟨t, ht, h1⟩ | rfl
 ·exact h t ht w h1
 ·exact hw
open Go.RowKit
def ByS (w : World) (R : Nat → Prop) (A : Option Addr) (c : Nat) (d : List UInt8) : Prop := d.length ≤ c ∧ c ≤ maxLen ∧ (A = none → c = 0) ∧ RdS w R A d
def PaS (w : World) (R : Nat → Prop) (A : Option Addr) (c : Nat) (l : List (KeyS × List UInt8)) : Prop := l.length ≤ c ∧ c ≤ maxLen ∧ (A = none → c = 0) ∧ ∃ ms : List MP, ms.map MP.p = l ∧ RowS q0f w R A ms ∧ ∀ x ∈ ms, ByS w R x.A x.c x.b
def SpS (w : World) (R : Nat → Prop) (A : Option Addr) (c : Nat) (l : List Sp) : Prop := l.length ≤ c ∧ c ≤ maxLen ∧ (A = none → c = 0) ∧ RowS q05 w R A l
def OkRS (w : World) (R : Nat → Prop) (x : MR) : Prop := (x.r.first < 18446744073709551616 ∧ x.r.last < 18446744073709551616 ∧ x.r.began < 18446744073709551616 ∧ x.r.out < 18446744073709551616) ∧ SpS w R x.A x.c x.r.reads ∧ SpS w R x.B x.d x.r.writes
def ReS (w : World) (R : Nat → Prop) (A : Option Addr) (c : Nat) (l : List RecS) : Prop := l.length ≤ c ∧ c ≤ maxLen ∧ (A = none → c = 0) ∧ ∃ ms : List MR, ms.map MR.r = l ∧ RowS q0d w R A ms ∧ ∀ x ∈ ms, OkRS w R x
structure MD where
 d : q5x
 A : Option Addr
 c : Nat
 B : Option Addr
 e : Nat
def q0Q (x : MD) : List Value := [.int .i64 x.d.id, .int .u64 x.d.began, .int .u64 x.d.at_, .int .i64 x.d.start, .int .i64 x.d.end_, .slice x.A x.d.reads.length x.c, .slice x.B x.d.writes.length x.e]
theorem mdF : q0X 7 q0Q := ⟨by decide, fun _ => rfl, fun x v hv => by
 simp only [q0Q, List.mem_cons, List.not_mem_nil, or_false] at hv
 rcases hv with rfl | rfl | rfl | rfl | rfl | rfl | rfl <;> rfl⟩
def OkDS (w : World) (R : Nat → Prop) (x : MD) : Prop := SpS w R x.A x.c x.d.reads ∧ SpS w R x.B x.e x.d.writes
def DoS (w : World) (R : Nat → Prop) (A : Option Addr) (c : Nat) (l : List q5x) : Prop := l.length ≤ c ∧ c ≤ maxLen ∧ (A = none → c = 0) ∧ ∃ ms : List MD, ms.map MD.d = l ∧ RowS q0Q w R A ms ∧ ∀ x ∈ ms, OkDS w R x
def q9N (n : Nat) : List Value := [.int .i64 (n : Int)]
def InS_ (w : World) (R : Nat → Prop) (A : Option Addr) (c : Nat) (l : List Nat) : Prop := l.length ≤ c ∧ c ≤ maxLen ∧ (A = none → c = 0) ∧ RowS q9N w R A l
section
variable {w w' : World} {R T : Nat → Prop} {A : Option Addr} {c : Nat}
theorem ByS.keep {d : List UInt8} (h : ByS w R A c d) (hk : ∀ g, R g → g < w.heap.size → w'.heap[g]? = w.heap[g]? ∧ T g) : ByS w' T A c d := ⟨h.1, h.2.1, h.2.2.1, h.2.2.2.keep hk⟩
theorem PaS.keep {l : List (KeyS × List UInt8)} (h : PaS w R A c l) (hk : ∀ g, R g → g < w.heap.size → w'.heap[g]? = w.heap[g]? ∧ T g) : PaS w' T A c l := by
 obtain ⟨h1, h2, h3, ms, e, hr, ho⟩ := h
 exact ⟨h1, h2, h3, ms, e, hr.keep mpF hk, fun x hx => (ho x hx).keep hk⟩
theorem SpS.keep {l : List Sp} (h : SpS w R A c l) (hk : ∀ g, R g → g < w.heap.size → w'.heap[g]? = w.heap[g]? ∧ T g) : SpS w' T A c l := ⟨h.1, h.2.1, h.2.2.1, h.2.2.2.keep spF hk⟩
theorem OkRS.keep {x : MR} (h : OkRS w R x) (hk : ∀ g, R g → g < w.heap.size → w'.heap[g]? = w.heap[g]? ∧ T g) : OkRS w' T x := ⟨h.1, h.2.1.keep hk, h.2.2.keep hk⟩
theorem ByS.sl {d : List UInt8} (h : ByS w R A c d) : SlI w 0 w.heap.size A c d := ⟨h.1, h.2.1, h.2.2.1, h.2.2.2.rd⟩
theorem SpS.ch {l : List Sp} (h : SpS w R A c l) : ChI w w.heap.size A c l := ⟨h.1, h.2.1, h.2.2.1, h.2.2.2.rowG spF⟩
theorem OkRS.ok {x : MR} (h : OkRS w R x) : OkMR w w.heap.size x := ⟨h.1.1, h.1.2.1, h.1.2.2.1, h.1.2.2.2, h.2.1.ch, h.2.2.ch⟩
theorem ReS.ch {l : List RecS} (h : ReS w R A c l) : ChR w w.heap.size A c l := by
 obtain ⟨h1, h2, h3, ms, e, hr, ho⟩ := h
 exact ⟨h1, h2, h3, ms, e, hr.rowG mrF, fun x hx => (ho x hx).ok⟩
theorem ByS.none_ (w : World) (R : Nat → Prop) : ByS w R none 0 [] := ⟨Nat.le_refl _, Nat.zero_le _, fun _ => rfl, fun h => absurd h (by simp)⟩
theorem PaS.none_ (w : World) (R : Nat → Prop) : PaS w R none 0 [] := ⟨Nat.le_refl _, Nat.zero_le _, fun _ => rfl, [], rfl, fun h => absurd h (by simp), by simp⟩
end
def qb3 (w : World) (R : Nat → Prop) (t : q4k) (A : Option Addr) (c : Nat) (B : Option Addr) (d : Nat) : Prop := ByS w R A c t.b ∧ PaS w R B d t.scan
theorem qb3.keep {w w' : World} {R T : Nat → Prop} {t : q4k} {A B : Option Addr} {c d : Nat} (h : qb3 w R t A c B d) (hk : ∀ g, R g → g < w.heap.size → w'.heap[g]? = w.heap[g]? ∧ T g) : qb3 w' T t A c B d := ⟨h.1.keep hk, h.2.keep hk⟩
structure MOT where
 o : OpT
 A : Option Addr
 c : Nat
def q6i (x : MOT) : List Value := [.int .i64 x.o.what, .int .i64 x.o.id, .string (bs x.o.w.key), .bool x.o.w.gone, .slice x.A x.o.w.dat.length x.c, .string (bs x.o.hi)]
theorem otF : q0X 6 q6i := ⟨by decide, fun _ => rfl, fun x v hv => by
 simp only [q6i, List.mem_cons, List.not_mem_nil, or_false] at hv
 rcases hv with rfl | rfl | rfl | rfl | rfl | rfl <;> rfl⟩
def q4h (x : Wr) (A : Option Addr) (c : Nat) : Value := .agg #[.string (bs x.key), .bool x.gone, .slice A x.dat.length c]
def qeE (o : OpT) (A : Option Addr) (c : Nat) : Value := .agg #[.int .i64 o.what, .int .i64 o.id, .string (bs o.w.key), .bool o.w.gone, .slice A o.w.dat.length c, .string (bs o.hi)]
def OkOT (w : World) (hi : Nat) (x : MOT) : Prop := I64 x.o.what ∧ I64 x.o.id ∧ x.o.w.key.length ≤ maxLen ∧ x.o.hi.length ≤ maxLen ∧ SlI w 0 hi x.A x.c x.o.w.dat
def qb2 (w : World) (hi : Nat) (A : Option Addr) (l : List OpT) : Prop := ∃ ms : List MOT, ms.map MOT.o = l ∧ RowG q6i w 0 hi A ms ∧ ∀ x ∈ ms, OkOT w hi x
def ChOT (w : World) (hi : Nat) (A : Option Addr) (c : Nat) (l : List OpT) : Prop := l.length ≤ c ∧ c ≤ maxLen ∧ (A = none → c = 0) ∧ qb2 w hi A l
section
variable {w w' : World} {hi hi' B : Nat} {A : Option Addr} {c : Nat} {l : List OpT} {x : MOT}
theorem OkOT.below (h : OkOT w hi x) (hb : Below B w w') (hB : hi ≤ B) (hh : hi ≤ hi') : OkOT w' hi' x := ⟨h.1, h.2.1, h.2.2.1, h.2.2.2.1, (h.2.2.2.2.keep fun g _ hg => hb.block g (by omega)).wide (Nat.le_refl _) hh⟩
theorem qb2.below (h : qb2 w hi A l) (hb : Below B w w') (hB : hi ≤ B) (hh : hi ≤ hi') : qb2 w' hi' A l := by
 obtain ⟨ms, e, h1, h2⟩ := h
 exact ⟨ms, e, (h1.below hb hB).wide (Nat.le_refl _) hh, fun x hx => (h2 x hx).below hb hB hh⟩
theorem ChOT.below (h : ChOT w hi A c l) (hb : Below B w w') (hB : hi ≤ B) (hh : hi ≤ hi') : ChOT w' hi' A c l := ⟨h.1, h.2.1, h.2.2.1, h.2.2.2.below hb hB hh⟩
theorem qb2.at_ (h : qb2 w hi A l) {j : Nat} (hj : j < l.length) :
  ∃ b o, A = some ⟨b, o, none⟩ ∧ b < hi ∧ ∃ x : MOT, x.o = l[j]'hj ∧ OkOT w hi x ∧ w.cell? ⟨b, o + j * 6, none⟩ = some (.int .i64 x.o.what) ∧ w.cell? ⟨b, o + j * 6 + 1, none⟩ = some (.int .i64 x.o.id) ∧ w.cell? ⟨b, o + j * 6 + 2, none⟩ = some (.string (bs x.o.w.key)) ∧
   w.cell? ⟨b, o + j * 6 + 3, none⟩ = some (.bool x.o.w.gone) ∧ w.cell? ⟨b, o + j * 6 + 4, none⟩ = some (.slice x.A x.o.w.dat.length x.c) ∧ w.cell? ⟨b, o + j * 6 + 5, none⟩ = some (.string (bs x.o.hi)) := by
 obtain ⟨ms, rfl, h1, h2⟩ := h
 have hj' : j < ms.length := by simpa using hj
 obtain ⟨b, o, e, _, hb, hc⟩ := h1.at_ otF hj'
 exact ⟨b, o, e, hb, ms[j], by simp, h2 _ (List.getElem_mem hj'), by simpa using hc 0 _ rfl, hc 1 _ rfl, hc 2 _ rfl, hc 3 _ rfl, hc 4 _ rfl, hc 5 _ rfl⟩
end
open Go.RowKit
theorem qbA {h : List UInt8} (e : h.isEmpty = true) : ((bs h).toList == []) = true ∧ (bs h).toList = [] := by
 rw [List.isEmpty_iff] at e
 subst e
 rw [q1g]
 exact ⟨rfl, rfl⟩
theorem qbz {h : List UInt8} (e : h.isEmpty = false) : ((bs h).toList == []) = false ∧ ¬ (bs h).toList = [] := by
 rw [List.isEmpty_eq_false_iff] at e
 rw [q1g]
 exact ⟨beq_eq_false_iff_ne.2 e, e⟩
theorem q7C (s : Sp) (w : World) : Calls Tryz.prog 103 #[q0J s] w fun r w' => r = .returned (.bool (q0e s)) ∧ Below w.heap.size w w' := by
 obtain ⟨lo, hi⟩ := s
 have HB := qh ((Below.refl w.heap.size w).alloc (Nat.le_refl _) (.cells #[.string (bs lo), .string (bs hi)] 131))
 have h0 := qdC lo hi
 unfold q0e endS q0J
 cases hq : hi.isEmpty with
 | true =>
  obtain ⟨q1, q2⟩ := qbA hq
  clear hq
  go_enter Tryz.func103, Tryz.ntmps103
  go_wp2
  go_ret
  exact ⟨rfl, HB.out⟩
 | false =>
  obtain ⟨q1, q2⟩ := qbz hq
  clear hq
  rw [Bool.false_or]
  generalize blt lo hi = x at *
  go_enter Tryz.func103, Tryz.ntmps103
  go_wp2
  go_ret
  exact ⟨rfl, HB.out⟩
open Go.RowKit
end Go.Proofs.YtdpbllacfljmoaaGreat
