import Derived.StillTail
import Derived.Deep.Quiet
import Derived.Test.YtdpbllacfljmoaaGreatZF16
import Derived.Test.YtdpbllacfljmoaaGreatZF17
import Derived.Test.YtdpbllacfljmoaaGreatZF04
set_option maxRecDepth 100000
set_option maxHeartbeats 16000000
set_option linter.unusedVariables false
namespace Go.Proofs.YtdpbllacfljmoaaGreat
open Go
section
variable {P : Program} {ops : Array Oper} {md : Region.Mode} {C : World → Prop}
def qdi (P : Program) (md : Region.Mode) (ops : Array Oper) (C : World → Prop) (L : Array Bool → Act → Prop) : Nat → Array Bool → Act → Prop
 | 0, listed, a => L listed a
 | f + 1, listed, a => Region.ready md ops listed ≠ [] ∧ ∀ i ∈ Region.ready md ops listed, qOp P ops C i (qdi P md ops C L f (listed.setIfInBounds i true)) a
theorem q9w {g : Nat} {L : Array Bool → Act → Prop} {Q : Exit → Act → World → Prop} (hL : ∀ listed a w, C w → L listed a → wpAny P md ops Q g listed a w) (f : Nat) :
  ∀ (listed : Array Bool) (a : Act) (w : World), C w → qdi P md ops C L f listed a → wpAny P md ops Q (f + g) listed a w := by
 induction f with
 | zero => intro listed a w hw h; rw [Nat.zero_add]; exact hL _ _ _ hw h
 | succ f ih =>
  intro listed a w hw h
  rw [show f + 1 + g = (f + g) + 1 by omega]
  exact ⟨fun e => absurd e h.1, fun i hi => wpOp_of_qOp hw (fun a' w' hw' hh => ih _ a' w' hw' hh) (h.2 i hi)⟩
theorem qbL {n i : Nat} {oi : Oper} {v : Value} {L : Array Bool → Act → Prop} (hoi : ops[i]? = some oi) (hsel : ∀ (j : Nat) (o : Oper) cs b, ops[j]? = some o → o.op ≠ .select cs b)
  (hs : Region.sinkB md ops n = true) (hc : Region.chainB md ops n = true) (hn : n < ops.size) (hin : i < n) (hdone : ∀ listed a, L listed a → ∀ j ∈ Region.ready md ops listed, n ≤ j) (f : Nat) :
  ∀ (listed : Array Bool) (a : Act), HeadInv md ops n listed →
   (∀ j oj, ops[j]? = some oj → j ≠ i → listed.getD j true = false → (∀ e ∈ oj.after, Region.binds md e = true → e.on ≠ i) → oi.apart ops oj = true) →
   i ∈ Region.ready md ops listed → YieldsIn P ops C oi v a → qdi P md ops C L f (listed.setIfInBounds i true) (a.put oi.dst v) → qdi P md ops C L (f + 1) listed a := by
 induction f with
 | zero =>
  intro listed a inv hfree hr hy H
  refine ⟨fun e => (by rw [e] at hr; cases hr), fun j hj => ?_⟩
  by_cases e : j = i
  ·subst e; exact hy.qOp hoi H
  ·have h1 := hdone _ _ H j (ready_mono hj e)
   exact absurd hj (tail_waits hs hc hn inv _ i rfl hin (mem_ready.1 hr).1 j h1)
 | succ f ih =>
  intro listed a inv hfree hr hy H
  refine ⟨fun e => (by rw [e] at hr; cases hr), fun j hj => ?_⟩
  by_cases e : j = i
  ·subst e; exact hy.qOp hoi H
  ·have hu := (mem_ready.1 hr).1
   have hjn : j < n := by
    by_cases h : j < n
    ·exact h
    ·exact absurd hj (tail_waits hs hc hn inv _ i rfl hin hu j (by omega))
   obtain ⟨hjun, oj, hoj, hall⟩ := mem_ready.1 hj
   have hnot : ∀ x ∈ oj.after, Region.binds md x = true → x.on ≠ i := fun x hx hb heq => by
    have h1 := hall x hx hb
    rw [heq, getD_both hu] at h1
    cases h1
   have h2 := qOp_put hoj (hfree j oj hoj e hjun hnot) (fun cs b => hsel i oi cs b hoi) (fun cs b => hsel j oj cs b hoj) hy (H.2 j (ready_mono hj e))
   refine qOp_mono (fun a' h3 => ih _ a' (inv.set hj hjn) (fun k ok hk hki hun hno => hfree k ok hk hki ?_ hno) (ready_mono hr (Ne.symm e)) h3.1 ?_) h2
   ·by_cases hjk : j = k
    ·subst hjk; exact hjun
    ·rwa [getD_set_ne true hjk] at hun
   ·rw [Array.setIfInBounds_comm _ _ e]
    exact h3.2
theorem qf3 {n g : Nat} {Lq : Act → Prop} (hsel : Region.noSelect ops = true) (hs : Region.sinkB md ops n = true) (hc : Region.chainB md ops n = true) (hn : n < ops.size) (l : List Oper) :
  ∀ (k : Nat) (listed : Array Bool) (a : Act), (∀ j, j < l.length → l[j]? = ops[k + j]?) → k + l.length = n → HeadInv md ops n listed → Region.lexHead md ops g l.length k listed = true → wpQuiet P ops C Lq l a →
   qdi P md ops C (fun listed' a' => Region.seqB md ops g n listed' = true ∧ Lq a') l.length listed a := by
 induction l with
 | nil =>
  intro k listed a _ hk _ hB h
  have e : k = n := by simpa using hk
  subst e
  exact ⟨by simpa [Region.lexHead] using hB, h⟩
 | cons o l ih =>
  intro k listed a hl hk inv hB h
  have h0 : ops[k]? = some o := by simpa using (hl 0 (by simp)).symm
  simp only [List.length_cons, Region.lexHead, Bool.and_eq_true] at hB hk
  have hkn : k < n := by omega
  have hr : k ∈ Region.ready md ops listed := by simpa using hB.1.1
  have hq : qOp P ops C k (wpQuiet P ops C Lq l) a := by unfold qOp; simp only [h0]; exact h
  obtain ⟨v, hy, hK⟩ := yieldsIn_of_qOp h0 hq
  exact qbL h0 (Region.noSelect_spec hsel) hs hc hn hkn (fun _ _ hL => seqB_ready hL.1) l.length listed a inv (Region.free_spec h0 hB.1.2) hr hy
   (ih (k + 1) _ _ (fun j hj => by have := hl (j + 1) (by simp; omega); simpa [Nat.add_assoc, Nat.add_comm 1 j] using this) (by omega) (inv.set hr hkn) hB.2 hK)
theorem q1E {id : Nat} {Q : Exit → Act → World → Prop} {a : Act} {w : World} {l : List Oper} (n : Nat) (hm : P.follows .mixedOrders = true) (hB : Region.lexTailB .any l.toArray n = true) (hC : C w.drew)
  (h : wpQuiet P l.toArray C (fun a' => ∀ w', C w' → wpList P l.toArray Q (l.drop n) a' w') (l.take n) a) : (Code.region id l.toArray true).wp P Q a w := by
 simp only [Region.lexTailB, Bool.and_eq_true, decide_eq_true_eq] at hB
 obtain ⟨⟨⟨⟨hsel, hn⟩, hs⟩, hc⟩, hlex⟩ := hB
 have hn' : n < l.length := by simpa using hn
 have htl : (l.take n).length = n := by simp; omega
 have hdl : (l.drop n).length = l.toArray.size - n := by simp
 have inv : HeadInv .any l.toArray n (Array.replicate l.toArray.size false) :=
  ⟨by simp, fun j oj _ hl => (by rw [getD_replicate_false] at hl; cases hl), fun t _ ht => getD_in (by simpa using ht) (getD_replicate_false _ _)⟩
 have H := qf3 (C := C) (P := P) (g := l.toArray.size - n) hsel hs hc hn (l.take n) 0 _ a (fun j hj => by
  have hj' : j < n := by rw [htl] at hj; exact hj
  simp [hj']) (by simpa using htl) inv (by rw [htl]; exact hlex) h
 have H2 := q9w (Q := Q) (g := l.toArray.size - n) (fun listed a' w' hw' hL => by
  have := wpAny_of_seq (md := .any) (Q' := Q) (l.drop n) n listed a' w' (fun j => by simp [List.getElem?_drop]) (by rw [hdl]; exact hL.1) (hL.2 w' hw')
  rwa [hdl] at this) _ _ _ _ hC H
 rw [htl, show n + (l.toArray.size - n) = l.toArray.size by omega] at H2
 exact wp_region_any hm H2
end
open Go.RowKit
def updG (g : KeyS → List Ver) (k : KeyS) (l : List Ver) : KeyS → List Ver := fun x => if x = k then l else g x
theorem q2r (g : KeyS → List Ver) (k : KeyS) (l : List Ver) : updG g k l k = l := if_pos rfl
theorem q26 {g : KeyS → List Ver} {k x : KeyS} (l : List Ver) (h : x ≠ k) : updG g k l x = g x := if_neg h
theorem qet (g : KeyS → List Ver) (k : KeyS) : updG g k (g k) = g := funext fun x => by
 by_cases h : x = k
 ·subst h; exact q2r _ _ _
 ·exact q26 _ h
def q41 (z : Sz) (k : KeyS) (l l' : List Ver) : Sz := ⟨z.k + m1 k l' - m1 k l, z.v + m2 k l' - m2 k l, z.b + m3 k l' - m3 k l⟩
theorem qcl (z : Sz) (k : KeyS) (l : List Ver) : q41 z k l l = z := by
 unfold q41
 obtain ⟨a, b, c⟩ := z
 simp
theorem q50 {a : KsS} (hf : q2i a) (b : KsS) (k : KeyS) : q03 (a ++ b) k = if (q03 a k).isEmpty = true then q03 b k else q03 a k := by
 induction a with
 | nil => rfl
 | cons x a ih =>
  rw [List.cons_append, q0s, q0s]
  by_cases e : x.1 = k
  ·rw [if_pos e, if_pos e, if_neg]
   have := hf x (List.mem_cons_self ..)
   simpa using this
  ·rw [if_neg e, if_neg e]
   exact ih fun y hy => hf y (List.mem_cons_of_mem _ hy)
def upT (K : KsS) (low j : Nat) : KsS := q05 (K.take j) low ++ K.drop j
section
variable {K : KsS} {low j : Nat}
theorem qbk : upT K low 0 = K := by unfold upT; simp [q05]
theorem qgr : upT K low K.length = q05 K low := by unfold upT; simp
theorem q9D {x : KeyS × List Ver} (h : x ∈ q05 (K.take j) low) : ∃ y ∈ K.take j, y.1 = x.1 := by
 obtain ⟨y, hy, e, _⟩ := q1T.1 h
 exact ⟨y, hy, by rw [e]⟩
theorem qaw (h : q0F K) {y x : KeyS × List Ver} (hy : y ∈ K.take j) (hx : x ∈ K.drop j) : blt y.1 x.1 = true := by
 have h2 : q0F (K.take j ++ K.drop j) := by rw [List.take_append_drop]; exact h
 exact (List.pairwise_append.1 h2).2.2 y hy x hx
theorem qbi (h : q0F K) : q0F (upT K low j) := by
 unfold upT q0F
 rw [List.pairwise_append]
 refine ⟨q0I (List.Pairwise.sublist (List.take_sublist _ _) h) low, List.Pairwise.sublist (List.drop_sublist _ _) h, fun x hx y hy => ?_⟩
 obtain ⟨u, hu, e⟩ := q9D hx
 rw [← e]
 exact qaw h hu hy
theorem q40 (hf : q2i K) : q2i (upT K low j) := fun x hx => by
 rcases List.mem_append.1 hx with h1 | h1
 ·exact q10 _ _ x h1
 ·exact hf x (List.mem_of_mem_drop h1)
theorem q3O (hj : j < K.length) : upT K low j = q05 (K.take j) low ++ (K[j]'hj) :: K.drop (j + 1) := by
 unfold upT
 rw [List.drop_eq_getElem_cons hj]
theorem q5l (hj : j < K.length) : q05 (K.take (j + 1)) low = q05 (K.take j) low ++ (q3M low (K[j]'hj)).toList := by
 unfold q05
 rw [List.take_succ_eq_append_getElem hj, List.filterMap_append]
 congr 1
theorem q7u (hj : j < K.length) : upT K low (j + 1) = q05 (K.take j) low ++ ((q3M low (K[j]'hj)).toList ++ K.drop (j + 1)) := by
 unfold upT
 rw [q5l hj, List.append_assoc]
theorem q6J (x : KeyS × List Ver) : (q3M low x).toList = if (q0m x.2 low).isEmpty = true then [] else [(x.1, q0m x.2 low)] := by
 unfold q3M
 split <;> rfl
theorem qer (h : q0F K) (hj : j < K.length) : q03 (upT K low j) (K[j]'hj).1 = (K[j]'hj).2 :=
 q0K (qbi h) (by rw [q3O hj]; exact List.mem_append_right _ (List.mem_cons_self ..))
theorem qbj (h : q0F K) (hj : j < K.length) : q03 (upT K low (j + 1)) = updG (q03 (upT K low j)) (K[j]'hj).1 (q0m (K[j]'hj).2 low) := funext fun k => by
 have hs : q0F (upT K low j) := qbi h
 rw [q3O hj] at hs ⊢
 rw [q7u hj, q50 (q10 _ _), q6J]
 obtain ⟨_, h2, h3⟩ := List.pairwise_append.1 hs
 have hb := (List.pairwise_cons.1 h2).1
 have hdrop : q03 (K.drop (j + 1)) (K[j]'hj).1 = [] := q2G fun x hx => fun e => q1j (hb x hx) e.symm
 have ha : q03 (q05 (K.take j) low) (K[j]'hj).1 = [] := q2G fun x hx => q1j (h3 x hx _ (List.mem_cons_self ..))
 by_cases e : k = (K[j]'hj).1
 ·rw [e, q2r, ha, if_pos (show ([] : List Ver).isEmpty = true from rfl)]
  by_cases ht : (q0m (K[j]'hj).2 low).isEmpty = true
  ·rw [if_pos ht, List.nil_append, hdrop]
   exact (List.isEmpty_iff.1 ht).symm
  ·rw [if_neg ht, List.singleton_append, q0s, if_pos rfl]
 ·rw [q26 _ e, q50 (q10 _ _)]
  have e2 : q03 ((K[j]'hj) :: K.drop (j + 1)) k = q03 (K.drop (j + 1)) k := by rw [q0s, if_neg (fun e3 => e e3.symm)]
  have e4 : q03 ((if (q0m (K[j]'hj).2 low).isEmpty = true then [] else [((K[j]'hj).1, q0m (K[j]'hj).2 low)]) ++ K.drop (j + 1)) k = q03 (K.drop (j + 1)) k := by
   split
   ·rfl
   ·rw [List.singleton_append, q0s, if_neg (fun e3 => e e3.symm)]
  rw [e2, e4]
theorem q84 {m : KeyS → List Ver → Nat} (h0 : ∀ k, m k [] = 0) (hj : j < K.length) : sumS m (upT K low (j + 1)) + m (K[j]'hj).1 (K[j]'hj).2 = sumS m (upT K low j) + m (K[j]'hj).1 (q0m (K[j]'hj).2 low) := by
 rw [q3O hj, q7u hj, q5L, q5L, q5L, q2N, q6J]
 split
 ·next ht =>
  rw [List.isEmpty_iff.1 ht, h0]
  simp only [sumS, List.map_nil, List.sum_nil]
  omega
 ·simp only [sumS, List.map_cons, List.map_nil, List.sum_cons, List.sum_nil]
  omega
theorem qfJ (hf : q2i K) (hj : j < K.length) : szS (upT K low (j + 1)) = q41 (szS (upT K low j)) (K[j]'hj).1 (K[j]'hj).2 (q0m (K[j]'hj).2 low) := by
 have s1 := q84 (low := low) q44.1 hj
 have s2 := q84 (low := low) q44.2.1 hj
 have s3 := q84 (low := low) q44.2.2 hj
 have e1 := q4j (q40 (low := low) (j := j + 1) hf)
 have e2 := q2C (upT K low (j + 1))
 have e3 := q3g (q40 (low := low) (j := j + 1) hf)
 have d1 := q4j (q40 (low := low) (j := j) hf)
 have d2 := q2C (upT K low j)
 have d3 := q3g (q40 (low := low) (j := j) hf)
 simp only [szS, q41, Sz.mk.injEq]
 omega
theorem qgW (hf : q2i K) (hj : j < K.length) : m1 (K[j]'hj).1 (K[j]'hj).2 ≤ (szS (upT K low j)).k ∧ m2 (K[j]'hj).1 (K[j]'hj).2 ≤ (szS (upT K low j)).v ∧ m3 (K[j]'hj).1 (K[j]'hj).2 ≤ (szS (upT K low j)).b := by
 have d1 := q4j (q40 (low := low) (j := j) hf)
 have d2 := q2C (upT K low j)
 have d3 := q3g (q40 (low := low) (j := j) hf)
 rw [q3O hj, q5L, q2N] at d1 d2 d3
 rw [← q3O hj] at d1 d2 d3
 unfold szS
 simp only
 omega
theorem q9q (hf : q2i K) : ∀ (j : Nat), j ≤ K.length → (szS (upT K low j)).k ≤ K.length ∧ (szS (upT K low j)).v ≤ q1q K ∧ (szS (upT K low j)).b ≤ q3f K
 | 0, _ => by rw [qbk]; exact ⟨Nat.le_refl _, Nat.le_refl _, Nat.le_refl _⟩
 | j + 1, hj => by
  have ih := q9q hf j (by omega)
  have hm := qdB (K[j]'(by omega)).1 (K[j]'(by omega)).2 low
  rw [qfJ hf (by omega)]
  unfold q41
  simp only
  omega
theorem qfA (hj : j < K.length) : (q05 (K.take (j + 1)) low).map Prod.fst = (q05 (K.take j) low).map Prod.fst ++ (if (q0m (K[j]'hj).2 low).isEmpty = true then [] else [(K[j]'hj).1]) := by
 rw [q5l hj, List.map_append, q6J]
 split <;> rfl
theorem q9E (K : KsS) (low : Nat) : (q05 K low).length ≤ K.length := List.length_filterMap_le _ _
end
open Go.RowKit
def updC (cv : KeyS → Value) (k : KeyS) (v : Value) : KeyS → Value := fun x => if x = k then v else cv x
theorem q3b (cv : KeyS → Value) (k : KeyS) (v : Value) : updC cv k v k = v := if_pos rfl
theorem q4m {cv : KeyS → Value} {k x : KeyS} (v : Value) (h : x ≠ k) : updC cv k v x = cv x := if_neg h
theorem q7R {g : KeyS → List Ver} {cv : KeyS → Value} {k : KeyS} {l : List Ver} {v : Value} (hl : l ≠ []) : mapG (updG g k l) (updC cv k v) = updM (mapG g cv) k (some v) := funext fun x => by
 unfold mapG
 by_cases h : x = k
 ·subst h
  rw [q2r, q3b, q3c, if_neg (by simpa using hl)]
 ·rw [q26 _ h, q4m _ h, q5e _ h]
theorem qdE {g : KeyS → List Ver} {cv : KeyS → Value} {k : KeyS} : mapG (updG g k []) cv = updM (mapG g cv) k none := funext fun x => by
 unfold mapG
 by_cases h : x = k
 ·subst h
  rw [q2r, q3c]
  rfl
 ·rw [q26 _ h, q5e _ h]
section
variable {w w' : World} {p : Nat} {F D : Nat → Prop} {B : Nat} {kv : Value} {cv : KeyS → Value} {L : LimS} {m r v : Int} {now : Nat} {g : KeyS → List Ver} {ks : List KeyS} {z : Sz}
theorem RawS.turn (h : RawS w p F D B kv cv L m r v now g ks z) {now' : Nat} {z' : Sz} (hb : w'.heap[p]? = some (.cells (boxS L m r v now' B kv z') 165 (0, 0))) (hk : ∀ b, b ≠ p → w'.heap[b]? = w.heap[b]?) (hs : w.heap.size ≤ w'.heap.size) :
  RawS w' p F D B kv cv L m r v now' g ks z' where
 box := hb
 map := h.map.keep (hk B (Ne.symm h.pB))
 keys := OwnG.keep h.keys (fun b hb _ => hk b (h.kvp b hb).1) (Nat.le_refl _)
 chain := fun k hg => (h.chain k hg).keep (fun b hb => hk b (fun e => h.Dp (e ▸ hb))) (fun _ hb => hb) (fun b hb => hk b (h.cvp k hg b hb).1)
 Fp := h.Fp
 FB := h.FB
 Fk := h.Fk
 Fc := h.Fc
 FD := h.FD
 lt := fun b hb => Nat.lt_of_lt_of_le (h.lt b hb) hs
 pB := h.pB
 kvp := h.kvp
 cvp := h.cvp
 apart := h.apart
 Dp := h.Dp
 DB := h.DB
theorem RawS.putC (h : RawS w p F D B kv cv L m r v now g ks z) {k : KeyS} {l : List Ver} {u : Value} {D' : Nat → Prop} {N : Nat → Prop} (hn : ∀ b, N b → ¬ F b ∧ b < w'.heap.size) (hl : l ≠ []) (hm : MapS w' B (mapG (updG g k l) (updC cv k u))) (hc : OwnC w' D' u l) (hs : w.heap.size ≤ w'.heap.size)
  (hd1 : ∀ b, D b → D' b) (hd2 : ∀ b, D' b → D b ∨ N b) (hu : ∀ b, u.ownBlock = some b → (N b ∨ (g k ≠ [] ∧ (cv k).ownBlock = some b)) ∧ ¬ D' b)
  (hk : ∀ b, F b → b ≠ B → (g k ≠ [] → (cv k).ownBlock ≠ some b) → w'.heap[b]? = w.heap[b]?) :
  RawS w' p (fun b => F b ∨ N b) D' B kv (updC cv k u) L m r v now (updG g k l) ks z := by
 have new : ∀ b, F b → ¬ N b := fun b hb h2 => (hn b h2).1 hb
 have hp : w'.heap[p]? = w.heap[p]? := hk p h.Fp h.pB fun hg e => (h.cvp k hg p e).1 rfl
 have hkeep : ∀ b, D b → w'.heap[b]? = w.heap[b]? := fun b hb => hk b (h.FD b hb) (fun e => h.DB (e ▸ hb)) fun hg e => (h.cvp k hg b e).2.2.1 hb
 have other : ∀ x, x ≠ k → ∀ {P : Prop}, (g x ≠ [] → P) → updG g k l x ≠ [] → P := fun x hx P hP hg => hP (by rw [q26 _ hx] at hg; exact hg)
 refine ⟨hp.trans h.box, hm, OwnG.keep h.keys (fun b hb _ => hk b (h.Fk b hb) (h.kvp b hb).2.1 fun hg e => (h.cvp k hg b e).2.2.2 hb) (Nat.le_refl _), fun x hg => ?_, .inl h.Fp, .inl h.FB, fun b hb => .inl (h.Fk b hb), fun x hg b hb => ?_, fun b hb => ?_, fun b hb => ?_, h.pB, fun b hb => ?_, fun x hg b hb => ?_, fun x y hx hy hne b hb => ?_, fun hd => ?_, fun hd => ?_⟩
 ·by_cases hx : x = k
  ·subst hx
   rw [q2r, q3b]
   exact hc
  ·rw [q26 _ hx] at hg ⊢
   rw [q4m _ hx]
   exact (h.chain x hg).keep hkeep hd1 fun b hb => hk b (h.Fc x hg b hb) (h.cvp x hg b hb).2.1 fun hg2 e => h.apart x k hg hg2 hx b hb e
 ·by_cases hx : x = k
  ·subst hx
   rw [q3b] at hb
   rcases (hu b hb).1 with h1 | ⟨h1, h2⟩
   ·exact .inr h1
   ·exact .inl (h.Fc x h1 b h2)
  ·rw [q26 _ hx] at hg
   rw [q4m _ hx] at hb
   exact .inl (h.Fc x hg b hb)
 ·rcases hd2 b hb with h1 | h1
  ·exact .inl (h.FD b h1)
  ·exact .inr h1
 ·rcases hb with h1 | h1
  ·exact Nat.lt_of_lt_of_le (h.lt b h1) hs
  ·exact (hn b h1).2
 ·refine ⟨(h.kvp b hb).1, (h.kvp b hb).2.1, fun hd => ?_⟩
  rcases hd2 b hd with h1 | h1
  ·exact (h.kvp b hb).2.2 h1
  ·exact new b (h.Fk b hb) h1
 ·by_cases hx : x = k
  ·subst hx
   rw [q3b] at hb
   obtain ⟨h0, h9⟩ := hu b hb
   rcases h0 with h1 | ⟨h1, h2⟩
   ·exact ⟨fun e => new p h.Fp (e ▸ h1), fun e => new B h.FB (e ▸ h1), h9, fun e => new b (h.Fk b e) h1⟩
   ·obtain ⟨k1, k2, _, k4⟩ := h.cvp x h1 b h2
    exact ⟨k1, k2, h9, k4⟩
  ·rw [q26 _ hx] at hg
   rw [q4m _ hx] at hb
   obtain ⟨k1, k2, k3, k4⟩ := h.cvp x hg b hb
   refine ⟨k1, k2, fun hd => ?_, k4⟩
   rcases hd2 b hd with h1 | h1
   ·exact k3 h1
   ·exact new b (h.Fc x hg b hb) h1
 ·by_cases hxk : x = k
  ·subst hxk
   have hyk : y ≠ x := Ne.symm hne
   rw [q26 _ hyk] at hy
   rw [q3b] at hb
   rw [q4m _ hyk]
   intro e
   rcases (hu b hb).1 with h1 | ⟨h1, h2⟩
   ·exact new b (h.Fc y hy b e) h1
   ·exact h.apart x y h1 hy hne b h2 e
  ·rw [q26 _ hxk] at hx
   rw [q4m _ hxk] at hb
   by_cases hyk : y = k
   ·subst hyk
    rw [q3b]
    intro e
    rcases (hu b e).1 with h1 | ⟨h1, h2⟩
    ·exact new b (h.Fc x hx b hb) h1
    ·exact h.apart x y hx h1 hne b hb h2
   ·rw [q26 _ hyk] at hy
    rw [q4m _ hyk]
    exact h.apart x y hx hy hne b hb
 ·rcases hd2 p hd with h1 | h1
  ·exact h.Dp h1
  ·exact new p h.Fp h1
 ·rcases hd2 B hd with h1 | h1
  ·exact h.DB h1
  ·exact new B h.FB h1
theorem RawS.dropC (h : RawS w p F D B kv cv L m r v now g ks z) {k : KeyS} (hm : MapS w' B (mapG (updG g k []) cv)) (hs : w.heap.size ≤ w'.heap.size) (hk : ∀ b, F b → b ≠ B → w'.heap[b]? = w.heap[b]?) :
  RawS w' p F D B kv cv L m r v now (updG g k []) ks z := by
 have old : ∀ x, updG g k [] x ≠ [] → x ≠ k ∧ g x ≠ [] := fun x hx => by
  by_cases e : x = k
  ·subst e
   rw [q2r] at hx
   exact absurd rfl hx
  ·rw [q26 _ e] at hx
   exact ⟨e, hx⟩
 refine ⟨(hk p h.Fp h.pB).trans h.box, hm, OwnG.keep h.keys (fun b hb _ => hk b (h.Fk b hb) (h.kvp b hb).2.1) (Nat.le_refl _), fun x hg => ?_, h.Fp, h.FB, h.Fk, fun x hg => h.Fc x (old x hg).2, h.FD, fun b hb => Nat.lt_of_lt_of_le (h.lt b hb) hs, h.pB, h.kvp, fun x hg => h.cvp x (old x hg).2, fun x y hx hy => h.apart x y (old x hx).2 (old y hy).2, h.Dp, h.DB⟩
 obtain ⟨hx, hg2⟩ := old x hg
 rw [q26 _ hx]
 exact (h.chain x hg2).keep (fun b hb => hk b (h.FD b hb) fun e => h.DB (e ▸ hb)) (fun _ hb => hb) fun b hb => hk b (h.Fc x hg2 b hb) (h.cvp x hg2 b hb).2.1
def qfQ (w : World) (p : Nat) (F : Nat → Prop) (B : Nat) (kv : Value) (L : LimS) (m r v : Int) (now : Nat) (g : KeyS → List Ver) (ks : List KeyS) (z : Sz) (w' : World) : Prop :=
 ∃ F' D' cv', RawS w' p F' D' B kv cv' L m r v now g ks z ∧ Mut F w w' ∧ ∀ b, F' b → F b ∨ w.heap.size ≤ b
end
open Go.RowKit
theorem q2f {w : World} {p : Nat} {L : LimS} {m r v : Int} {now B : Nat} {kv : Value} {z : Sz} (h : w.heap[p]? = some (.cells (boxS L m r v now B kv z) 165 (0, 0))) (i : Nat) (u : Value) :
  (w.setCell ⟨p, i, none⟩ u).heap[p]? = some (.cells ((boxS L m r v now B kv z).setIfInBounds i u) 165 (0, 0)) := by
 rw [setCell_eq_setRow w p i _ _ _ u h]
 exact setRow_heap w p _ _ _ _ h
section
variable {w w' : World} {p : Nat} {F D : Nat → Prop} {B : Nat} {kv : Value} {cv : KeyS → Value} {L : LimS} {m r v : Int} {now : Nat} {g : KeyS → List Ver} {ks : List KeyS} {z : Sz}
theorem RawS.cellSet (h : RawS w p F D B kv cv L m r v now g ks z) {now' : Nat} {z' : Sz} (i : Nat) (u : Value) (hb : (boxS L m r v now B kv z).setIfInBounds i u = boxS L m r v now' B kv z') : RawS (w.setCell ⟨p, i, none⟩ u) p F D B kv cv L m r v now' g ks z' :=
 h.turn (by rw [q2f h.box, hb]) (fun b hb => q0b hb _ _) (by simp [World.setCell])
theorem q1U (w : World) {p : Nat} {F : Nat → Prop} (hp : F p) (i : Nat) (u : Value) : Mut F w (w.setCell ⟨p, i, none⟩ u) := ⟨rfl, rfl, rfl, by simp [World.setCell], fun k _ hf => q0b (fun e => hf (by rw [e]; exact hp)) _ _⟩
theorem qdz {k : KeyS} {l : List Ver} (h : l ≠ []) : m1 k l = 1 := if_neg h
theorem qdA {k : KeyS} {l : List Ver} (h : l ≠ []) : m3 k l = k.length + q0z l := if_neg h
theorem q6u {F : Nat → Prop} {B : Nat} (h : w.grownBy w' (some B)) (hB : F B) : Mut F w w' := ⟨h.os, h.tape, h.output, h.size, fun k hk hf => h.block k hk fun e => hf (by injection e with e; rw [e]; exact hB)⟩
def RetT (w : World) (p : Nat) (F : Nat → Prop) (B : Nat) (kv : Value) (L : LimS) (m r v : Int) (now : Nat) (g : KeyS → List Ver) (ks : List KeyS) (z : Sz) (e : Ending) (w' : World) : Prop := e = .returned (.tuple #[]) ∧ qfQ w p F B kv L m r v now g ks z w'
theorem RawS.same (h : RawS w p F D B kv cv L m r v now g ks z) : qfQ w p F B kv L m r v now g ks z w := ⟨F, D, cv, h, Mut.refl _ _, fun _ h => .inl h⟩
theorem qbH (h : RawS w p F D B kv cv L m r v now g ks z) (k : KeyS) (low : Nat) (hok : q4G (g k)) (hri : q1A (g k) = true) (ha : AltC (g k)) (hz1 : m1 k (g k) ≤ z.k) (hz2 : m2 k (g k) ≤ z.v) (hz3 : m3 k (g k) ≤ z.b)
    (hzb : z.k ≤ 1099511627776 ∧ z.v ≤ 1099511627776 ∧ z.b ≤ 1099511627776) (hkl : k.length ≤ 1048576) :
    Calls Tryz.prog 142 #[ptrS p, .string (bs k), .int .u64 low] w (RetT w p F B kv L m r v now (updG g k (q0m (g k) low)) ks (q41 z k (g k) (q0m (g k) low))) := by
  have c8 := h.map_
  have hlk := h.look k
  obtain ⟨A, c, hv, hc⟩ := h.ch k
  rw [hv] at hlk
  have HH := qh h
  have HCh := qh hc
  have HOk := qh hok
  have hlen : (g k).length ≤ 4294967296 := hok.1
  by_cases hst : q0m (g k) low = g k ∧ ((g k).length < 2 ∨ ∃ h1 : 1 < (g k).length, low < ((g k)[1]'h1).tm)
  · have HQ := qh (show RetT w p F B kv L m r v now (updG g k (q0m (g k) low)) ks (q41 z k (g k) (q0m (g k) low)) (.returned (.tuple #[])) w from ⟨rfl, by rw [hst.1, qet, qcl]; exact h.same⟩)
    generalize RetT w p F B kv L m r v now (updG g k (q0m (g k) low)) ks (q41 z k (g k) (q0m (g k) low)) = R at *
    unfold ptrS
    rcases hst.2 with h2 | ⟨h1, h2⟩
    · have d1 : decide (((g k).length : Int) < 2) = true := by rw [decide_eq_true_iff]; omega
      clear h hv hc hok hri ha hz1 hz2 hz3 hst
      generalize (g k).length = n at *
      go_enter Tryz.func142, Tryz.ntmps142
      go_wp2
      refine bodyPost_ret (v := .tuple #[]) (by simp [results, Tryz.results142, go_sem]) rfl ?_
      exact HQ.out
    · have d1 : decide (((g k).length : Int) < 2) = false := by rw [decide_eq_false_iff_not]; omega
      obtain ⟨b, o, A', c', rfl, x4, x0, x1, x2, x3, htm⟩ := hc.2.2.2.at_ h1
      clear x1 x2 x3 x4 htm
      rw [Nat.one_mul] at x0
      have d2 : decide (1 < ((g k).length : Int)) = true := by rw [decide_eq_true_iff]; omega
      have d3 : (1 : Int) < ((g k).length : Int) := by omega
      have d4 : decide (1 < (g k).length) = true := by rw [decide_eq_true_iff]; omega
      have d5 : decide ((low : Int) < (((g k)[1]'h1).tm : Int)) = true := by rw [decide_eq_true_iff]; omega
      have d6 : decide (low < ((g k)[1]'h1).tm) = true := by rw [decide_eq_true_iff]; omega
      clear h hv hc hok hri ha hz1 hz2 hz3 hst HCh HOk
      generalize (g k)[1].tm = tm at *
      generalize (g k).length = n at *
      go_enter Tryz.func142, Tryz.ntmps142
      go_wp2
      refine bodyPost_ret (v := .tuple #[]) (by simp [results, Tryz.results142, go_sem]) rfl ?_
      exact HQ.out
  · have h1 : 1 < (g k).length := by
      rcases Nat.lt_or_ge 1 (g k).length with h1 | h1
      · exact h1
      · exact absurd ⟨q7t ((q17 _ 0).1 hri).2 ha low (fun h2 => by omega), .inl (by omega)⟩ hst
    have h2 : ((g k)[1]'h1).tm ≤ low := by
      rcases Nat.lt_or_ge low ((g k)[1]'h1).tm with h2 | h2
      · exact absurd ⟨q7t ((q17 _ 0).1 hri).2 ha low (fun _ => h2), .inr ⟨h1, h2⟩⟩ hst
      · exact h2
    obtain ⟨b, o, A', c', rfl, x4, x0, x1, x2, x3, htm⟩ := hc.2.2.2.at_ h1
    rw [Nat.one_mul] at x0
    clear x1 x2 x3 x4 htm
    have HTrim := qh (q79 (g k) _ c low w hok hc hri)
    have hgk : g k ≠ [] := fun e => by rw [e] at h1; simp at h1
    have hTl : (q0m (g k) low).length ≤ (g k).length := qbc _ _
    have hTs : q0z (q0m (g k) low) ≤ q0z (g k) := q9i _ _
    rw [qdA hgk] at hz3
    rw [qdz hgk] at hz1
    have hz2' : (g k).length ≤ z.v := hz2
    have HTZ : Hid (q41 z k (g k) (q0m (g k) low) = ⟨z.k + m1 k (q0m (g k) low) - 1, z.v + (q0m (g k) low).length - (g k).length, z.b + m3 k (q0m (g k) low) - (k.length + q0z (g k))⟩) := qh (by unfold q41; rw [qdz hgk, qdA hgk]; rfl)
    have hTok : q4G (q0m (g k) low) := ⟨by have := hok.1; omega, by have := hok.2; omega⟩
    have HTOk := qh hTok
    have d1 : decide (((g k).length : Int) < 2) = false := by rw [decide_eq_false_iff_not]; omega
    have d2 : decide (1 < ((g k).length : Int)) = true := by rw [decide_eq_true_iff]; omega
    have d3 : (1 : Int) < ((g k).length : Int) := by omega
    have d4 : decide (1 < (g k).length) = true := by rw [decide_eq_true_iff]; omega
    have d5 : decide ((low : Int) < (((g k)[1]'h1).tm : Int)) = false := by rw [decide_eq_false_iff_not]; omega
    have d6 : decide (low < ((g k)[1]'h1).tm) = false := by rw [decide_eq_false_iff_not]; omega
    have hsl := hok.2
    have HGK := qh hgk
    have HV := qh hv
    clear h hv hc hok hri ha hz2 hst h2 hTok hgk
    generalize (g k)[1].tm = tm at *
    clear h1
    generalize hT : q0m (g k) low = T at *
    clear hT
    generalize hgl : (g k).length = n at *
    generalize hsz : q0z (g k) = sz at *
    generalize hTn : T.length = Tn at *
    generalize hTz : q0z T = Tz at *
    obtain ⟨dl, hdl⟩ : ∃ d, n - Tn = d := ⟨_, rfl⟩
    obtain ⟨V, hV⟩ : ∃ d, z.v - dl = d := ⟨_, rfl⟩
    obtain ⟨ds, hds⟩ : ∃ d, sz - Tz = d := ⟨_, rfl⟩
    obtain ⟨Bz, hBz⟩ : ∃ d, z.b - ds = d := ⟨_, rfl⟩
    have qa : (n : Int) - (Tn : Int) = (dl : Int) := by omega
    have qb : (z.v : Int) - (dl : Int) = (V : Int) := by omega
    have qc : (sz : Int) - (Tz : Int) = (ds : Int) := by omega
    have qd : (z.b : Int) - (ds : Int) = (Bz : Int) := by omega
    have b1 : z.v ≤ 1099511627776 := hzb.2.1
    have b2 : z.b ≤ 1099511627776 := hzb.2.2
    have b3 : z.k ≤ 1099511627776 := hzb.1
    have hdlb : dl ≤ 4294967296 := by omega
    have hdsb : ds ≤ 4294967296 := by omega
    have hTnb : Tn ≤ 4294967296 := by omega
    have hTzb : Tz ≤ 4294967296 := by omega
    have hVb : V ≤ 1099511627776 := by omega
    have hBzb : Bz ≤ 1099511627776 := by omega
    have HN1 := qh hgl
    have HN2 := qh hsz
    have HN3 := qh hTn
    have HN4 := qh hTz
    have HAr := qh (And.intro hdl (And.intro hV (And.intro hds (And.intro hBz (And.intro hz1 hz3)))))
    clear hgl hsz hTn hTz hdl hV hds hBz hzb
    unfold ptrS
    go_enter Tryz.func142, Tryz.ntmps142
    go_wp2_with fail
    refine HTrim.out.mono ?_
    rintro e w1 ⟨q, cT, ms, rfl, hms, hq, hown, hfar, hb1⟩
    have hh1 := HH.out.below hb1
    have c11 := hh1.sz1
    have f11 := hh1.frozen 11
    have HH1 := qh hh1
    have HB1 := qh hb1
    have HMs := qh hms
    have HQ := qh hq
    have HOwn := qh hown
    have HFar := qh hfar
    clear HTrim hh1 hb1 hms hq hown hfar
    rw [HN3.out] at HOwn ⊢
    obtain ⟨w2, hw2⟩ : ∃ y, w1.setCell ⟨p, 11, none⟩ (.int .i64 (V : Int)) = y := ⟨_, rfl⟩
    have hh2 : RawS w2 p F D B kv cv L m r v now g ks ⟨z.k, V, z.b⟩ := by rw [← hw2]; exact HH1.out.cellSet 11 _ rfl
    have hs2 : w2.heap.size = w1.heap.size := by rw [← hw2]; simp [World.setCell]
    have hk2 : ∀ b, b ≠ p → w2.heap[b]? = w1.heap[b]? := fun b hb => by rw [← hw2]; exact q0b hb _ _
    have hm2 : Mut F w1 w2 := by rw [← hw2]; exact q1U w1 HH.out.Fp 11 _
    have hqp : q ≠ p := fun e => by have := HH.out.lt p HH.out.Fp; have := HQ.out; omega
    have hown2 : OwnG 182 3 q1D w2 q (.slice (some ⟨q, 0, none⟩) Tn cT) ms := OwnG.keep HOwn.out (fun b hb _ => hk2 b (by simp only [Value.ownBlock, Option.some.injEq] at hb; omega)) (Nat.le_refl _)
    have hfar2 : ∀ x ∈ ms, q5v w2 (q + 1) w1.heap.size x := fun x hx => (HFar.out x hx).keep (fun b h1 h2 => hk2 b (by have := HH.out.lt p HH.out.Fp; have := HQ.out; omega)) (Nat.le_refl _)
    have HSz1 : Hid (∀ W, Below w2.heap.size w2 W → Calls Tryz.prog 205 #[.slice (some ⟨b, o, none⟩) n c] W fun e w' => e = .returned (.int .i64 (sz : Nat)) ∧ Below w2.heap.size w2 w') := qh fun W hb => by
      have hmv : RowH W W.heap.size (some ⟨b, o, none⟩) (g k) := by
        obtain ⟨A9, c9, e9, h9⟩ := ((hh2.below hb).ch k)
        rw [HV.out] at e9
        injection e9 with e9 _ _
        rw [e9]
        exact h9.2.2.2
      have h := q8w (g k) (some ⟨b, o, none⟩) c W.heap.size W (by rw [HN1.out]; omega) (by rw [HN2.out]; omega) hmv (Nat.le_refl _)
      rw [HN1.out, HN2.out] at h
      exact h.mono fun _ _ q => ⟨q.1, hb.trans (q.2.mono hb.size)⟩
    have HSz2 : Hid (∀ W, Below w2.heap.size w2 W → Calls Tryz.prog 205 #[.slice (some ⟨q, 0, none⟩) Tn cT] W fun e w' => e = .returned (.int .i64 (Tz : Nat)) ∧ Below w2.heap.size w2 w') := qh fun W hb => by
      have hrow : RowH W w2.heap.size (some ⟨q, 0, none⟩) T := by
        obtain ⟨A9, c9, e9, _, _, _, k4⟩ := hown2.form
        injection e9 with e9 _ _
        rw [← e9] at k4
        exact RowH.below ⟨ms, HMs.out, k4.wide (Nat.zero_le _) (Nat.le_refl _), fun x hx => (by rw [hs2]; exact (hfar2 x hx).ok)⟩ hb (Nat.le_refl _) (Nat.le_refl _)
      have h := q8w T (some ⟨q, 0, none⟩) cT w2.heap.size W (by rw [HN3.out]; omega) (by rw [HN4.out]; omega) hrow hb.size
      rw [HN3.out, HN4.out] at h
      exact h.mono fun _ _ q => ⟨q.1, hb.trans (q.2.mono hb.size)⟩
    have KEEP : Hid (∀ W, Below w2.heap.size w2 W → W.cell? ⟨p, 12, none⟩ = some (.int .i64 (z.b : Int))) := qh fun W hb => (hh2.below hb).sz2
    have HH2 := qh hh2
    have HS2 := qh hs2
    have HK2 := qh hk2
    have HM2 := qh hm2
    have HOwn2 := qh hown2
    have HFar2 := qh hfar2
    have HW2 := qh hw2
    clear hh2 hs2 hk2 hm2 hown2 hfar2 hw2 HOwn HFar HH1
    go_upto_region 4 with fail
    rw [HW2.out]
    clear HW2 c11 f11
    refine q1E (C := fun W => Below w2.heap.size w2 W) 11 (by kernel_rfl) (by kernel_rfl) (Below.refl _ _).drew ?_
    simp only [List.take_succ_cons, List.take_zero, List.drop_succ_cons, List.drop_zero]
    repeat (
      refine no_implicit_lambda% (wpQuiet_step ?_)
      intro K hK
      go_simp
      first
      | (refine no_implicit_lambda% (hK _ ?_); clear hK K)
      | (apply Exists.intro
         refine ⟨fun _ => ?_, hK _ ?_⟩
         (first
           | (intro _; with_reducible rfl)
           | (intro hw; with_reducible exact HSz1.out _ hw)
           | (intro hw; with_reducible exact HSz2.out _ hw)
           | (intro hw; have g0 := KEEP.out _ hw; go_simp; with_reducible exact ⟨rfl, rfl⟩)
           | (intro hw; have g0 := KEEP.out _ hw; go_simp; with_reducible rfl))
         clear hK K))
    refine wpQuiet_nil ?_
    intro w8 hb8
    have hh8 := HH2.out.below hb8
    have k8 := hh8.sz2
    have f8 := hh8.frozen 12
    obtain ⟨w9, hw9⟩ : ∃ y, w8.setCell ⟨p, 12, none⟩ (.int .i64 (Bz : Int)) = y := ⟨_, rfl⟩
    have hh9 : RawS w9 p F D B kv cv L m r v now g ks ⟨z.k, V, Bz⟩ := by rw [← hw9]; exact hh8.cellSet 12 _ rfl
    have hk9 : ∀ b, b < w2.heap.size → b ≠ p → w9.heap[b]? = w2.heap[b]? := fun b hb hne => by rw [← hw9, q0b hne]; exact hb8.block b hb
    have hs9 : w2.heap.size ≤ w9.heap.size := by rw [← hw9]; simpa [World.setCell] using hb8.size
    have hm9 : Mut F w w9 := ((Below.mut HB1.out F).trans HM2.out (fun _ h => .inl h)).trans ((Below.mut hb8 F).trans (by rw [← hw9]; exact q1U w8 HH.out.Fp 12 _) (fun _ h => .inl h)) (fun _ h => .inl h)
    have hown9 : OwnG 182 3 q1D w9 q (.slice (some ⟨q, 0, none⟩) Tn cT) ms := OwnG.keep HOwn2.out (fun b hb hlt => by
      simp only [Value.ownBlock, Option.some.injEq] at hb
      subst hb
      exact hk9 q hlt (fun e => by have := HH.out.lt p HH.out.Fp; have := HQ.out; omega)) (Nat.le_refl _)
    have hsize1 := HB1.out.size
    have hfar9 : ∀ x ∈ ms, q5v w9 (q + 1) w1.heap.size x := fun x hx => (HFar2.out x hx).keep (fun b h1 h2 => hk9 b (by rw [HS2.out]; exact h2) (fun e => by have := HH.out.lt p HH.out.Fp; have := HQ.out; omega)) (Nat.le_refl _)
    have hqlt : q < w2.heap.size := (HOwn2.out.lt q rfl).2
    have HH9 := qh hh9
    have HM9 := qh hm9
    have HOwn9 := qh hown9
    have HFar9 := qh hfar9
    have HS9 := qh hs9
    have HQlt := qh hqlt
    have HW9 := qh hw9
    have c8' := hh9.map_
    have e10 := hh9.sz0
    have g10 := hh9.frozen 10
    have e12 := hh9.sz2
    have g12 := hh9.frozen 12
    clear hh8 hb8 hw9 hh9 hk9 hs9 hm9 hown9 hfar9 hsize1 hqlt HOwn2 HFar2 HK2 HSz1 HSz2 KEEP
    by_cases hT0 : T = []
    · have hTn0 : Tn = 0 := by rw [← HN3.out, hT0]; rfl
      have hTz0 : Tz = 0 := by rw [← HN4.out, hT0]; rfl
      have d9 : decide ((0 : Int) < (Tn : Int)) = false := by rw [decide_eq_false_iff_not]; omega
      obtain ⟨w10, hdel, hmp, hgr, hsz10⟩ := MapS.drop (P := Tryz.prog) (ty := 0) (t2 := 9) HH9.out.map Tryz.underlying162 Tryz.underlying9 k
      unfold keyV at hdel
      have hh10 : RawS w10 p F D B kv cv L m r v now (updG g k []) ks ⟨z.k, V, Bz⟩ := HH9.out.dropC (by rw [qdE]; exact hmp) hgr.size (fun b hb hne => hgr.block b (HH9.out.lt b hb) (fun e => hne (by injection e)))
      obtain ⟨K1, hK1⟩ : ∃ d, z.k - 1 = d := ⟨_, rfl⟩
      obtain ⟨B2, hB2⟩ : ∃ d, Bz - k.length = d := ⟨_, rfl⟩
      have har := HAr.out
      have qe : (z.k : Int) - 1 = (K1 : Int) := by omega
      have qf : (Bz : Int) - ((bs k).size : Int) = (B2 : Int) := by rw [q20]; omega
      have hksz : (bs k).size ≤ 1048576 := by rw [q20]; exact hkl
      have j10 := hh10.sz0
      have l10 := hh10.frozen 10
      have j12 := hh10.sz2
      have l12 := hh10.frozen 12
      have hfin : RawS ((w10.setCell ⟨p, 10, none⟩ (.int .i64 (K1 : Int))).setCell ⟨p, 12, none⟩ (.int .i64 (B2 : Int))) p F D B kv cv L m r v now (updG g k []) ks ⟨K1, V, B2⟩ := (hh10.cellSet (z' := ⟨K1, V, Bz⟩) 10 _ rfl).cellSet 12 _ rfl
      have hmfin : Mut F w ((w10.setCell ⟨p, 10, none⟩ (.int .i64 (K1 : Int))).setCell ⟨p, 12, none⟩ (.int .i64 (B2 : Int))) := ((HM9.out.trans (q6u hgr HH.out.FB) (fun _ h => .inl h)).trans (q1U w10 HH.out.Fp 10 _) (fun _ h => .inl h)).trans (q1U _ HH.out.Fp 12 _) (fun _ h => .inl h)
      have HQ9 := qh (show RetT w p F B kv L m r v now (updG g k T) ks (q41 z k (g k) T) (.returned (.tuple #[])) ((w10.setCell ⟨p, 10, none⟩ (.int .i64 (K1 : Int))).setCell ⟨p, 12, none⟩ (.int .i64 (B2 : Int))) from by
        refine ⟨rfl, F, D, cv, ?_, hmfin, fun _ h => .inl h⟩
        have e : q41 z k (g k) T = ⟨K1, V, B2⟩ := by
          rw [HTZ.out, Sz.mk.injEq]
          have e1 : m1 k T = 0 := if_pos hT0
          have e3 : m3 k T = 0 := if_pos hT0
          rw [e1, e3]
          omega
        rw [e, hT0]
        exact hfin)
      have HDel := qh hdel
      clear hmp hgr hsz10 hh10 hfin hmfin har hdel hK1 hB2
      go_upto_region 5 with fail
      rw [qd, HW9.out]
      clear HW9 k8 f8
      have hdel := HDel.out
      generalize RetT w p F B kv L m r v now (updG g k T) ks (q41 z k (g k) T) = R at *
      clear hT0
      go_wp2
      refine bodyPost_ret (v := .tuple #[]) (by simp [results, Tryz.results142, go_sem]) rfl ?_
      exact HQ9.out
    · have hTp : 0 < Tn := by rw [← HN3.out]; exact List.length_pos_iff.2 hT0
      have d9 : decide ((0 : Int) < (Tn : Int)) = true := by rw [decide_eq_true_iff]; omega
      have d10 : decide (0 < Tn) = true := by rw [decide_eq_true_iff]; omega
      obtain ⟨w10, hupd, hmp, hgr, hsz10⟩ := MapS.store (P := Tryz.prog) HH9.out.map Tryz.underlying162 Tryz.underlying9 k (.slice (some ⟨q, 0, none⟩) Tn cT)
      unfold keyV at hupd
      have hlow : ∀ b, F b → b < w.heap.size := HH.out.lt
      have hqw := HQ.out
      have hs1 := HB1.out.size
      have hs2 := HS2.out
      have hs9 := HS9.out
      have hql := HQlt.out
      have hkp : ∀ b, w.heap.size ≤ b → b < w9.heap.size → w10.heap[b]? = w9.heap[b]? := fun b h1 h2 => hgr.block b h2 fun e => by
        injection e with e
        have := hlow B HH.out.FB
        omega
      have hown10 : OwnG 182 3 q1D w10 0 (.slice (some ⟨q, 0, none⟩) Tn cT) ms := OwnG.keep HOwn9.out (fun b hb hlt => by
        simp only [Value.ownBlock, Option.some.injEq] at hb
        subst hb
        exact hkp q hqw hlt) (Nat.zero_le _)
      have hfin : RawS w10 p (fun b => F b ∨ (w.heap.size ≤ b ∧ b < w10.heap.size)) (fun b => D b ∨ (q + 1 ≤ b ∧ b < w1.heap.size)) B kv (updC cv k (.slice (some ⟨q, 0, none⟩) Tn cT)) L m r v now (updG g k T) ks ⟨z.k, V, Bz⟩ := by
        refine HH9.out.putC (N := fun b => w.heap.size ≤ b ∧ b < w10.heap.size) (fun b hb => ⟨fun hf => by have := hlow b hf; omega, hb.2⟩) hT0 (by rw [q7R hT0]; exact hmp) ⟨ms, HMs.out, hown10, fun x hx => ?_⟩ hgr.size (fun b hb => .inl hb) (fun b hb => ?_) (fun b hb => ?_) (fun b hb hne _ => hgr.block b (HH9.out.lt b hb) (fun e => hne (by injection e)))
        · exact ((HFar9.out x hx).keep (fun b h1 h2 => hkp b (by omega) (by omega)) (Nat.le_refl _)).okD fun b h1 h2 => .inr ⟨h1, h2⟩
        · rcases hb with h1 | ⟨h1, h2⟩
          · exact .inl h1
          · exact .inr ⟨by omega, by omega⟩
        · simp only [Value.ownBlock, Option.some.injEq] at hb
          subst hb
          refine ⟨.inl ⟨hqw, by omega⟩, fun hd => ?_⟩
          rcases hd with h1 | ⟨h1, _⟩
          · have := hlow q (HH.out.FD q h1)
            omega
          · omega
      have HQ9 := qh (show RetT w p F B kv L m r v now (updG g k T) ks (q41 z k (g k) T) (.returned (.tuple #[])) w10 from by
        refine ⟨rfl, (fun b => F b ∨ (w.heap.size ≤ b ∧ b < w10.heap.size)), (fun b => D b ∨ (q + 1 ≤ b ∧ b < w1.heap.size)), (updC cv k (.slice (some ⟨q, 0, none⟩) Tn cT)), ?_, HM9.out.trans (q6u hgr HH.out.FB) (fun _ h => .inl h), fun b hb => Or.imp id And.left hb⟩
        have e : q41 z k (g k) T = ⟨z.k, V, Bz⟩ := by
          have har := HAr.out
          rw [HTZ.out, Sz.mk.injEq, qdz hT0, qdA hT0, HN4.out]
          omega
        rw [e]
        exact hfin)
      have HUpd := qh hupd
      clear hmp hgr hsz10 hfin hown10 hkp hupd hlow hqw hs1 hs2 hs9 hql
      go_upto_region 5 with fail
      rw [qd, HW9.out]
      clear HW9 k8 f8
      have hupd := HUpd.out
      generalize RetT w p F B kv L m r v now (updG g k T) ks (q41 z k (g k) T) = R at *
      clear hT0
      go_wp2
      refine bodyPost_ret (v := .tuple #[]) (by simp [results, Tryz.results142, go_sem]) rfl ?_
      exact HQ9.out
end
end Go.Proofs.YtdpbllacfljmoaaGreat
