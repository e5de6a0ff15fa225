import Derived.StillTail
import Derived.Deep.Quiet
import Derived.Test.YtdpbllacfljmoaaGreatZD14
import Derived.Test.YtdpbllacfljmoaaGreatZD15
import Derived.Test.YtdpbllacfljmoaaGreatZD04
set_option maxRecDepth 100000
set_option maxHeartbeats 16000000
set_option linter.unusedVariables false
namespace Go.Proofs.YtdpbllacfljmoaaGreat
open Go
section
variable {P : Program} {ops : Array Oper} {md : Region.Mode} {C : World → Prop}
def qcS (P : Program) (md : Region.Mode) (ops : Array Oper) (C : World → Prop) (L : Array Bool → Act → Prop) : Nat → Array Bool → Act → Prop
 | 0, listed, a => L listed a
 | f + 1, listed, a => Region.ready md ops listed ≠ [] ∧ ∀ i ∈ Region.ready md ops listed, qOp P ops C i (qcS P md ops C L f (listed.setIfInBounds i true)) a
theorem q9b {g : Nat} {L : Array Bool → Act → Prop} {Q : Exit → Act → World → Prop} (hL : ∀ listed a w, C w → L listed a → wpAny P md ops Q g listed a w) (f : Nat) :
  ∀ (listed : Array Bool) (a : Act) (w : World), C w → qcS P md ops C L f listed a → wpAny P md ops Q (f + g) listed a w := by
 induction f with
 | zero => intro listed a w hw h; rw [Nat.zero_add]; exact hL _ _ _ hw h
 | succ f ih =>
  intro listed a w hw h
  rw [show f + 1 + g = (f + g) + 1 by omega]
  exact ⟨fun e => absurd e h.1, fun i hi => wpOp_of_qOp hw (fun a' w' hw' hh => ih _ a' w' hw' hh) (h.2 i hi)⟩
theorem qbs {n i : Nat} {oi : Oper} {v : Value} {L : Array Bool → Act → Prop} (hoi : ops[i]? = some oi) (hsel : ∀ (j : Nat) (o : Oper) cs b, ops[j]? = some o → o.op ≠ .select cs b)
  (hs : Region.sinkB md ops n = true) (hc : Region.chainB md ops n = true) (hn : n < ops.size) (hin : i < n) (hdone : ∀ listed a, L listed a → ∀ j ∈ Region.ready md ops listed, n ≤ j) (f : Nat) :
  ∀ (listed : Array Bool) (a : Act), HeadInv md ops n listed →
   (∀ j oj, ops[j]? = some oj → j ≠ i → listed.getD j true = false → (∀ e ∈ oj.after, Region.binds md e = true → e.on ≠ i) → oi.apart ops oj = true) →
   i ∈ Region.ready md ops listed → YieldsIn P ops C oi v a → qcS P md ops C L f (listed.setIfInBounds i true) (a.put oi.dst v) → qcS P md ops C L (f + 1) listed a := by
 induction f with
 | zero =>
  intro listed a inv hfree hr hy H
  refine ⟨fun e => (by rw [e] at hr; cases hr), fun j hj => ?_⟩
  by_cases e : j = i
  ·subst e; exact hy.qOp hoi H
  ·have h1 := hdone _ _ H j (ready_mono hj e)
   exact absurd hj (tail_waits hs hc hn inv _ i rfl hin (mem_ready.1 hr).1 j h1)
 | succ f ih =>
  intro listed a inv hfree hr hy H
  refine ⟨fun e => (by rw [e] at hr; cases hr), fun j hj => ?_⟩
  by_cases e : j = i
  ·subst e; exact hy.qOp hoi H
  ·have hu := (mem_ready.1 hr).1
   have hjn : j < n := by
    by_cases h : j < n
    ·exact h
    ·exact absurd hj (tail_waits hs hc hn inv _ i rfl hin hu j (by omega))
   obtain ⟨hjun, oj, hoj, hall⟩ := mem_ready.1 hj
   have hnot : ∀ x ∈ oj.after, Region.binds md x = true → x.on ≠ i := fun x hx hb heq => by
    have h1 := hall x hx hb
    rw [heq, getD_both hu] at h1
    cases h1
   have h2 := qOp_put hoj (hfree j oj hoj e hjun hnot) (fun cs b => hsel i oi cs b hoi) (fun cs b => hsel j oj cs b hoj) hy (H.2 j (ready_mono hj e))
   refine qOp_mono (fun a' h3 => ih _ a' (inv.set hj hjn) (fun k ok hk hki hun hno => hfree k ok hk hki ?_ hno) (ready_mono hr (Ne.symm e)) h3.1 ?_) h2
   ·by_cases hjk : j = k
    ·subst hjk; exact hjun
    ·rwa [getD_set_ne true hjk] at hun
   ·rw [Array.setIfInBounds_comm _ _ e]
    exact h3.2
theorem qex {n g : Nat} {Lq : Act → Prop} (hsel : Region.noSelect ops = true) (hs : Region.sinkB md ops n = true) (hc : Region.chainB md ops n = true) (hn : n < ops.size) (l : List Oper) :
  ∀ (k : Nat) (listed : Array Bool) (a : Act), (∀ j, j < l.length → l[j]? = ops[k + j]?) → k + l.length = n → HeadInv md ops n listed → Region.lexHead md ops g l.length k listed = true → wpQuiet P ops C Lq l a →
   qcS P md ops C (fun listed' a' => Region.seqB md ops g n listed' = true ∧ Lq a') l.length listed a := by
 induction l with
 | nil =>
  intro k listed a _ hk _ hB h
  have e : k = n := by simpa using hk
  subst e
  exact ⟨by simpa [Region.lexHead] using hB, h⟩
 | cons o l ih =>
  intro k listed a hl hk inv hB h
  have h0 : ops[k]? = some o := by simpa using (hl 0 (by simp)).symm
  simp only [List.length_cons, Region.lexHead, Bool.and_eq_true] at hB hk
  have hkn : k < n := by omega
  have hr : k ∈ Region.ready md ops listed := by simpa using hB.1.1
  have hq : qOp P ops C k (wpQuiet P ops C Lq l) a := by unfold qOp; simp only [h0]; exact h
  obtain ⟨v, hy, hK⟩ := yieldsIn_of_qOp h0 hq
  exact qbs h0 (Region.noSelect_spec hsel) hs hc hn hkn (fun _ _ hL => seqB_ready hL.1) l.length listed a inv (Region.free_spec h0 hB.1.2) hr hy
   (ih (k + 1) _ _ (fun j hj => by have := hl (j + 1) (by simp; omega); simpa [Nat.add_assoc, Nat.add_comm 1 j] using this) (by omega) (inv.set hr hkn) hB.2 hK)
theorem q1v {id : Nat} {Q : Exit → Act → World → Prop} {a : Act} {w : World} {l : List Oper} (n : Nat) (hm : P.follows .mixedOrders = true) (hB : Region.lexTailB .any l.toArray n = true) (hC : C w.drew)
  (h : wpQuiet P l.toArray C (fun a' => ∀ w', C w' → wpList P l.toArray Q (l.drop n) a' w') (l.take n) a) : (Code.region id l.toArray true).wp P Q a w := by
 simp only [Region.lexTailB, Bool.and_eq_true, decide_eq_true_eq] at hB
 obtain ⟨⟨⟨⟨hsel, hn⟩, hs⟩, hc⟩, hlex⟩ := hB
 have hn' : n < l.length := by simpa using hn
 have htl : (l.take n).length = n := by simp; omega
 have hdl : (l.drop n).length = l.toArray.size - n := by simp
 have inv : HeadInv .any l.toArray n (Array.replicate l.toArray.size false) :=
  ⟨by simp, fun j oj _ hl => (by rw [getD_replicate_false] at hl; cases hl), fun t _ ht => getD_in (by simpa using ht) (getD_replicate_false _ _)⟩
 have H := qex (C := C) (P := P) (g := l.toArray.size - n) hsel hs hc hn (l.take n) 0 _ a (fun j hj => by
  have hj' : j < n := by rw [htl] at hj; exact hj
  simp [hj']) (by simpa using htl) inv (by rw [htl]; exact hlex) h
 have H2 := q9b (Q := Q) (g := l.toArray.size - n) (fun listed a' w' hw' hL => by
  have := wpAny_of_seq (md := .any) (Q' := Q) (l.drop n) n listed a' w' (fun j => by simp [List.getElem?_drop]) (by rw [hdl]; exact hL.1) (hL.2 w' hw')
  rwa [hdl] at this) _ _ _ _ hC H
 rw [htl, show n + (l.toArray.size - n) = l.toArray.size by omega] at H2
 exact wp_region_any hm H2
end
open Go.RowKit
def updG (g : KeyS → List Ver) (k : KeyS) (l : List Ver) : KeyS → List Ver := fun x => if x = k then l else g x
theorem q2i (g : KeyS → List Ver) (k : KeyS) (l : List Ver) : updG g k l k = l := if_pos rfl
theorem q1X {g : KeyS → List Ver} {k x : KeyS} (l : List Ver) (h : x ≠ k) : updG g k l x = g x := if_neg h
theorem qdY (g : KeyS → List Ver) (k : KeyS) : updG g k (g k) = g := funext fun x => by
 by_cases h : x = k
 ·subst h; exact q2i _ _ _
 ·exact q1X _ h
def q3V (z : Sz) (k : KeyS) (l l' : List Ver) : Sz := ⟨z.k + m1 k l' - m1 k l, z.v + m2 k l' - m2 k l, z.b + m3 k l' - m3 k l⟩
theorem qbX (z : Sz) (k : KeyS) (l : List Ver) : q3V z k l l = z := by
 unfold q3V
 obtain ⟨a, b, c⟩ := z
 simp
theorem q4Q {a : KsS} (hf : q29 a) (b : KsS) (k : KeyS) : q03 (a ++ b) k = if (q03 a k).isEmpty = true then q03 b k else q03 a k := by
 induction a with
 | nil => rfl
 | cons x a ih =>
  rw [List.cons_append, q0q, q0q]
  by_cases e : x.1 = k
  ·rw [if_pos e, if_pos e, if_neg]
   have := hf x (List.mem_cons_self ..)
   simpa using this
  ·rw [if_neg e, if_neg e]
   exact ih fun y hy => hf y (List.mem_cons_of_mem _ hy)
def upT (K : KsS) (low j : Nat) : KsS := q07 (K.take j) low ++ K.drop j
section
variable {K : KsS} {low j : Nat}
theorem qb1 : upT K low 0 = K := by unfold upT; simp [q07]
theorem qfS : upT K low K.length = q07 K low := by unfold upT; simp
theorem q9i {x : KeyS × List Ver} (h : x ∈ q07 (K.take j) low) : ∃ y ∈ K.take j, y.1 = x.1 := by
 obtain ⟨y, hy, e, _⟩ := q1J.1 h
 exact ⟨y, hy, by rw [e]⟩
theorem qaa (h : q0D K) {y x : KeyS × List Ver} (hy : y ∈ K.take j) (hx : x ∈ K.drop j) : blt y.1 x.1 = true := by
 have h2 : q0D (K.take j ++ K.drop j) := by rw [List.take_append_drop]; exact h
 exact (List.pairwise_append.1 h2).2.2 y hy x hx
theorem qaZ (h : q0D K) : q0D (upT K low j) := by
 unfold upT q0D
 rw [List.pairwise_append]
 refine ⟨q0O (List.Pairwise.sublist (List.take_sublist _ _) h) low, List.Pairwise.sublist (List.drop_sublist _ _) h, fun x hx y hy => ?_⟩
 obtain ⟨u, hu, e⟩ := q9i hx
 rw [← e]
 exact qaa h hu hy
theorem q3U (hf : q29 K) : q29 (upT K low j) := fun x hx => by
 rcases List.mem_append.1 hx with h1 | h1
 ·exact q1g _ _ x h1
 ·exact hf x (List.mem_of_mem_drop h1)
theorem q3K (hj : j < K.length) : upT K low j = q07 (K.take j) low ++ (K[j]'hj) :: K.drop (j + 1) := by
 unfold upT
 rw [List.drop_eq_getElem_cons hj]
theorem q59 (hj : j < K.length) : q07 (K.take (j + 1)) low = q07 (K.take j) low ++ (q3J low (K[j]'hj)).toList := by
 unfold q07
 rw [List.take_succ_eq_append_getElem hj, List.filterMap_append]
 congr 1
theorem q7d (hj : j < K.length) : upT K low (j + 1) = q07 (K.take j) low ++ ((q3J low (K[j]'hj)).toList ++ K.drop (j + 1)) := by
 unfold upT
 rw [q59 hj, List.append_assoc]
theorem q6v (x : KeyS × List Ver) : (q3J low x).toList = if (q0p x.2 low).isEmpty = true then [] else [(x.1, q0p x.2 low)] := by
 unfold q3J
 split <;> rfl
theorem qdW (h : q0D K) (hj : j < K.length) : q03 (upT K low j) (K[j]'hj).1 = (K[j]'hj).2 :=
 q0G (qaZ h) (by rw [q3K hj]; exact List.mem_append_right _ (List.mem_cons_self ..))
theorem qb0 (h : q0D K) (hj : j < K.length) : q03 (upT K low (j + 1)) = updG (q03 (upT K low j)) (K[j]'hj).1 (q0p (K[j]'hj).2 low) := funext fun k => by
 have hs : q0D (upT K low j) := qaZ h
 rw [q3K hj] at hs ⊢
 rw [q7d hj, q4Q (q1g _ _), q6v]
 obtain ⟨_, h2, h3⟩ := List.pairwise_append.1 hs
 have hb := (List.pairwise_cons.1 h2).1
 have hdrop : q03 (K.drop (j + 1)) (K[j]'hj).1 = [] := q2z fun x hx => fun e => q1f (hb x hx) e.symm
 have ha : q03 (q07 (K.take j) low) (K[j]'hj).1 = [] := q2z fun x hx => q1f (h3 x hx _ (List.mem_cons_self ..))
 by_cases e : k = (K[j]'hj).1
 ·rw [e, q2i, ha, if_pos (show ([] : List Ver).isEmpty = true from rfl)]
  by_cases ht : (q0p (K[j]'hj).2 low).isEmpty = true
  ·rw [if_pos ht, List.nil_append, hdrop]
   exact (List.isEmpty_iff.1 ht).symm
  ·rw [if_neg ht, List.singleton_append, q0q, if_pos rfl]
 ·rw [q1X _ e, q4Q (q1g _ _)]
  have e2 : q03 ((K[j]'hj) :: K.drop (j + 1)) k = q03 (K.drop (j + 1)) k := by rw [q0q, if_neg (fun e3 => e e3.symm)]
  have e4 : q03 ((if (q0p (K[j]'hj).2 low).isEmpty = true then [] else [((K[j]'hj).1, q0p (K[j]'hj).2 low)]) ++ K.drop (j + 1)) k = q03 (K.drop (j + 1)) k := by
   split
   ·rfl
   ·rw [List.singleton_append, q0q, if_neg (fun e3 => e e3.symm)]
  rw [e2, e4]
theorem q7P {m : KeyS → List Ver → Nat} (h0 : ∀ k, m k [] = 0) (hj : j < K.length) : sumS m (upT K low (j + 1)) + m (K[j]'hj).1 (K[j]'hj).2 = sumS m (upT K low j) + m (K[j]'hj).1 (q0p (K[j]'hj).2 low) := by
 rw [q3K hj, q7d hj, q5z, q5z, q5z, q2H, q6v]
 split
 ·next ht =>
  rw [List.isEmpty_iff.1 ht, h0]
  simp only [sumS, List.map_nil, List.sum_nil]
  omega
 ·simp only [sumS, List.map_cons, List.map_nil, List.sum_cons, List.sum_nil]
  omega
theorem qfa (hf : q29 K) (hj : j < K.length) : szS (upT K low (j + 1)) = q3V (szS (upT K low j)) (K[j]'hj).1 (K[j]'hj).2 (q0p (K[j]'hj).2 low) := by
 have s1 := q7P (low := low) q3Y.1 hj
 have s2 := q7P (low := low) q3Y.2.1 hj
 have s3 := q7P (low := low) q3Y.2.2 hj
 have e1 := q4c (q3U (low := low) (j := j + 1) hf)
 have e2 := q2v (upT K low (j + 1))
 have e3 := q3a (q3U (low := low) (j := j + 1) hf)
 have d1 := q4c (q3U (low := low) (j := j) hf)
 have d2 := q2v (upT K low j)
 have d3 := q3a (q3U (low := low) (j := j) hf)
 simp only [szS, q3V, Sz.mk.injEq]
 omega
theorem qgl (hf : q29 K) (hj : j < K.length) : m1 (K[j]'hj).1 (K[j]'hj).2 ≤ (szS (upT K low j)).k ∧ m2 (K[j]'hj).1 (K[j]'hj).2 ≤ (szS (upT K low j)).v ∧ m3 (K[j]'hj).1 (K[j]'hj).2 ≤ (szS (upT K low j)).b := by
 have d1 := q4c (q3U (low := low) (j := j) hf)
 have d2 := q2v (upT K low j)
 have d3 := q3a (q3U (low := low) (j := j) hf)
 rw [q3K hj, q5z, q2H] at d1 d2 d3
 rw [← q3K hj] at d1 d2 d3
 unfold szS
 simp only
 omega
theorem q94 (hf : q29 K) : ∀ (j : Nat), j ≤ K.length → (szS (upT K low j)).k ≤ K.length ∧ (szS (upT K low j)).v ≤ q1l K ∧ (szS (upT K low j)).b ≤ q39 K
 | 0, _ => by rw [qb1]; exact ⟨Nat.le_refl _, Nat.le_refl _, Nat.le_refl _⟩
 | j + 1, hj => by
  have ih := q94 hf j (by omega)
  have hm := qd9 (K[j]'(by omega)).1 (K[j]'(by omega)).2 low
  rw [qfa hf (by omega)]
  unfold q3V
  simp only
  omega
theorem qf1 (hj : j < K.length) : (q07 (K.take (j + 1)) low).map Prod.fst = (q07 (K.take j) low).map Prod.fst ++ (if (q0p (K[j]'hj).2 low).isEmpty = true then [] else [(K[j]'hj).1]) := by
 rw [q59 hj, List.map_append, q6v]
 split <;> rfl
theorem q9j (K : KsS) (low : Nat) : (q07 K low).length ≤ K.length := List.length_filterMap_le _ _
end
open Go.RowKit
def updC (cv : KeyS → Value) (k : KeyS) (v : Value) : KeyS → Value := fun x => if x = k then v else cv x
theorem q35 (cv : KeyS → Value) (k : KeyS) (v : Value) : updC cv k v k = v := if_pos rfl
theorem q4g {cv : KeyS → Value} {k x : KeyS} (v : Value) (h : x ≠ k) : updC cv k v x = cv x := if_neg h
theorem q7B {g : KeyS → List Ver} {cv : KeyS → Value} {k : KeyS} {l : List Ver} {v : Value} (hl : l ≠ []) : mapG (updG g k l) (updC cv k v) = updM (mapG g cv) k (some v) := funext fun x => by
 unfold mapG
 by_cases h : x = k
 ·subst h
  rw [q2i, q35, q36, if_neg (by simpa using hl)]
 ·rw [q1X _ h, q4g _ h, q53 _ h]
theorem qdc {g : KeyS → List Ver} {cv : KeyS → Value} {k : KeyS} : mapG (updG g k []) cv = updM (mapG g cv) k none := funext fun x => by
 unfold mapG
 by_cases h : x = k
 ·subst h
  rw [q2i, q36]
  rfl
 ·rw [q1X _ h, q53 _ h]
section
variable {w w' : World} {p : Nat} {F D : Nat → Prop} {B : Nat} {kv : Value} {cv : KeyS → Value} {L : LimS} {m r v : Int} {now : Nat} {g : KeyS → List Ver} {ks : List KeyS} {z : Sz}
theorem RawS.turn (h : RawS w p F D B kv cv L m r v now g ks z) {now' : Nat} {z' : Sz} (hb : w'.heap[p]? = some (.cells (boxS L m r v now' B kv z') 165 (0, 0))) (hk : ∀ b, b ≠ p → w'.heap[b]? = w.heap[b]?) (hs : w.heap.size ≤ w'.heap.size) :
  RawS w' p F D B kv cv L m r v now' g ks z' where
 box := hb
 map := h.map.keep (hk B (Ne.symm h.pB))
 keys := OwnG.keep h.keys (fun b hb _ => hk b (h.kvp b hb).1) (Nat.le_refl _)
 chain := fun k hg => (h.chain k hg).keep (fun b hb => hk b (fun e => h.Dp (e ▸ hb))) (fun _ hb => hb) (fun b hb => hk b (h.cvp k hg b hb).1)
 Fp := h.Fp
 FB := h.FB
 Fk := h.Fk
 Fc := h.Fc
 FD := h.FD
 lt := fun b hb => Nat.lt_of_lt_of_le (h.lt b hb) hs
 pB := h.pB
 kvp := h.kvp
 cvp := h.cvp
 apart := h.apart
 Dp := h.Dp
 DB := h.DB
theorem RawS.putC (h : RawS w p F D B kv cv L m r v now g ks z) {k : KeyS} {l : List Ver} {u : Value} {D' : Nat → Prop} {N : Nat → Prop} (hn : ∀ b, N b → ¬ F b ∧ b < w'.heap.size) (hl : l ≠ []) (hm : MapS w' B (mapG (updG g k l) (updC cv k u))) (hc : OwnC w' D' u l) (hs : w.heap.size ≤ w'.heap.size)
  (hd1 : ∀ b, D b → D' b) (hd2 : ∀ b, D' b → D b ∨ N b) (hu : ∀ b, u.ownBlock = some b → (N b ∨ (g k ≠ [] ∧ (cv k).ownBlock = some b)) ∧ ¬ D' b)
  (hk : ∀ b, F b → b ≠ B → (g k ≠ [] → (cv k).ownBlock ≠ some b) → w'.heap[b]? = w.heap[b]?) :
  RawS w' p (fun b => F b ∨ N b) D' B kv (updC cv k u) L m r v now (updG g k l) ks z := by
 have new : ∀ b, F b → ¬ N b := fun b hb h2 => (hn b h2).1 hb
 have hp : w'.heap[p]? = w.heap[p]? := hk p h.Fp h.pB fun hg e => (h.cvp k hg p e).1 rfl
 have hkeep : ∀ b, D b → w'.heap[b]? = w.heap[b]? := fun b hb => hk b (h.FD b hb) (fun e => h.DB (e ▸ hb)) fun hg e => (h.cvp k hg b e).2.2.1 hb
 have other : ∀ x, x ≠ k → ∀ {P : Prop}, (g x ≠ [] → P) → updG g k l x ≠ [] → P := fun x hx P hP hg => hP (by rw [q1X _ hx] at hg; exact hg)
 refine ⟨hp.trans h.box, hm, OwnG.keep h.keys (fun b hb _ => hk b (h.Fk b hb) (h.kvp b hb).2.1 fun hg e => (h.cvp k hg b e).2.2.2 hb) (Nat.le_refl _), fun x hg => ?_, .inl h.Fp, .inl h.FB, fun b hb => .inl (h.Fk b hb), fun x hg b hb => ?_, fun b hb => ?_, fun b hb => ?_, h.pB, fun b hb => ?_, fun x hg b hb => ?_, fun x y hx hy hne b hb => ?_, fun hd => ?_, fun hd => ?_⟩
 ·by_cases hx : x = k
  ·subst hx
   rw [q2i, q35]
   exact hc
  ·rw [q1X _ hx] at hg ⊢
   rw [q4g _ hx]
   exact (h.chain x hg).keep hkeep hd1 fun b hb => hk b (h.Fc x hg b hb) (h.cvp x hg b hb).2.1 fun hg2 e => h.apart x k hg hg2 hx b hb e
 ·by_cases hx : x = k
  ·subst hx
   rw [q35] at hb
   rcases (hu b hb).1 with h1 | ⟨h1, h2⟩
   ·exact .inr h1
   ·exact .inl (h.Fc x h1 b h2)
  ·rw [q1X _ hx] at hg
   rw [q4g _ hx] at hb
   exact .inl (h.Fc x hg b hb)
 ·rcases hd2 b hb with h1 | h1
  ·exact .inl (h.FD b h1)
  ·exact .inr h1
 ·rcases hb with h1 | h1
  ·exact Nat.lt_of_lt_of_le (h.lt b h1) hs
  ·exact (hn b h1).2
 ·refine ⟨(h.kvp b hb).1, (h.kvp b hb).2.1, fun hd => ?_⟩
  rcases hd2 b hd with h1 | h1
  ·exact (h.kvp b hb).2.2 h1
  ·exact new b (h.Fk b hb) h1
 ·by_cases hx : x = k
  ·subst hx
   rw [q35] at hb
   obtain ⟨h0, h9⟩ := hu b hb
   rcases h0 with h1 | ⟨h1, h2⟩
   ·exact ⟨fun e => new p h.Fp (e ▸ h1), fun e => new B h.FB (e ▸ h1), h9, fun e => new b (h.Fk b e) h1⟩
   ·obtain ⟨k1, k2, _, k4⟩ := h.cvp x h1 b h2
    exact ⟨k1, k2, h9, k4⟩
  ·rw [q1X _ hx] at hg
   rw [q4g _ hx] at hb
   obtain ⟨k1, k2, k3, k4⟩ := h.cvp x hg b hb
   refine ⟨k1, k2, fun hd => ?_, k4⟩
   rcases hd2 b hd with h1 | h1
   ·exact k3 h1
   ·exact new b (h.Fc x hg b hb) h1
 ·by_cases hxk : x = k
  ·subst hxk
   have hyk : y ≠ x := Ne.symm hne
   rw [q1X _ hyk] at hy
   rw [q35] at hb
   rw [q4g _ hyk]
   intro e
   rcases (hu b hb).1 with h1 | ⟨h1, h2⟩
   ·exact new b (h.Fc y hy b e) h1
   ·exact h.apart x y h1 hy hne b h2 e
  ·rw [q1X _ hxk] at hx
   rw [q4g _ hxk] at hb
   by_cases hyk : y = k
   ·subst hyk
    rw [q35]
    intro e
    rcases (hu b e).1 with h1 | ⟨h1, h2⟩
    ·exact new b (h.Fc x hx b hb) h1
    ·exact h.apart x y hx h1 hne b hb h2
   ·rw [q1X _ hyk] at hy
    rw [q4g _ hyk]
    exact h.apart x y hx hy hne b hb
 ·rcases hd2 p hd with h1 | h1
  ·exact h.Dp h1
  ·exact new p h.Fp h1
 ·rcases hd2 B hd with h1 | h1
  ·exact h.DB h1
  ·exact new B h.FB h1
theorem RawS.dropC (h : RawS w p F D B kv cv L m r v now g ks z) {k : KeyS} (hm : MapS w' B (mapG (updG g k []) cv)) (hs : w.heap.size ≤ w'.heap.size) (hk : ∀ b, F b → b ≠ B → w'.heap[b]? = w.heap[b]?) :
  RawS w' p F D B kv cv L m r v now (updG g k []) ks z := by
 have old : ∀ x, updG g k [] x ≠ [] → x ≠ k ∧ g x ≠ [] := fun x hx => by
  by_cases e : x = k
  ·subst e
   rw [q2i] at hx
   exact absurd rfl hx
  ·rw [q1X _ e] at hx
   exact ⟨e, hx⟩
 refine ⟨(hk p h.Fp h.pB).trans h.box, hm, OwnG.keep h.keys (fun b hb _ => hk b (h.Fk b hb) (h.kvp b hb).2.1) (Nat.le_refl _), fun x hg => ?_, h.Fp, h.FB, h.Fk, fun x hg => h.Fc x (old x hg).2, h.FD, fun b hb => Nat.lt_of_lt_of_le (h.lt b hb) hs, h.pB, h.kvp, fun x hg => h.cvp x (old x hg).2, fun x y hx hy => h.apart x y (old x hx).2 (old y hy).2, h.Dp, h.DB⟩
 obtain ⟨hx, hg2⟩ := old x hg
 rw [q1X _ hx]
 exact (h.chain x hg2).keep (fun b hb => hk b (h.FD b hb) fun e => h.DB (e ▸ hb)) (fun _ hb => hb) fun b hb => hk b (h.Fc x hg2 b hb) (h.cvp x hg2 b hb).2.1
def qfh (w : World) (p : Nat) (F : Nat → Prop) (B : Nat) (kv : Value) (L : LimS) (m r v : Int) (now : Nat) (g : KeyS → List Ver) (ks : List KeyS) (z : Sz) (w' : World) : Prop :=
 ∃ F' D' cv', RawS w' p F' D' B kv cv' L m r v now g ks z ∧ Mut F w w' ∧ ∀ b, F' b → F b ∨ w.heap.size ≤ b
end
end Go.Proofs.YtdpbllacfljmoaaGreat
