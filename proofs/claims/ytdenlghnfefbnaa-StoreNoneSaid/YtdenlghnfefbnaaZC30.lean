import Derived.StillTail
import Derived.Deep.Quiet
import Derived.Test.YtdenlghnfefbnaaZC27
/-
  A region that draws its order, its head quiet in a class of worlds, its tail in one forced order.
-/
namespace Go.Proofs.Ytdenlghnfefbnaa
open Go

section
variable {P : Program} {ops : Array Oper} {md : Region.Mode} {C : World → Prop}

/-- Whatever order the head takes: then L. -/
def headQ (P : Program) (md : Region.Mode) (ops : Array Oper) (C : World → Prop) (L : Array Bool → Act → Prop) : Nat → Array Bool → Act → Prop
  | 0, listed, a => L listed a
  | f + 1, listed, a => Region.ready md ops listed ≠ [] ∧ ∀ i ∈ Region.ready md ops listed, qOp P ops C i (headQ P md ops C L f (listed.setIfInBounds i true)) a

theorem any_of_head {g : Nat} {L : Array Bool → Act → Prop} {Q : Exit → Act → World → Prop} (hL : ∀ listed a w, C w → L listed a → wpAny P md ops Q g listed a w) (f : Nat) :
    ∀ (listed : Array Bool) (a : Act) (w : World), C w → headQ P md ops C L f listed a → wpAny P md ops Q (f + g) listed a w := by
  induction f with
  | zero => intro listed a w hw h; rw [Nat.zero_add]; exact hL _ _ _ hw h
  | succ f ih =>
    intro listed a w hw h
    rw [show f + 1 + g = (f + g) + 1 by omega]
    exact ⟨fun e => absurd e h.1, fun i hi => wpOp_of_qOp hw (fun a' w' hw' hh => ih _ a' w' hw' hh) (h.2 i hi)⟩

theorem head_first {n i : Nat} {oi : Oper} {v : Value} {L : Array Bool → Act → Prop} (hoi : ops[i]? = some oi) (hsel : ∀ (j : Nat) (o : Oper) cs b, ops[j]? = some o → o.op ≠ .select cs b)
    (hs : Region.sinkB md ops n = true) (hc : Region.chainB md ops n = true) (hn : n < ops.size) (hin : i < n) (hdone : ∀ listed a, L listed a → ∀ j ∈ Region.ready md ops listed, n ≤ j) (f : Nat) :
    ∀ (listed : Array Bool) (a : Act), HeadInv md ops n listed →
      (∀ j oj, ops[j]? = some oj → j ≠ i → listed.getD j true = false → (∀ e ∈ oj.after, Region.binds md e = true → e.on ≠ i) → oi.apart ops oj = true) →
      i ∈ Region.ready md ops listed → YieldsIn P ops C oi v a → headQ P md ops C L f (listed.setIfInBounds i true) (a.put oi.dst v) → headQ P md ops C L (f + 1) listed a := by
  induction f with
  | zero =>
    intro listed a inv hfree hr hy H
    refine ⟨fun e => (by rw [e] at hr; cases hr), fun j hj => ?_⟩
    by_cases e : j = i
    · subst e; exact hy.qOp hoi H
    · have h1 := hdone _ _ H j (ready_mono hj e)
      exact absurd hj (tail_waits hs hc hn inv _ i rfl hin (mem_ready.1 hr).1 j h1)
  | succ f ih =>
    intro listed a inv hfree hr hy H
    refine ⟨fun e => (by rw [e] at hr; cases hr), fun j hj => ?_⟩
    by_cases e : j = i
    · subst e; exact hy.qOp hoi H
    · have hu := (mem_ready.1 hr).1
      have hjn : j < n := by
        by_cases h : j < n
        · exact h
        · exact absurd hj (tail_waits hs hc hn inv _ i rfl hin hu j (by omega))
      obtain ⟨hjun, oj, hoj, hall⟩ := mem_ready.1 hj
      have hnot : ∀ x ∈ oj.after, Region.binds md x = true → x.on ≠ i := fun x hx hb heq => by
        have h1 := hall x hx hb
        rw [heq, getD_both hu] at h1
        cases h1
      have h2 := qOp_put hoj (hfree j oj hoj e hjun hnot) (fun cs b => hsel i oi cs b hoi) (fun cs b => hsel j oj cs b hoj) hy (H.2 j (ready_mono hj e))
      refine qOp_mono (fun a' h3 => ih _ a' (inv.set hj hjn) (fun k ok hk hki hun hno => hfree k ok hk hki ?_ hno) (ready_mono hr (Ne.symm e)) h3.1 ?_) h2
      · by_cases hjk : j = k
        · subst hjk; exact hjun
        · rwa [getD_set_ne true hjk] at hun
      · rw [Array.setIfInBounds_comm _ _ e]
        exact h3.2

theorem head_lex {n g : Nat} {Lq : Act → Prop} (hsel : Region.noSelect ops = true) (hs : Region.sinkB md ops n = true) (hc : Region.chainB md ops n = true) (hn : n < ops.size) (l : List Oper) :
    ∀ (k : Nat) (listed : Array Bool) (a : Act), (∀ j, j < l.length → l[j]? = ops[k + j]?) → k + l.length = n → HeadInv md ops n listed → Region.lexHead md ops g l.length k listed = true → wpQuiet P ops C Lq l a →
      headQ P md ops C (fun listed' a' => Region.seqB md ops g n listed' = true ∧ Lq a') l.length listed a := by
  induction l with
  | nil =>
    intro k listed a _ hk _ hB h
    have e : k = n := by simpa using hk
    subst e
    exact ⟨by simpa [Region.lexHead] using hB, h⟩
  | cons o l ih =>
    intro k listed a hl hk inv hB h
    have h0 : ops[k]? = some o := by simpa using (hl 0 (by simp)).symm
    simp only [List.length_cons, Region.lexHead, Bool.and_eq_true] at hB hk
    have hkn : k < n := by omega
    have hr : k ∈ Region.ready md ops listed := by simpa using hB.1.1
    have hq : qOp P ops C k (wpQuiet P ops C Lq l) a := by unfold qOp; simp only [h0]; exact h
    obtain ⟨v, hy, hK⟩ := yieldsIn_of_qOp h0 hq
    exact head_first h0 (Region.noSelect_spec hsel) hs hc hn hkn (fun _ _ hL => seqB_ready hL.1) l.length listed a inv (Region.free_spec h0 hB.1.2) hr hy
      (ih (k + 1) _ _ (fun j hj => by have := hl (j + 1) (by simp; omega); simpa [Nat.add_assoc, Nat.add_comm 1 j] using this) (by omega) (inv.set hr hkn) hB.2 hK)

/-- The head quiet in a class, walked once in the order of the text; the tail in any world of the class. -/
theorem wp_region_class_tail {id : Nat} {Q : Exit → Act → World → Prop} {a : Act} {w : World} {l : List Oper} (n : Nat) (hm : P.follows .mixedOrders = true) (hB : Region.lexTailB .any l.toArray n = true) (hC : C w.drew)
    (h : wpQuiet P l.toArray C (fun a' => ∀ w', C w' → wpList P l.toArray Q (l.drop n) a' w') (l.take n) a) : (Code.region id l.toArray true).wp P Q a w := by
  simp only [Region.lexTailB, Bool.and_eq_true, decide_eq_true_eq] at hB
  obtain ⟨⟨⟨⟨hsel, hn⟩, hs⟩, hc⟩, hlex⟩ := hB
  have hn' : n < l.length := by simpa using hn
  have htl : (l.take n).length = n := by simp; omega
  have hdl : (l.drop n).length = l.toArray.size - n := by simp
  have inv : HeadInv .any l.toArray n (Array.replicate l.toArray.size false) :=
    ⟨by simp, fun j oj _ hl => (by rw [getD_replicate_false] at hl; cases hl), fun t _ ht => getD_in (by simpa using ht) (getD_replicate_false _ _)⟩
  have H := head_lex (C := C) (P := P) (g := l.toArray.size - n) hsel hs hc hn (l.take n) 0 _ a (fun j hj => by
    have hj' : j < n := by rw [htl] at hj; exact hj
    simp [hj']) (by simpa using htl) inv (by rw [htl]; exact hlex) h
  have H2 := any_of_head (Q := Q) (g := l.toArray.size - n) (fun listed a' w' hw' hL => by
    have := wpAny_of_seq (md := .any) (Q' := Q) (l.drop n) n listed a' w' (fun j => by simp [List.getElem?_drop]) (by rw [hdl]; exact hL.1) (hL.2 w' hw')
    rwa [hdl] at this) _ _ _ _ hC H
  rw [htl, show n + (l.toArray.size - n) = l.toArray.size by omega] at H2
  exact wp_region_any hm H2
end
end Go.Proofs.Ytdenlghnfefbnaa

/-
  Collecting in plain words, key by key from the first one on.
-/
namespace Go.Proofs.Ytdenlghnfefbnaa
open Go.RowKit

def updG (g : KeyS → List Ver) (k : KeyS) (l : List Ver) : KeyS → List Ver := fun x => if x = k then l else g x
theorem updG_self (g : KeyS → List Ver) (k : KeyS) (l : List Ver) : updG g k l k = l := if_pos rfl
theorem updG_ne {g : KeyS → List Ver} {k x : KeyS} (l : List Ver) (h : x ≠ k) : updG g k l x = g x := if_neg h
theorem updG_same (g : KeyS → List Ver) (k : KeyS) : updG g k (g k) = g := funext fun x => by
  by_cases h : x = k
  · subst h; exact updG_self _ _ _
  · exact updG_ne _ h
def trimZ (z : Sz) (k : KeyS) (l l' : List Ver) : Sz := ⟨z.k + m1 k l' - m1 k l, z.v + m2 k l' - m2 k l, z.b + m3 k l' - m3 k l⟩
theorem trimZ_same (z : Sz) (k : KeyS) (l : List Ver) : trimZ z k l l = z := by
  unfold trimZ
  obtain ⟨a, b, c⟩ := z
  simp
theorem chainS_app {a : KsS} (hf : FullS a) (b : KsS) (k : KeyS) : chainS (a ++ b) k = if (chainS a k).isEmpty = true then chainS b k else chainS a k := by
  induction a with
  | nil => rfl
  | cons x a ih =>
    rw [List.cons_append, chainS_cons, chainS_cons]
    by_cases e : x.1 = k
    · rw [if_pos e, if_pos e, if_neg]
      have := hf x (List.mem_cons_self ..)
      simpa using this
    · rw [if_neg e, if_neg e]
      exact ih fun y hy => hf y (List.mem_cons_of_mem _ hy)
def upT (K : KsS) (low j : Nat) : KsS := collectS (K.take j) low ++ K.drop j
section
variable {K : KsS} {low j : Nat}
theorem upT_zero : upT K low 0 = K := by unfold upT; simp [collectS]
theorem upT_len : upT K low K.length = collectS K low := by unfold upT; simp
theorem collect_key {x : KeyS × List Ver} (h : x ∈ collectS (K.take j) low) : ∃ y ∈ K.take j, y.1 = x.1 := by
  obtain ⟨y, hy, e, _⟩ := mem_collect.1 h
  exact ⟨y, hy, by rw [e]⟩
theorem take_lt (h : SortS K) {y x : KeyS × List Ver} (hy : y ∈ K.take j) (hx : x ∈ K.drop j) : blt y.1 x.1 = true := by
  have h2 : SortS (K.take j ++ K.drop j) := by rw [List.take_append_drop]; exact h
  exact (List.pairwise_append.1 h2).2.2 y hy x hx
theorem upT_sort (h : SortS K) : SortS (upT K low j) := by
  unfold upT SortS
  rw [List.pairwise_append]
  refine ⟨sort_collect (List.Pairwise.sublist (List.take_sublist _ _) h) low, List.Pairwise.sublist (List.drop_sublist _ _) h, fun x hx y hy => ?_⟩
  obtain ⟨u, hu, e⟩ := collect_key hx
  rw [← e]
  exact take_lt h hu hy
theorem upT_full (hf : FullS K) : FullS (upT K low j) := fun x hx => by
  rcases List.mem_append.1 hx with h1 | h1
  · exact full_collect _ _ x h1
  · exact hf x (List.mem_of_mem_drop h1)
theorem upT_split (hj : j < K.length) : upT K low j = collectS (K.take j) low ++ (K[j]'hj) :: K.drop (j + 1) := by
  unfold upT
  rw [List.drop_eq_getElem_cons hj]
theorem collect_succ (hj : j < K.length) : collectS (K.take (j + 1)) low = collectS (K.take j) low ++ (trimOne low (K[j]'hj)).toList := by
  unfold collectS
  rw [List.take_succ_eq_append_getElem hj, List.filterMap_append]
  congr 1
theorem upT_split2 (hj : j < K.length) : upT K low (j + 1) = collectS (K.take j) low ++ ((trimOne low (K[j]'hj)).toList ++ K.drop (j + 1)) := by
  unfold upT
  rw [collect_succ hj, List.append_assoc]
theorem trim_list (x : KeyS × List Ver) : (trimOne low x).toList = if (trimH x.2 low).isEmpty = true then [] else [(x.1, trimH x.2 low)] := by
  unfold trimOne
  split <;> rfl
theorem upT_chain (h : SortS K) (hj : j < K.length) : chainS (upT K low j) (K[j]'hj).1 = (K[j]'hj).2 :=
  chainS_mem (upT_sort h) (by rw [upT_split hj]; exact List.mem_append_right _ (List.mem_cons_self ..))
theorem upT_succ (h : SortS K) (hj : j < K.length) : chainS (upT K low (j + 1)) = updG (chainS (upT K low j)) (K[j]'hj).1 (trimH (K[j]'hj).2 low) := funext fun k => by
  have hs : SortS (upT K low j) := upT_sort h
  rw [upT_split hj] at hs ⊢
  rw [upT_split2 hj, chainS_app (full_collect _ _), trim_list]
  obtain ⟨_, h2, h3⟩ := List.pairwise_append.1 hs
  have hb := (List.pairwise_cons.1 h2).1
  have hdrop : chainS (K.drop (j + 1)) (K[j]'hj).1 = [] := chainS_no fun x hx => fun e => blt_ne (hb x hx) e.symm
  have ha : chainS (collectS (K.take j) low) (K[j]'hj).1 = [] := chainS_no fun x hx => blt_ne (h3 x hx _ (List.mem_cons_self ..))
  by_cases e : k = (K[j]'hj).1
  · rw [e, updG_self, ha, if_pos (show ([] : List Ver).isEmpty = true from rfl)]
    by_cases ht : (trimH (K[j]'hj).2 low).isEmpty = true
    · rw [if_pos ht, List.nil_append, hdrop]
      exact (List.isEmpty_iff.1 ht).symm
    · rw [if_neg ht, List.singleton_append, chainS_cons, if_pos rfl]
  · rw [updG_ne _ e, chainS_app (full_collect _ _)]
    have e2 : chainS ((K[j]'hj) :: K.drop (j + 1)) k = chainS (K.drop (j + 1)) k := by rw [chainS_cons, if_neg (fun e3 => e e3.symm)]
    have e4 : chainS ((if (trimH (K[j]'hj).2 low).isEmpty = true then [] else [((K[j]'hj).1, trimH (K[j]'hj).2 low)]) ++ K.drop (j + 1)) k = chainS (K.drop (j + 1)) k := by
      split
      · rfl
      · rw [List.singleton_append, chainS_cons, if_neg (fun e3 => e e3.symm)]
    rw [e2, e4]
theorem sum_trim {m : KeyS → List Ver → Nat} (h0 : ∀ k, m k [] = 0) (hj : j < K.length) : sumS m (upT K low (j + 1)) + m (K[j]'hj).1 (K[j]'hj).2 = sumS m (upT K low j) + m (K[j]'hj).1 (trimH (K[j]'hj).2 low) := by
  rw [upT_split hj, upT_split2 hj, sumS_app, sumS_app, sumS_app, sumS_cons, trim_list]
  split
  · next ht =>
    rw [List.isEmpty_iff.1 ht, h0]
    simp only [sumS, List.map_nil, List.sum_nil]
    omega
  · simp only [sumS, List.map_cons, List.map_nil, List.sum_cons, List.sum_nil]
    omega
theorem upT_sz (hf : FullS K) (hj : j < K.length) : szS (upT K low (j + 1)) = trimZ (szS (upT K low j)) (K[j]'hj).1 (K[j]'hj).2 (trimH (K[j]'hj).2 low) := by
  have s1 := sum_trim (low := low) m_zero.1 hj
  have s2 := sum_trim (low := low) m_zero.2.1 hj
  have s3 := sum_trim (low := low) m_zero.2.2 hj
  have e1 := len_sum (upT_full (low := low) (j := j + 1) hf)
  have e2 := vers_sum (upT K low (j + 1))
  have e3 := byts_sum (upT_full (low := low) (j := j + 1) hf)
  have d1 := len_sum (upT_full (low := low) (j := j) hf)
  have d2 := vers_sum (upT K low j)
  have d3 := byts_sum (upT_full (low := low) (j := j) hf)
  simp only [szS, trimZ, Sz.mk.injEq]
  omega
theorem upT_le (hf : FullS K) (hj : j < K.length) : m1 (K[j]'hj).1 (K[j]'hj).2 ≤ (szS (upT K low j)).k ∧ m2 (K[j]'hj).1 (K[j]'hj).2 ≤ (szS (upT K low j)).v ∧ m3 (K[j]'hj).1 (K[j]'hj).2 ≤ (szS (upT K low j)).b := by
  have d1 := len_sum (upT_full (low := low) (j := j) hf)
  have d2 := vers_sum (upT K low j)
  have d3 := byts_sum (upT_full (low := low) (j := j) hf)
  rw [upT_split hj, sumS_app, sumS_cons] at d1 d2 d3
  rw [← upT_split hj] at d1 d2 d3
  unfold szS
  simp only
  omega
theorem upT_small (hf : FullS K) : ∀ (j : Nat), j ≤ K.length → (szS (upT K low j)).k ≤ K.length ∧ (szS (upT K low j)).v ≤ versS K ∧ (szS (upT K low j)).b ≤ bytsS K
  | 0, _ => by rw [upT_zero]; exact ⟨Nat.le_refl _, Nat.le_refl _, Nat.le_refl _⟩
  | j + 1, hj => by
    have ih := upT_small hf j (by omega)
    have hm := m_trim (K[j]'(by omega)).1 (K[j]'(by omega)).2 low
    rw [upT_sz hf (by omega)]
    unfold trimZ
    simp only
    omega
theorem upT_keys (hj : j < K.length) : (collectS (K.take (j + 1)) low).map Prod.fst = (collectS (K.take j) low).map Prod.fst ++ (if (trimH (K[j]'hj).2 low).isEmpty = true then [] else [(K[j]'hj).1]) := by
  rw [collect_succ hj, List.map_append, trim_list]
  split <;> rfl
theorem collect_len (K : KsS) (low : Nat) : (collectS K low).length ≤ K.length := List.length_filterMap_le _ _
end
end Go.Proofs.Ytdenlghnfefbnaa
