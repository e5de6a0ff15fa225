import Derived.Test.YtfdiidhilonkoaaZC42
import Derived.Shelf.SlSortCmp.NoneTotal
import Derived.StillTail
import Derived.Deep.Quiet
set_option linter.unusedVariables false
/-
  Package span, as it landed: united.
-/
namespace Go.Proofs.Ytfdiidhilonkoaa
open Go.RowKit

set_option maxRecDepth 100000 in
theorem dDeleteFunc_nil (p : Sp → Bool) (g : Nat) (lb : Array Value) (eg : ∀ args w, (callFunc g args).run Try.prog w = .ok (.enter g args) w) (hp : PredAll g lb p) (w : World) :
    Calls Try.prog 57 #[.slice none 0 0, .func (.func g) #[] lb] w fun e w' => e = .returned (.slice none 0 0) ∧ Below w.heap.size w w' := by
  have HI := Lib.hid (dIndex_any p g lb eg [] none 0 0 w.heap.size w (hp.at_ w) (by simp) RowG.nil_ (Nat.le_refl _))
  clear hp
  go_enter Try.func57, Try.ntmps57
  go_wp2_with fail
  refine HI.out.mono ?_
  rintro r w1 ⟨⟨z, rfl, hz⟩, hb1⟩
  have HB1 := Lib.hid hb1
  clear HI hb1
  rcases hz with ⟨i, hi, _⟩ | ⟨rfl, _⟩
  · exact absurd hi (by simp)
  · have d1 : ((-1 : Int) == -1) = true := rfl
    go_wp2_with fail
    go_ret
    exact ⟨rfl, HB1.out⟩
set_option maxRecDepth 100000 in
theorem dLaid_nil (w : World) : Calls Try.prog 51 #[.slice none 0 0] w fun e w' => e = .returned (.slice none 0 0) ∧ Below w.heap.size w w' := by
  have eg1 : ∀ args w, (callFunc 58 args).run Try.prog w = .ok (.enter 58 args) w := enters_of Try.func58 (by kernel_rfl) rfl
  have HD := Lib.hid (dDeleteFunc_nil (fun x => !rightS x) 58 #[] eg1 laid1_any w)
  have hs := fun fv W => AnyF.slices_SortFunc_none Try.sortI none 0 fv W
  change ∀ fv W, Calls Try.prog 59 _ _ _ at hs
  have HS := Lib.hid hs
  clear eg1 hs
  go_enter Try.func51, Try.ntmps51
  go_wp2_with fail
  refine HD.out.mono ?_
  rintro r w1 ⟨rfl, hb1⟩
  go_wp2_with fail
  refine (HS.out _ w1).mono ?_
  rintro r w2 ⟨rfl, rfl⟩
  go_wp2_with fail
  go_ret
  exact ⟨rfl, hb1⟩
/-- laid of any row of the call's own. -/
theorem dLaidO_any (l : List Sp) (lo : Nat) (v : Value) (w : World) (hl : l.length ≤ 1000000) (ho : OwnG 52 2 spCells w lo v l) (hlo : lo ≤ w.heap.size) :
    Calls Try.prog 51 #[v] w fun e w' => ∃ (m : List Sp) (v' : Value), (∀ s, s ∈ m ↔ s ∈ l ∧ rightS s = true) ∧ risesS m ∧ m.length ≤ l.length ∧ e = .returned v' ∧ OwnG 52 2 spCells w' lo v' m ∧ Below lo w w' := by
  rcases ho.blk with ⟨rfl, rfl⟩ | ⟨b, cap, rfl, hb⟩
  · exact (dLaid_nil w).mono fun _ _ q => ⟨[], _, fun s => by simp, List.Pairwise.nil, Nat.le_refl _, q.1, OwnG.none_ _ _ _ _ _, q.2.mono hlo⟩
  · exact (dLaid_any l lo b cap w hl hb hlo).mono fun _ _ ⟨m, h1, h2, h3, h4, h5, h6⟩ => ⟨m, _, h1, h2, h3, h4, h5.own, h6⟩

/-! ### the loop of united -/
/-- L is what lies in the row, n of the first are what the first j came to. -/
structure UniI (l L : List Sp) (j n : Nat) : Prop where
  len : L.length = l.length
  le : n ≤ j
  pos : 0 < j → 0 < n
  out : L.take n = (l.take j).foldl stepU []
  rest : L.drop j = l.drop j
theorem UniI.start (l : List Sp) : UniI l l 0 0 := ⟨rfl, Nat.le_refl _, id, rfl, rfl⟩
theorem UniI.at_ {l L : List Sp} {j n : Nat} (h : UniI l L j n) (hj : j < l.length) (hj' : j < L.length) : L[j]'hj' = l[j]'hj := by
  have e := h.rest
  rw [List.drop_eq_getElem_cons hj', List.drop_eq_getElem_cons hj] at e
  injection e
theorem uni_step {l : List Sp} {j : Nat} (hj : j < l.length) : (l.take (j + 1)).foldl stepU [] = stepU ((l.take j).foldl stepU []) (l[j]'hj) := by
  rw [List.take_succ_eq_append_getElem hj, List.foldl_append]
  rfl
theorem UniI.rest_set {l L : List Sp} {j n : Nat} (h : UniI l L j n) {q : Nat} (hq : q ≤ j) (x : Sp) : (L.set q x).drop (j + 1) = l.drop (j + 1) := by
  rw [List.drop_set_of_lt (by omega)]
  have e := congrArg (List.drop 1) h.rest
  rwa [List.drop_drop, List.drop_drop] at e
/-- The first one, or one that begins behind a gap. -/
theorem UniI.more {l L : List Sp} {j n : Nat} (h : UniI l L j n) (hj : j < l.length) (hs : n = 0 ∨ ∃ hn : n - 1 < L.length, gapB (L[n - 1]'hn) (l[j]'hj) = true) : UniI l (L.set n (l[j]'hj)) (j + 1) (n + 1) := by
  have hk : n < L.length := by have := h.le; have := h.len; omega
  refine ⟨by rw [List.length_set, h.len], by have := h.le; omega, fun _ => by omega, ?_, h.rest_set h.le _⟩
  rw [uni_step hj, ← h.out, List.take_succ_eq_append_getElem (by rw [List.length_set]; exact hk), List.getElem_set_self, List.take_set_of_le (Nat.le_refl _)]
  rcases hs with h0 | ⟨hn, hg⟩
  · subst h0
    rfl
  · by_cases h0 : n = 0
    · subst h0
      rfl
    · obtain ⟨q, rfl⟩ : ∃ q, n = q + 1 := ⟨n - 1, by omega⟩
      simp only [Nat.add_sub_cancel] at hg hn
      rw [List.take_succ_eq_append_getElem hn, stepU_snoc, if_pos hg]
/-- One that meets the last of what has come, or touches it. -/
theorem UniI.less {l L : List Sp} {j q : Nat} (h : UniI l L j (q + 1)) (hj : j < l.length) (hn : q < L.length) (hg : gapB (L[q]'hn) (l[j]'hj) = false) : UniI l (L.set q ⟨(L[q]'hn).lo, laterS (L[q]'hn).hi (l[j]'hj).hi⟩) (j + 1) (q + 1) := by
  refine ⟨by rw [List.length_set, h.len], by have := h.le; omega, fun _ => by omega, ?_, h.rest_set (by have := h.le; omega) _⟩
  rw [uni_step hj, ← h.out, List.take_succ_eq_append_getElem (by rw [List.length_set]; exact hn), List.getElem_set_self, List.take_set_of_le (Nat.le_refl _), List.take_succ_eq_append_getElem hn, stepU_snoc, if_neg (by rw [hg]; exact Bool.false_ne_true)]
theorem UniI.end_ {l L : List Sp} {n : Nat} (h : UniI l L l.length n) : L.take n = l.foldl stepU [] := by rw [h.out, List.take_length]
end Go.Proofs.Ytfdiidhilonkoaa

/-
  A region that draws its order, its head quiet in a class of worlds, its tail in one forced order.
-/
namespace Go.Proofs.Ytfdiidhilonkoaa
open Go

section
variable {P : Program} {ops : Array Oper} {md : Region.Mode} {C : World → Prop}

/-- Whatever order the head takes: then L. -/
def headQ (P : Program) (md : Region.Mode) (ops : Array Oper) (C : World → Prop) (L : Array Bool → Act → Prop) : Nat → Array Bool → Act → Prop
  | 0, listed, a => L listed a
  | f + 1, listed, a => Region.ready md ops listed ≠ [] ∧ ∀ i ∈ Region.ready md ops listed, qOp P ops C i (headQ P md ops C L f (listed.setIfInBounds i true)) a

theorem any_of_head {g : Nat} {L : Array Bool → Act → Prop} {Q : Exit → Act → World → Prop} (hL : ∀ listed a w, C w → L listed a → wpAny P md ops Q g listed a w) (f : Nat) :
    ∀ (listed : Array Bool) (a : Act) (w : World), C w → headQ P md ops C L f listed a → wpAny P md ops Q (f + g) listed a w := by
  induction f with
  | zero => intro listed a w hw h; rw [Nat.zero_add]; exact hL _ _ _ hw h
  | succ f ih =>
    intro listed a w hw h
    rw [show f + 1 + g = (f + g) + 1 by omega]
    exact ⟨fun e => absurd e h.1, fun i hi => wpOp_of_qOp hw (fun a' w' hw' hh => ih _ a' w' hw' hh) (h.2 i hi)⟩

theorem head_first {n i : Nat} {oi : Oper} {v : Value} {L : Array Bool → Act → Prop} (hoi : ops[i]? = some oi) (hsel : ∀ (j : Nat) (o : Oper) cs b, ops[j]? = some o → o.op ≠ .select cs b)
    (hs : Region.sinkB md ops n = true) (hc : Region.chainB md ops n = true) (hn : n < ops.size) (hin : i < n) (hdone : ∀ listed a, L listed a → ∀ j ∈ Region.ready md ops listed, n ≤ j) (f : Nat) :
    ∀ (listed : Array Bool) (a : Act), HeadInv md ops n listed →
      (∀ j oj, ops[j]? = some oj → j ≠ i → listed.getD j true = false → (∀ e ∈ oj.after, Region.binds md e = true → e.on ≠ i) → oi.apart ops oj = true) →
      i ∈ Region.ready md ops listed → YieldsIn P ops C oi v a → headQ P md ops C L f (listed.setIfInBounds i true) (a.put oi.dst v) → headQ P md ops C L (f + 1) listed a := by
  induction f with
  | zero =>
    intro listed a inv hfree hr hy H
    refine ⟨fun e => (by rw [e] at hr; cases hr), fun j hj => ?_⟩
    by_cases e : j = i
    · subst e; exact hy.qOp hoi H
    · have h1 := hdone _ _ H j (ready_mono hj e)
      exact absurd hj (tail_waits hs hc hn inv _ i rfl hin (mem_ready.1 hr).1 j h1)
  | succ f ih =>
    intro listed a inv hfree hr hy H
    refine ⟨fun e => (by rw [e] at hr; cases hr), fun j hj => ?_⟩
    by_cases e : j = i
    · subst e; exact hy.qOp hoi H
    · have hu := (mem_ready.1 hr).1
      have hjn : j < n := by
        by_cases h : j < n
        · exact h
        · exact absurd hj (tail_waits hs hc hn inv _ i rfl hin hu j (by omega))
      obtain ⟨hjun, oj, hoj, hall⟩ := mem_ready.1 hj
      have hnot : ∀ x ∈ oj.after, Region.binds md x = true → x.on ≠ i := fun x hx hb heq => by
        have h1 := hall x hx hb
        rw [heq, getD_both hu] at h1
        cases h1
      have h2 := qOp_put hoj (hfree j oj hoj e hjun hnot) (fun cs b => hsel i oi cs b hoi) (fun cs b => hsel j oj cs b hoj) hy (H.2 j (ready_mono hj e))
      refine qOp_mono (fun a' h3 => ih _ a' (inv.set hj hjn) (fun k ok hk hki hun hno => hfree k ok hk hki ?_ hno) (ready_mono hr (Ne.symm e)) h3.1 ?_) h2
      · by_cases hjk : j = k
        · subst hjk; exact hjun
        · rwa [getD_set_ne true hjk] at hun
      · rw [Array.setIfInBounds_comm _ _ e]
        exact h3.2

theorem head_lex {n g : Nat} {Lq : Act → Prop} (hsel : Region.noSelect ops = true) (hs : Region.sinkB md ops n = true) (hc : Region.chainB md ops n = true) (hn : n < ops.size) (l : List Oper) :
    ∀ (k : Nat) (listed : Array Bool) (a : Act), (∀ j, j < l.length → l[j]? = ops[k + j]?) → k + l.length = n → HeadInv md ops n listed → Region.lexHead md ops g l.length k listed = true → wpQuiet P ops C Lq l a →
      headQ P md ops C (fun listed' a' => Region.seqB md ops g n listed' = true ∧ Lq a') l.length listed a := by
  induction l with
  | nil =>
    intro k listed a _ hk _ hB h
    have e : k = n := by simpa using hk
    subst e
    exact ⟨by simpa [Region.lexHead] using hB, h⟩
  | cons o l ih =>
    intro k listed a hl hk inv hB h
    have h0 : ops[k]? = some o := by simpa using (hl 0 (by simp)).symm
    simp only [List.length_cons, Region.lexHead, Bool.and_eq_true] at hB hk
    have hkn : k < n := by omega
    have hr : k ∈ Region.ready md ops listed := by simpa using hB.1.1
    have hq : qOp P ops C k (wpQuiet P ops C Lq l) a := by unfold qOp; simp only [h0]; exact h
    obtain ⟨v, hy, hK⟩ := yieldsIn_of_qOp h0 hq
    exact head_first h0 (Region.noSelect_spec hsel) hs hc hn hkn (fun _ _ hL => seqB_ready hL.1) l.length listed a inv (Region.free_spec h0 hB.1.2) hr hy
      (ih (k + 1) _ _ (fun j hj => by have := hl (j + 1) (by simp; omega); simpa [Nat.add_assoc, Nat.add_comm 1 j] using this) (by omega) (inv.set hr hkn) hB.2 hK)

/-- The head quiet in a class, walked once in the order of the text; the tail in any world of the class. -/
theorem wp_region_class_tail {id : Nat} {Q : Exit → Act → World → Prop} {a : Act} {w : World} {l : List Oper} (n : Nat) (hm : P.follows .mixedOrders = true) (hB : Region.lexTailB .any l.toArray n = true) (hC : C w.drew)
    (h : wpQuiet P l.toArray C (fun a' => ∀ w', C w' → wpList P l.toArray Q (l.drop n) a' w') (l.take n) a) : (Code.region id l.toArray true).wp P Q a w := by
  simp only [Region.lexTailB, Bool.and_eq_true, decide_eq_true_eq] at hB
  obtain ⟨⟨⟨⟨hsel, hn⟩, hs⟩, hc⟩, hlex⟩ := hB
  have hn' : n < l.length := by simpa using hn
  have htl : (l.take n).length = n := by simp; omega
  have hdl : (l.drop n).length = l.toArray.size - n := by simp
  have inv : HeadInv .any l.toArray n (Array.replicate l.toArray.size false) :=
    ⟨by simp, fun j oj _ hl => (by rw [getD_replicate_false] at hl; cases hl), fun t _ ht => getD_in (by simpa using ht) (getD_replicate_false _ _)⟩
  have H := head_lex (C := C) (P := P) (g := l.toArray.size - n) hsel hs hc hn (l.take n) 0 _ a (fun j hj => by
    have hj' : j < n := by rw [htl] at hj; exact hj
    simp [hj']) (by simpa using htl) inv (by rw [htl]; exact hlex) h
  have H2 := any_of_head (Q := Q) (g := l.toArray.size - n) (fun listed a' w' hw' hL => by
    have := wpAny_of_seq (md := .any) (Q' := Q) (l.drop n) n listed a' w' (fun j => by simp [List.getElem?_drop]) (by rw [hdl]; exact hL.1) (hL.2 w' hw')
    rwa [hdl] at this) _ _ _ _ hC H
  rw [htl, show n + (l.toArray.size - n) = l.toArray.size by omega] at H2
  exact wp_region_any hm H2
end
end Go.Proofs.Ytfdiidhilonkoaa
