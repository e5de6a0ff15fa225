import Derived.Test.YtfdiidhilonkoaaZC17
set_option linter.unusedVariables false
/-
  Stretches of keys in plain words: joined lists, and lists made fewer.
-/
namespace Go.Proofs.Ytfdiidhilonkoaa

def touchS (a b : Sp) : Bool := (a.hi.isEmpty || blo b.lo a.hi) && (b.hi.isEmpty || blo a.lo b.hi)
def coverS (a b : Sp) : Sp := ⟨minS a.lo b.lo, if a.hi = [] ∨ b.hi = [] then [] else maxS a.hi b.hi⟩
theorem touch_iff {a b : Sp} : touchS a b = true ↔ (a.hi = [] ∨ blo b.lo a.hi = true) ∧ (b.hi = [] ∨ blo a.lo b.hi = true) := by
  unfold touchS
  rw [Bool.and_eq_true, Bool.or_eq_true, Bool.or_eq_true, List.isEmpty_iff, List.isEmpty_iff]
theorem not_touch {a b : Sp} (h : touchS a b = false) : gapS a b ∨ gapS b a := by
  by_cases h1 : a.hi = [] ∨ blo b.lo a.hi = true
  · by_cases h2 : b.hi = [] ∨ blo a.lo b.hi = true
    · rw [touch_iff.2 ⟨h1, h2⟩] at h
      cases h
    · right
      exact ⟨fun e => h2 (.inl e), not_blo fun e => h2 (.inr e)⟩
  · left
    exact ⟨fun e => h1 (.inl e), not_blo fun e => h1 (.inr e)⟩
theorem gap_touch {a b : Sp} (h : gapS a b) : touchS a b = false := by
  cases ht : touchS a b
  · rfl
  · rcases (touch_iff.1 ht).1 with g | g
    · exact absurd g h.1
    · have := lt_blo h.2 g
      rw [blt_self] at this
      cases this
theorem touch_comm (a b : Sp) : touchS a b = touchS b a := by
  unfold touchS
  exact Bool.and_comm _ _
theorem min_le {a b k : List UInt8} : blo (minS a b) k = true ↔ blo a k = true ∨ blo b k = true := by
  unfold minS
  split
  · next h => exact ⟨fun g => .inl g, fun g => g.elim id fun g => blo_trans (blo_of h) g⟩
  · next h =>
    have hba : blo b a = true := by simp [blo, h]
    exact ⟨fun g => .inr g, fun g => g.elim (fun g => blo_trans hba g) id⟩
theorem lt_max {a b k : List UInt8} : blt k (maxS a b) = true ↔ blt k a = true ∨ blt k b = true := by
  unfold maxS
  split
  · next h => exact ⟨fun g => .inr g, fun g => g.elim (fun g => blt_trans g h) id⟩
  · next h =>
    have hba : blo b a = true := by simp [blo, h]
    exact ⟨fun g => .inl g, fun g => g.elim id fun g => lt_blo g hba⟩
theorem max_ne {a b : List UInt8} (ha : a ≠ []) (hb : b ≠ []) : maxS a b ≠ [] := by
  unfold maxS
  split
  · exact hb
  · exact ha
theorem cover_end (a b : Sp) (k : List UInt8) : endS (coverS a b).hi k = (endS a.hi k || endS b.hi k) := by
  rw [Bool.eq_iff_iff, Bool.or_eq_true, end_iff, end_iff, end_iff]
  show (if a.hi = [] ∨ b.hi = [] then [] else maxS a.hi b.hi) = [] ∨ blt k (if a.hi = [] ∨ b.hi = [] then [] else maxS a.hi b.hi) = true ↔ _
  by_cases h : a.hi = [] ∨ b.hi = []
  · rw [if_pos h]
    simp only [true_or, true_iff]
    rcases h with h | h
    · exact .inl (.inl h)
    · exact .inr (.inl h)
  · rw [if_neg h, lt_max]
    have ha : a.hi ≠ [] := fun e => h (.inl e)
    have hb : b.hi ≠ [] := fun e => h (.inr e)
    have hm := max_ne ha hb
    simp only [hm, ha, hb, false_or]
theorem cover_right {a b : Sp} (ha : rightS a = true) : rightS (coverS a b) = true := by
  unfold rightS
  rw [cover_end, Bool.or_eq_true]
  exact .inl (end_down ha (min_le.2 (.inl (blo_refl _))))
/-- What two that touch cover is what lies in one of them. -/
theorem cover_has {a b : Sp} (h : touchS a b = true) (k : List UInt8) : hasS (coverS a b) k = (hasS a k || hasS b k) := by
  obtain ⟨t1, t2⟩ := touch_iff.1 h
  rw [Bool.eq_iff_iff, Bool.or_eq_true, has_iff, has_iff, has_iff, cover_end, Bool.or_eq_true]
  show blo (minS a.lo b.lo) k = true ∧ _ ↔ _
  rw [min_le]
  constructor
  · rintro ⟨h1, h2⟩
    by_cases ea : endS a.hi k = true
    · by_cases la : blo a.lo k = true
      · exact .inl ⟨la, ea⟩
      · have lb : blo b.lo k = true := h1.resolve_left la
        have : endS b.hi k = true := by
          rcases t2 with g | g
          · exact end_iff.2 (.inl g)
          · exact end_iff.2 (.inr (lt_blo (not_blo la) g))
        exact .inr ⟨lb, this⟩
    · have eb := h2.resolve_left ea
      by_cases lb : blo b.lo k = true
      · exact .inr ⟨lb, eb⟩
      · have : endS a.hi k = true := by
          rcases t1 with g | g
          · exact end_iff.2 (.inl g)
          · exact end_iff.2 (.inr (lt_blo (not_blo lb) g))
        exact absurd this ea
  · rintro (⟨h1, h2⟩ | ⟨h1, h2⟩)
    · exact ⟨.inl h1, .inl h2⟩
    · exact ⟨.inr h1, .inr h2⟩

/-! ### a normal list with a right stretch -/
def growS (l : List Sp) (s : Sp) : Sp := l.foldl (fun s x => if touchS x s = true then coverS x s else s) s
def putSp (l : List Sp) (s : Sp) : List Sp :=
  (l.filter fun x => !touchS x (growS l s) && blt x.lo (growS l s).lo) ++ growS l s :: l.filter fun x => !touchS x (growS l s) && blt (growS l s).lo x.lo
/-- A stretch that touches none of a rising list stays ahead of it, or is grown by what follows. -/
theorem grow_right : ∀ (l : List Sp) {s : Sp}, rightS s = true → rightS (growS l s) = true
  | [], _, h => h
  | x :: l, s, h => by
    show rightS (growS l (if touchS x s = true then coverS x s else s)) = true
    split
    · refine grow_right l ?_
      unfold rightS
      rw [cover_end, Bool.or_eq_true]
      exact .inr (end_down h (min_le.2 (.inr (blo_refl _))))
    · exact grow_right l h
/-- What touched is within; what did not, still does not. -/
theorem grow_in : ∀ (l : List Sp) {s : Sp}, normS l → rightS s = true → ∀ k, (hasS (growS l s) k || inP l k) = (hasS s k || inP l k)
  | [], _, _, _, _ => rfl
  | x :: l, s, hn, hs, k => by
    have c : inP (x :: l) k = (hasS x k || inP l k) := by simp [inP]
    show (hasS (growS l (if touchS x s = true then coverS x s else s)) k || _) = _
    rw [c]
    by_cases ht : touchS x s = true
    · rw [if_pos ht]
      have hr : rightS (coverS x s) = true := cover_right hn.1
      have ih := grow_in l hn.2.2 hr k
      rw [cover_has ht] at ih
      cases h1 : hasS (growS l (coverS x s)) k <;> cases h2 : hasS x k <;> cases h3 : hasS s k <;> cases h4 : inP l k <;> simp_all
    · rw [if_neg ht]
      have ih := grow_in l hn.2.2 hs k
      cases h1 : hasS (growS l s) k <;> cases h2 : hasS x k <;> cases h3 : hasS s k <;> cases h4 : inP l k <;> simp_all
/-- It only grows. -/
theorem grow_le : ∀ (l : List Sp) {s : Sp} (k : List UInt8), hasS s k = true → rightS s = true → normS l → hasS (growS l s) k = true
  | [], _, _, h, _, _ => h
  | x :: l, s, k, h, hs, hn => by
    show hasS (growS l (if touchS x s = true then coverS x s else s)) k = true
    by_cases ht : touchS x s = true
    · rw [if_pos ht]
      refine grow_le l k ?_ (cover_right hn.1) hn.2.2
      rw [cover_has ht, h, Bool.or_true]
    · rw [if_neg ht]
      exact grow_le l k h hs hn.2.2
theorem grow_lo : ∀ (l : List Sp) {s : Sp} {k : List UInt8}, blt k s.lo = true → (∀ x ∈ l, blt k x.lo = true) → blt k (growS l s).lo = true
  | [], _, _, h, _ => h
  | x :: l, s, k, h, hl => by
    show blt k (growS l (if touchS x s = true then coverS x s else s)).lo = true
    refine grow_lo l ?_ fun y hy => hl y (List.mem_cons_of_mem _ hy)
    split
    · show blt k (minS x.lo s.lo) = true
      unfold minS
      split
      · exact hl x (List.mem_cons_self ..)
      · exact h
    · exact h
theorem grow_same : ∀ (l : List Sp) {s : Sp}, (∀ x ∈ l, gapS s x) → growS l s = s
  | [], _, _ => rfl
  | x :: l, s, h => by
    show growS l (if touchS x s = true then coverS x s else s) = s
    rw [touch_comm, gap_touch (h x (List.mem_cons_self ..)), if_neg (by simp)]
    exact grow_same l fun y hy => h y (List.mem_cons_of_mem _ hy)
theorem has_touch {a b : Sp} {k : List UInt8} (ha : hasS a k = true) (hb : hasS b k = true) : touchS a b = true := by
  obtain ⟨a1, a2⟩ := has_iff.1 ha
  obtain ⟨b1, b2⟩ := has_iff.1 hb
  refine touch_iff.2 ⟨?_, ?_⟩
  · rcases end_iff.1 a2 with g | g
    · exact .inl g
    · exact .inr (blo_of (blo_lt b1 g))
  · rcases end_iff.1 b2 with g | g
    · exact .inl g
    · exact .inr (blo_of (blo_lt a1 g))
/-- Each of the list is within what has grown, or does not touch it. -/
theorem grow_each : ∀ (l : List Sp) {s : Sp}, normS l → rightS s = true → ∀ x ∈ l, touchS x (growS l s) = true → ∀ k, hasS x k = true → hasS (growS l s) k = true
  | [], _, _, _, _, hx, _, _, _ => by cases hx
  | y :: l, s, hn, hs, x, hx, ht, k, hk => by
    rw [show growS (y :: l) s = growS l (if touchS y s = true then coverS y s else s) from rfl] at ht ⊢
    by_cases hy : touchS y s = true
    · rw [if_pos hy] at ht ⊢
      rcases List.mem_cons.1 hx with rfl | hx
      · refine grow_le l k ?_ (cover_right hn.1) hn.2.2
        rw [cover_has hy, hk, Bool.true_or]
      · exact grow_each l hn.2.2 (cover_right hn.1) x hx ht k hk
    · rw [if_neg hy] at ht ⊢
      rcases List.mem_cons.1 hx with rfl | hx
      · have hf : touchS x s = false := by simpa using hy
        rcases not_touch hf with g | g
        · have h1 : gapS x (growS l s) := ⟨g.1, grow_lo l g.2 fun z hz => (hn.2.1 z hz).2⟩
          rw [gap_touch h1] at ht
          cases ht
        · have h2 : growS l s = s := grow_same l fun z hz => ⟨g.1, blt_trans g.2 (gap_lo hn.1 (hn.2.1 z hz))⟩
          rw [h2, hf] at ht
          cases ht
      · exact grow_each l hn.2.2 hs x hx ht k hk

theorem norm_filter (p : Sp → Bool) : ∀ {l : List Sp}, normS l → normS (l.filter p)
  | [], _ => trivial
  | x :: l, h => by
    rw [List.filter_cons]
    split
    · exact ⟨h.1, fun t ht => h.2.1 t (List.mem_filter.1 ht).1, norm_filter p h.2.2⟩
    · exact norm_filter p h.2.2
theorem norm_append : ∀ {a b : List Sp}, normS a → normS b → (∀ x ∈ a, ∀ y ∈ b, gapS x y) → normS (a ++ b)
  | [], _, _, hb, _ => hb
  | x :: a, b, ha, hb, h => by
    refine ⟨ha.1, fun t ht => ?_, norm_append ha.2.2 hb fun y hy => h y (List.mem_cons_of_mem _ hy)⟩
    rcases List.mem_append.1 ht with ht | ht
    · exact ha.2.1 t ht
    · exact h x (List.mem_cons_self ..) t ht
theorem norm_right : ∀ {l : List Sp}, normS l → ∀ x ∈ l, rightS x = true
  | x :: l, h, y, hy => by
    rcases List.mem_cons.1 hy with rfl | hy
    · exact h.1
    · exact norm_right h.2.2 y hy
theorem gap_trans {a b c : Sp} (hb : rightS b = true) (h1 : gapS a b) (h2 : gapS b c) : gapS a c := ⟨h1.1, blt_trans h1.2 (gap_lo hb h2)⟩
theorem put_norm {l : List Sp} {s : Sp} (hl : normS l) (hs : rightS s = true) : normS (putSp l s) := by
  have hg := grow_right l hs
  unfold putSp
  generalize growS l s = g at *
  have before : ∀ x ∈ l, touchS x g = false → blt x.lo g.lo = true → gapS x g := fun x hx ht hlt => by
    rcases not_touch ht with h | h
    · exact h
    · have := blt_trans hlt (gap_lo hg h)
      rw [blt_self] at this
      cases this
  have behind : ∀ x ∈ l, touchS x g = false → blt g.lo x.lo = true → gapS g x := fun x hx ht hlt => by
    rcases not_touch ht with h | h
    · have := blt_trans hlt (gap_lo (norm_right hl x hx) h)
      rw [blt_self] at this
      cases this
    · exact h
  refine norm_append (norm_filter _ hl) ⟨hg, fun t ht => ?_, norm_filter _ hl⟩ fun x hx y hy => ?_
  · obtain ⟨h1, h2⟩ := List.mem_filter.1 ht
    rw [Bool.and_eq_true, Bool.not_eq_true'] at h2
    exact behind t h1 h2.1 h2.2
  · obtain ⟨h1, h2⟩ := List.mem_filter.1 hx
    rw [Bool.and_eq_true, Bool.not_eq_true'] at h2
    have hxg := before x h1 h2.1 h2.2
    rcases List.mem_cons.1 hy with rfl | hy
    · exact hxg
    · obtain ⟨h3, h4⟩ := List.mem_filter.1 hy
      rw [Bool.and_eq_true, Bool.not_eq_true'] at h4
      exact gap_trans hg hxg (behind y h3 h4.1 h4.2)
theorem put_in {l : List Sp} {s : Sp} (hl : normS l) (hs : rightS s = true) (k : List UInt8) : inP (putSp l s) k = (inP l k || hasS s k) := by
  have h1 := grow_in l hl hs k
  have h2 := grow_each l hl hs
  have hg := grow_right l hs
  have h3 := fun h => grow_le l (s := s) k h hs hl
  unfold putSp
  generalize growS l s = g at *
  rw [Bool.eq_iff_iff, Bool.or_eq_true, in_iff]
  constructor
  · rintro ⟨x, hx, hk⟩
    rcases List.mem_append.1 hx with hx | hx
    · exact .inl (in_iff.2 ⟨x, (List.mem_filter.1 hx).1, hk⟩)
    · rcases List.mem_cons.1 hx with rfl | hx
      · rw [hk, Bool.true_or] at h1
        have h1 := h1.symm
        rw [Bool.or_eq_true] at h1
        exact h1.symm
      · exact .inl (in_iff.2 ⟨x, (List.mem_filter.1 hx).1, hk⟩)
  · rintro (h | h)
    · obtain ⟨x, hx, hk⟩ := in_iff.1 h
      cases ht : touchS x g
      · have hne : ¬ x.lo = g.lo := fun e => by
          have h4 := has_lo (norm_right hl x hx)
          have h5 := has_lo hg
          rw [e] at h4
          rw [has_touch h4 h5] at ht
          cases ht
        rcases blt_tri x.lo g.lo with q | q | q
        · exact ⟨x, List.mem_append_left _ (List.mem_filter.2 ⟨hx, by rw [ht, q]; rfl⟩), hk⟩
        · exact absurd q hne
        · exact ⟨x, List.mem_append_right _ (List.mem_cons_of_mem _ (List.mem_filter.2 ⟨hx, by rw [ht, q]; rfl⟩)), hk⟩
      · exact ⟨g, List.mem_append_right _ (List.mem_cons_self ..), h2 x hx ht k hk⟩
    · exact ⟨g, List.mem_append_right _ (List.mem_cons_self ..), h3 h⟩

/-- The normal list of all that lies in a list. -/
def joinSp (l : List Sp) : List Sp := l.foldl (fun out s => if rightS s = true then putSp out s else out) []
theorem no_has {s : Sp} (h : rightS s = false) (k : List UInt8) : hasS s k = false := by
  cases hk : hasS s k
  · rfl
  · obtain ⟨h1, h2⟩ := has_iff.1 hk
    have := end_down h2 h1
    rw [rightS, this] at h
    cases h
theorem join_fold : ∀ (l out : List Sp), normS out → normS (l.foldl (fun out s => if rightS s = true then putSp out s else out) out) ∧ ∀ k, inP (l.foldl (fun out s => if rightS s = true then putSp out s else out) out) k = (inP out k || inP l k)
  | [], out, h => ⟨h, fun k => by simp [inP]⟩
  | s :: l, out, h => by
    rw [List.foldl_cons]
    have c : ∀ k, inP (s :: l) k = (hasS s k || inP l k) := fun k => by simp [inP]
    by_cases hs : rightS s = true
    · rw [if_pos hs]
      obtain ⟨h1, h2⟩ := join_fold l (putSp out s) (put_norm h hs)
      refine ⟨h1, fun k => ?_⟩
      rw [h2, put_in h hs, c, Bool.or_assoc]
    · rw [if_neg hs]
      obtain ⟨h1, h2⟩ := join_fold l out h
      refine ⟨h1, fun k => ?_⟩
      rw [h2, c, no_has (by simpa using hs), Bool.false_or]
theorem join_norm (l : List Sp) : normS (joinSp l) := (join_fold l [] trivial).1
theorem join_in (l : List Sp) (k : List UInt8) : inP (joinSp l) k = inP l k := by
  rw [joinSp, (join_fold l [] trivial).2]
  simp [inP]
/-- Whatever is normal, and has what lies in a list, is its join. -/
theorem join_eq {l m : List Sp} (hm : normS m) (h : ∀ k, inP m k = inP l k) : m = joinSp l := norm_eq hm (join_norm l) fun k => by rw [h, join_in]

/-! ### fewer -/
def fitS : Nat → List Sp → List Sp
  | n, a :: b :: l => if max n 1 < (a :: b :: l).length then fitS n (⟨a.lo, b.hi⟩ :: l) else a :: b :: l
  | _, l => l
  termination_by _ l => l.length
theorem fit_len (n : Nat) : ∀ (m : Nat) (l : List Sp), l.length ≤ m → (fitS n l).length ≤ max n 1
  | _, [], _ => by unfold fitS; simp
  | _, [a], _ => by unfold fitS; simp; omega
  | 0, a :: b :: l, h => by simp at h
  | m + 1, a :: b :: l, h => by
    unfold fitS
    split
    · exact fit_len n m _ (by simp at h ⊢; omega)
    · omega
theorem fit_few {n : Nat} {l : List Sp} (h : l.length ≤ max n 1) : fitS n l = l := by
  match l, h with
  | [], _ => unfold fitS; rfl
  | [a], _ => unfold fitS; rfl
  | a :: b :: l, h =>
    unfold fitS
    rw [if_neg (by omega)]
theorem pair_norm {a b : Sp} {l : List Sp} (h : normS (a :: b :: l)) : normS (⟨a.lo, b.hi⟩ :: l) := by
  have hab := h.2.1 b (List.mem_cons_self ..)
  refine ⟨?_, fun t ht => h.2.2.2.1 t ht, h.2.2.2.2⟩
  show endS b.hi a.lo = true
  exact end_down h.2.2.1 (blo_of (gap_lo h.1 hab))
theorem pair_in {a b : Sp} {l : List Sp} (h : normS (a :: b :: l)) {k : List UInt8} (hk : inP (a :: b :: l) k = true) : inP (⟨a.lo, b.hi⟩ :: l) k = true := by
  have hab := h.2.1 b (List.mem_cons_self ..)
  obtain ⟨x, hx, hh⟩ := in_iff.1 hk
  obtain ⟨h1, h2⟩ := has_iff.1 hh
  rcases List.mem_cons.1 hx with rfl | hx
  · refine in_iff.2 ⟨_, List.mem_cons_self .., has_iff.2 ⟨h1, ?_⟩⟩
    rcases end_iff.1 h2 with g | g
    · exact absurd g hab.1
    · exact end_down h.2.2.1 (blo_of (blt_trans g hab.2))
  · rcases List.mem_cons.1 hx with rfl | hx
    · exact in_iff.2 ⟨_, List.mem_cons_self .., has_iff.2 ⟨blo_trans (blo_of (gap_lo (s := a) h.1 hab)) h1, h2⟩⟩
    · exact in_iff.2 ⟨x, List.mem_cons_of_mem _ hx, hh⟩
theorem fit_norm (n : Nat) : ∀ (m : Nat) (l : List Sp), l.length ≤ m → normS l → normS (fitS n l) ∧ ∀ k, inP l k = true → inP (fitS n l) k = true
  | _, [], _, h => by unfold fitS; exact ⟨h, fun _ h => h⟩
  | _, [a], _, h => by unfold fitS; exact ⟨h, fun _ h => h⟩
  | 0, a :: b :: l, h, _ => by simp at h
  | m + 1, a :: b :: l, h, hn => by
    unfold fitS
    split
    · obtain ⟨h1, h2⟩ := fit_norm n m (⟨a.lo, b.hi⟩ :: l) (by simp at h ⊢; omega) (pair_norm hn)
      exact ⟨h1, fun k hk => h2 k (pair_in hn hk)⟩
    · exact ⟨hn, fun _ h => h⟩
/-- In a normal list the first two cover from the first one's Lo to the second one's Hi. -/
theorem cover_pair {a b : Sp} {l : List Sp} (h : normS (a :: b :: l)) : coverS a b = ⟨a.lo, b.hi⟩ := by
  have hab := h.2.1 b (List.mem_cons_self ..)
  have hlo := gap_lo h.1 hab
  unfold coverS
  have e1 : minS a.lo b.lo = a.lo := by unfold minS; rw [if_pos hlo]
  rw [e1]
  by_cases hb : b.hi = []
  · rw [if_pos (.inr hb), hb]
  · rw [if_neg (by rintro (g | g); exact hab.1 g; exact hb g)]
    have : blt a.hi b.hi = true := by
      rcases end_iff.1 h.2.2.1 with g | g
      · exact absurd g hb
      · exact blt_trans hab.2 g
    unfold maxS
    rw [if_pos this]
end Go.Proofs.Ytfdiidhilonkoaa
