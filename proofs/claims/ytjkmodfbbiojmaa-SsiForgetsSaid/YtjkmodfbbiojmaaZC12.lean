import Derived.Test.YtjkmodfbbiojmaaZC06
/-
  Records of transactions in plain words: who may commit, records joined, forgotten and made fewer; and that with records joined nothing is judged better (P10.4), nor by reading and writing more (P10.6).
-/
namespace Go.Proofs.Ytjkmodfbbiojmaa

structure RecS where
  first : Nat
  last : Nat
  began : Nat
  out : Nat
  reads : List Sp
  writes : List Sp
def rightR (r : RecS) : Bool := decide (1 ≤ r.first) && decide (r.first ≤ r.last) && decide (r.began ≤ r.last) && normB r.reads && normB r.writes
def forgetR (l : List RecS) (low : Nat) : List RecS := l.filter fun r => decide (low < r.last)
def dangerR (a b : RecS) : Bool := if b.writes.isEmpty then decide (a.first ≤ b.began) else decide (a.first ≤ b.last)
/-- What comes out behind, of which t reads ahead, stands already. -/
def outB (t a : RecS) : Bool := !(a.out == 0) && (!t.writes.isEmpty || decide (a.out ≤ t.began))
/-- Of those beside t (l): does one that reads what t writes make a danger with a? -/
def stopB (l : List RecS) (t a : RecS) : Bool := l.any fun b => meetB b.reads t.writes && dangerR a b
def aheadR (l : List RecS) (t : RecS) : List RecS := l.filter fun a => meetB t.reads a.writes
def leastStep (o : Option Nat) (a : RecS) : Option Nat := match o with
  | none => some a.first
  | some x => some (if a.first < x then a.first else x)
def outR (l : List RecS) : Nat := (l.foldl leastStep none).getD 0
/-- none: a danger. -/
def judgeR (l : List RecS) (t : RecS) : Option Nat :=
  if (aheadR (forgetR l t.began) t).any (fun a => outB t a || stopB (forgetR l t.began) t a) = true then none else some (outR (aheadR (forgetR l t.began) t))

/-! ### the least -/
theorem least_fold : ∀ (l : List RecS) (o : Option Nat), (∀ a ∈ l, ∃ x, l.foldl leastStep o = some x ∧ x ≤ a.first) ∧ (∀ y, o = some y → ∃ x, l.foldl leastStep o = some x ∧ x ≤ y) ∧
    (∀ x, l.foldl leastStep o = some x → o = some x ∨ ∃ a ∈ l, x = a.first)
  | [], o => ⟨(fun a ha => by cases ha), (fun y h => ⟨y, h, Nat.le_refl _⟩), fun x h => .inl h⟩
  | b :: l, o => by
    have hs : ∃ y, leastStep o b = some y ∧ y ≤ b.first ∧ (∀ z, o = some z → y ≤ z) ∧ (o = some y ∨ y = b.first) := by
      cases o with
      | none => exact ⟨_, rfl, Nat.le_refl _, (fun z h => by cases h), .inr rfl⟩
      | some z =>
        by_cases h : b.first < z
        · exact ⟨b.first, by simp [leastStep, h], Nat.le_refl _, (fun u hu => by cases hu; omega), .inr rfl⟩
        · exact ⟨z, by simp [leastStep, h], by omega, (fun u hu => by cases hu; omega), .inl rfl⟩
    obtain ⟨y, hy, h1, h2, h3⟩ := hs
    obtain ⟨k1, k2, k3⟩ := least_fold l (some y)
    rw [List.foldl_cons, hy]
    obtain ⟨x, hx, hxy⟩ := k2 y rfl
    refine ⟨fun a ha => ?_, fun z hz => ⟨x, hx, Nat.le_trans hxy (h2 z hz)⟩, fun u hu => ?_⟩
    · rcases List.mem_cons.1 ha with rfl | ha
      · exact ⟨x, hx, Nat.le_trans hxy h1⟩
      · exact k1 a ha
    · rcases k3 u hu with h | ⟨a, ha, e⟩
      · cases h
        rcases h3 with h | h
        · exact .inl h
        · exact .inr ⟨b, List.mem_cons_self .., h⟩
      · exact .inr ⟨a, List.mem_cons_of_mem _ ha, e⟩
theorem out_le {l : List RecS} {a : RecS} (ha : a ∈ l) : outR l ≤ a.first := by
  obtain ⟨x, hx, h⟩ := (least_fold l none).1 a ha
  unfold outR
  rw [hx]
  exact h
theorem out_nil : outR [] = 0 := rfl
theorem out_mem {l : List RecS} (h : l ≠ []) : ∃ a ∈ l, outR l = a.first := by
  match l, h with
  | b :: l, _ =>
    obtain ⟨x, hx, _⟩ := (least_fold (b :: l) none).1 b (List.mem_cons_self ..)
    rcases (least_fold (b :: l) none).2.2 x hx with h | ⟨a, ha, e⟩
    · cases h
    · exact ⟨a, ha, by unfold outR; rw [hx]; exact e⟩

/-! ### forgotten -/
theorem forget_forget (l : List RecS) {low at_ : Nat} (h : low ≤ at_) : forgetR (forgetR l low) at_ = forgetR l at_ := by
  unfold forgetR
  rw [List.filter_filter]
  congr 1
  funext r
  by_cases h1 : at_ < r.last
  · have h2 : low < r.last := by omega
    simp [h1, h2]
  · simp [h1]
theorem judge_forget (l : List RecS) (t : RecS) {low : Nat} (h : low ≤ t.began) : judgeR (forgetR l low) t = judgeR l t := by
  unfold judgeR
  rw [forget_forget l h]
/-! ### alone -/
theorem judge_alone {l : List RecS} {t : RecS} (h : aheadR (forgetR l t.began) t = []) : judgeR l t = some 0 := by
  unfold judgeR
  rw [h]
  rfl

/-! ### judged no better -/
/-- n is told of less, m of more: nothing that is refused of less is not refused of more, and the time of more is not above. -/
def NoBetter (m n : Option Nat) : Prop := ∀ x, m = some x → ∃ y, n = some y ∧ (y = 0 ∨ (x ≠ 0 ∧ x ≤ y))
theorem NoBetter.refl (m : Option Nat) : NoBetter m m := fun x h => ⟨x, h, by
  by_cases e : x = 0
  · exact .inl e
  · exact .inr ⟨e, Nat.le_refl _⟩⟩
theorem judge_mono {l m : List RecS} {t u : RecS} (hf : ∀ a ∈ m, 1 ≤ a.first)
    (h : ∀ a ∈ aheadR (forgetR l t.began) t, ∃ b ∈ aheadR (forgetR m u.began) u, b.first ≤ a.first ∧ ((outB t a || stopB (forgetR l t.began) t a) = true → (outB u b || stopB (forgetR m u.began) u b) = true)) :
    NoBetter (judgeR m u) (judgeR l t) := by
  intro x hx
  unfold judgeR at hx ⊢
  split at hx
  · cases hx
  · rename_i hn
    have hn2 : ¬ (aheadR (forgetR l t.began) t).any (fun a => outB t a || stopB (forgetR l t.began) t a) = true := fun hc => by
      obtain ⟨a, ha, hs⟩ := List.any_eq_true.1 hc
      obtain ⟨b, hb, _, hbs⟩ := h a ha
      exact hn (List.any_eq_true.2 ⟨b, hb, hbs hs⟩)
    rw [if_neg hn2]
    refine ⟨_, rfl, ?_⟩
    cases hx
    by_cases e : aheadR (forgetR l t.began) t = []
    · exact .inl (by rw [e]; rfl)
    · obtain ⟨a, ha, ea⟩ := out_mem e
      obtain ⟨b, hb, hle, _⟩ := h a ha
      have h1 := out_le hb
      have hne : aheadR (forgetR m u.began) u ≠ [] := fun e2 => by rw [e2] at hb; cases hb
      obtain ⟨c, hc, ec⟩ := out_mem hne
      have hcm : c ∈ m := (List.mem_filter.1 (List.mem_filter.1 hc).1).1
      have := hf c hcm
      exact .inr ⟨by omega, by omega⟩

/-! ### who reads and writes more -/
theorem meet_more_l {a b : List Sp} (c : List Sp) (h : meetB a b = true) : meetB (a ++ c) b = true := by
  obtain ⟨k, h1, h2⟩ := (meetB_iff a b).1 h
  exact (meetB_iff _ _).2 ⟨k, by unfold inP at *; rw [List.any_append, h1, Bool.true_or], h2⟩
theorem meet_more_r {a b : List Sp} (c : List Sp) (h : meetB a b = true) : meetB a (b ++ c) = true := by
  rw [meet_comm] at h ⊢
  exact meet_more_l c h
def moreR (t : RecS) (reads writes : List Sp) : RecS := ⟨t.first, t.last, t.began, t.out, t.reads ++ reads, t.writes ++ writes⟩
theorem judge_more {l : List RecS} (hr : ∀ r ∈ l, rightR r = true) (t : RecS) (reads writes : List Sp) : NoBetter (judgeR l (moreR t reads writes)) (judgeR l t) := by
  refine judge_mono (fun a ha => ?_) (fun a ha => ⟨a, ?_, Nat.le_refl _, fun hs => ?_⟩)
  · have := hr a ha
    simp only [rightR, Bool.and_eq_true, decide_eq_true_eq] at this
    exact this.1.1.1.1
  · obtain ⟨h1, h2⟩ := List.mem_filter.1 ha
    exact List.mem_filter.2 ⟨h1, meet_more_l reads h2⟩
  · rw [Bool.or_eq_true] at hs ⊢
    rcases hs with h | h
    · left
      unfold outB at h ⊢
      rw [Bool.and_eq_true, Bool.or_eq_true] at h ⊢
      refine ⟨h.1, ?_⟩
      rcases h.2 with g | g
      · left
        show (!(t.writes ++ writes).isEmpty) = true
        cases hw : t.writes with
        | nil => rw [hw] at g; cases g
        | cons _ _ => rfl
      · exact .inr g
    · right
      obtain ⟨b, hb, h2⟩ := List.any_eq_true.1 h
      rw [Bool.and_eq_true] at h2
      exact List.any_eq_true.2 ⟨b, hb, by rw [Bool.and_eq_true]; exact ⟨meet_more_r writes h2.1, h2.2⟩⟩
end Go.Proofs.Ytjkmodfbbiojmaa

/-
  Records joined and made fewer: nothing is judged better with them (P10.4). How two lists of stretches become one is left open (J): normal, with all that lies in either.
-/
namespace Go.Proofs.Ytjkmodfbbiojmaa

def leastR (a b : Nat) : Nat := if a = 0 ∨ b = 0 then max a b else min a b
def joinR (J : List Sp → List Sp → List Sp) (a b : RecS) : RecS := ⟨min a.first b.first, max a.last b.last, max a.began b.began, leastR a.out b.out, J a.reads b.reads, J a.writes b.writes⟩
/-- How lists of stretches are joined. -/
structure JoinC (J : List Sp → List Sp → List Sp) : Prop where
  norm : ∀ a b, normS (J a b)
  left : ∀ a b k, inP a k = true → inP (J a b) k = true
  right : ∀ a b k, inP b k = true → inP (J a b) k = true
def fitR (J : List Sp → List Sp → List Sp) : Nat → List RecS → List RecS
  | n, a :: b :: l => if max n 1 < (a :: b :: l).length then fitR J n (joinR J a b :: l) else a :: b :: l
  | _, l => l
  termination_by _ l => l.length
/-- A record that stands for another one: earlier and later, with all that it reads and writes. -/
structure UpR (a b : RecS) : Prop where
  first : b.first ≤ a.first
  last : a.last ≤ b.last
  began : a.began ≤ b.began
  out : a.out ≠ 0 → b.out ≠ 0 ∧ b.out ≤ a.out
  reads : ∀ k, inP a.reads k = true → inP b.reads k = true
  writes : ∀ k, inP a.writes k = true → inP b.writes k = true
theorem UpR.refl (a : RecS) : UpR a a := ⟨Nat.le_refl _, Nat.le_refl _, Nat.le_refl _, fun h => ⟨h, Nat.le_refl _⟩, fun _ h => h, fun _ h => h⟩
theorem UpR.trans {a b c : RecS} (h : UpR a b) (g : UpR b c) : UpR a c :=
  ⟨Nat.le_trans g.first h.first, Nat.le_trans h.last g.last, Nat.le_trans h.began g.began, fun e => by
    obtain ⟨h1, h2⟩ := h.out e
    obtain ⟨g1, g2⟩ := g.out h1
    exact ⟨g1, Nat.le_trans g2 h2⟩, fun k hk => g.reads k (h.reads k hk), fun k hk => g.writes k (h.writes k hk)⟩
section
variable {J : List Sp → List Sp → List Sp}
theorem up_left (hJ : JoinC J) (a b : RecS) : UpR a (joinR J a b) :=
  ⟨Nat.min_le_left _ _, Nat.le_max_left _ _, Nat.le_max_left _ _, fun h => by
    show leastR a.out b.out ≠ 0 ∧ leastR a.out b.out ≤ a.out
    unfold leastR
    by_cases hb : b.out = 0
    · rw [if_pos (.inr hb)]; omega
    · rw [if_neg (by omega)]; omega, hJ.left _ _, hJ.left _ _⟩
theorem up_right (hJ : JoinC J) (a b : RecS) : UpR b (joinR J a b) :=
  ⟨Nat.min_le_right _ _, Nat.le_max_right _ _, Nat.le_max_right _ _, fun h => by
    show leastR a.out b.out ≠ 0 ∧ leastR a.out b.out ≤ b.out
    unfold leastR
    by_cases ha : a.out = 0
    · rw [if_pos (.inl ha)]; omega
    · rw [if_neg (by omega)]; omega, hJ.right _ _, hJ.right _ _⟩
theorem rightR_iff (r : RecS) : rightR r = true ↔ 1 ≤ r.first ∧ r.first ≤ r.last ∧ r.began ≤ r.last ∧ normS r.reads ∧ normS r.writes := by
  simp only [rightR, Bool.and_eq_true, decide_eq_true_eq, normB_iff]
  constructor
  · rintro ⟨⟨⟨⟨h1, h2⟩, h3⟩, h4⟩, h5⟩
    exact ⟨h1, h2, h3, h4, h5⟩
  · rintro ⟨h1, h2, h3, h4, h5⟩
    exact ⟨⟨⟨⟨h1, h2⟩, h3⟩, h4⟩, h5⟩
theorem join_right (hJ : JoinC J) {a b : RecS} (ha : rightR a = true) (hb : rightR b = true) : rightR (joinR J a b) = true := by
  rw [rightR_iff] at *
  obtain ⟨h1, h2, h3, _, _⟩ := ha
  obtain ⟨g1, g2, g3, _, _⟩ := hb
  refine ⟨?_, ?_, ?_, hJ.norm _ _, hJ.norm _ _⟩
  · show 1 ≤ min a.first b.first
    omega
  · show min a.first b.first ≤ max a.last b.last
    omega
  · show max a.began b.began ≤ max a.last b.last
    omega
/-- Fewer records: right, and one for each. -/
theorem fitR_up (hJ : JoinC J) (n : Nat) : ∀ (m : Nat) (l : List RecS), l.length ≤ m → (∀ r ∈ l, rightR r = true) →
    (∀ r ∈ fitR J n l, rightR r = true) ∧ ∀ a ∈ l, ∃ b ∈ fitR J n l, UpR a b
  | _, [], _, hr => by unfold fitR; exact ⟨hr, fun a ha => ⟨a, ha, UpR.refl a⟩⟩
  | _, [x], _, hr => by unfold fitR; exact ⟨hr, fun a ha => ⟨a, ha, UpR.refl a⟩⟩
  | 0, x :: y :: l, h, _ => by simp at h
  | m + 1, x :: y :: l, h, hr => by
    unfold fitR
    split
    · have hx := hr x (List.mem_cons_self ..)
      have hy := hr y (List.mem_cons_of_mem _ (List.mem_cons_self ..))
      obtain ⟨k1, k2⟩ := fitR_up hJ n m (joinR J x y :: l) (by simp at h ⊢; omega) fun r hm => by
        rcases List.mem_cons.1 hm with rfl | hm
        · exact join_right hJ hx hy
        · exact hr r (List.mem_cons_of_mem _ (List.mem_cons_of_mem _ hm))
      refine ⟨k1, fun a ha => ?_⟩
      have go : ∀ c, c ∈ joinR J x y :: l → UpR a c → ∃ b ∈ fitR J n (joinR J x y :: l), UpR a b := fun c hc hu => by
        obtain ⟨b, hb, hcb⟩ := k2 c hc
        exact ⟨b, hb, hu.trans hcb⟩
      rcases List.mem_cons.1 ha with rfl | ha
      · exact go _ (List.mem_cons_self ..) (up_left hJ a y)
      · rcases List.mem_cons.1 ha with rfl | ha
        · exact go _ (List.mem_cons_self ..) (up_right hJ x a)
        · exact go a (List.mem_cons_of_mem _ ha) (UpR.refl a)
    · exact ⟨hr, fun a ha => ⟨a, ha, UpR.refl a⟩⟩
theorem fitR_few {n : Nat} {l : List RecS} (h : l.length ≤ max n 1) : fitR J n l = l := by
  match l, h with
  | [], _ => unfold fitR; rfl
  | [a], _ => unfold fitR; rfl
  | a :: b :: l, h =>
    unfold fitR
    rw [if_neg (by omega)]
theorem fitR_len (n : Nat) : ∀ (m : Nat) (l : List RecS), l.length ≤ m → max n 1 ≤ l.length → (fitR J n l).length = max n 1
  | _, [], _, h2 => by simp at h2
  | _, [x], _, h2 => by unfold fitR; simp at h2 ⊢; omega
  | 0, x :: y :: l, h, _ => by simp at h
  | m + 1, x :: y :: l, h, h2 => by
    unfold fitR
    split
    · rename_i hlt
      exact fitR_len n m _ (by simp at h ⊢; omega) (by simp at hlt ⊢; omega)
    · rename_i hlt
      simp only [List.length_cons] at hlt h2 ⊢
      omega
theorem fitR_step {n : Nat} {a b : RecS} {l : List RecS} (h : max n 1 < l.length + 2) : fitR J n (a :: b :: l) = fitR J n (joinR J a b :: l) := by
  rw [fitR, if_pos (by simpa using h)]
end
theorem empty_of {l : List Sp} (hn : normS l) (h : ∀ k, inP l k = false) : l = [] := by
  cases l with
  | nil => rfl
  | cons s l =>
    have h1 := h s.lo
    unfold inP at h1
    rw [List.any_cons, has_lo hn.1, Bool.true_or] at h1
    cases h1
/-- Records that stand for others are judged no better. -/
theorem judge_up {l m : List RecS} (hl : ∀ r ∈ l, rightR r = true) (hm : ∀ r ∈ m, rightR r = true) (h : ∀ a ∈ l, ∃ b ∈ m, UpR a b) (t : RecS) : NoBetter (judgeR m t) (judgeR l t) := by
  have hbes : ∀ a ∈ forgetR l t.began, rightR a = true ∧ ∃ b ∈ forgetR m t.began, rightR b = true ∧ UpR a b := fun a ha => by
    obtain ⟨h1, h2⟩ := List.mem_filter.1 ha
    obtain ⟨b, hb, hu⟩ := h a h1
    have h3 : t.began < a.last := by simpa using h2
    have := hu.last
    exact ⟨hl a h1, b, List.mem_filter.2 ⟨hb, by simp; omega⟩, hm b hb, hu⟩
  refine judge_mono (fun a ha => ((rightR_iff a).1 (hm a ha)).1) fun a ha => ?_
  obtain ⟨h1, h2⟩ := List.mem_filter.1 ha
  obtain ⟨_, b, hb, hbr, hu⟩ := hbes a h1
  refine ⟨b, List.mem_filter.2 ⟨hb, ?_⟩, hu.first, fun hs => ?_⟩
  · obtain ⟨k, g1, g2⟩ := (meetB_iff _ _).1 h2
    exact (meetB_iff _ _).2 ⟨k, g1, hu.writes k g2⟩
  · rw [Bool.or_eq_true] at hs ⊢
    rcases hs with g | g
    · left
      unfold outB at g ⊢
      rw [Bool.and_eq_true, Bool.or_eq_true] at g ⊢
      have hne : a.out ≠ 0 := by
        have := g.1
        simpa using this
      obtain ⟨k1, k2⟩ := hu.out hne
      refine ⟨by simpa using k1, ?_⟩
      rcases g.2 with e | e
      · exact .inl e
      · right
        have : a.out ≤ t.began := by simpa using e
        simp only [decide_eq_true_eq]
        omega
    · right
      obtain ⟨c, hc, g2⟩ := List.any_eq_true.1 g
      rw [Bool.and_eq_true] at g2
      obtain ⟨hcr, d, hd, hdr, hcd⟩ := hbes c hc
      refine List.any_eq_true.2 ⟨d, hd, ?_⟩
      rw [Bool.and_eq_true]
      obtain ⟨k, e1, e2⟩ := (meetB_iff _ _).1 g2.1
      refine ⟨(meetB_iff _ _).2 ⟨k, hcd.reads k e1, e2⟩, ?_⟩
      have hdan := g2.2
      obtain ⟨_, _, c3, _, c5⟩ := (rightR_iff c).1 hcr
      have f1 := hu.first
      have f2 := hcd.last
      have f3 := hcd.began
      unfold dangerR at hdan ⊢
      by_cases hde : d.writes.isEmpty = true
      · rw [if_pos hde]
        have hde2 : d.writes = [] := by simpa using hde
        have hce : c.writes = [] := empty_of c5 fun k => by
          cases hk : inP c.writes k
          · rfl
          · have := hcd.writes k hk
            rw [hde2] at this
            cases this
        rw [hce] at hdan
        have hx : a.first ≤ c.began := by simpa using hdan
        simp only [decide_eq_true_eq]
        omega
      · rw [if_neg hde]
        simp only [decide_eq_true_eq]
        split at hdan
        · have hx : a.first ≤ c.began := by simpa using hdan
          omega
        · have hx : a.first ≤ c.last := by simpa using hdan
          omega
theorem judge_fit {J : List Sp → List Sp → List Sp} (hJ : JoinC J) (n : Nat) {l : List RecS} (hl : ∀ r ∈ l, rightR r = true) (t : RecS) : NoBetter (judgeR (fitR J n l) t) (judgeR l t) := by
  obtain ⟨h1, h2⟩ := fitR_up hJ n _ l (Nat.le_refl _) hl
  exact judge_up hl h1 h2 t
end Go.Proofs.Ytjkmodfbbiojmaa
