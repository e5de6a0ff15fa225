import Derived.Test.YtfdiidhilonkoaaZC04
set_option linter.unusedVariables false
/-
  Stretches of keys in plain words: what lies in them, normal lists, and that a normal list is told by what lies in it.
-/
namespace Go.Proofs.Ytfdiidhilonkoaa

/-- A stretch: from lo on up to ahead of hi; to the end, if hi is empty. -/
structure Sp where
  lo : List UInt8
  hi : List UInt8
abbrev blo (a b : List UInt8) : Bool := !blt b a
def endS (hi k : List UInt8) : Bool := hi.isEmpty || blt k hi
def hasS (s : Sp) (k : List UInt8) : Bool := blo s.lo k && endS s.hi k
def rightS (s : Sp) : Bool := endS s.hi s.lo
def inP (l : List Sp) (k : List UInt8) : Bool := l.any fun s => hasS s k
/-- Does a stretch end, and ahead of where another one begins? -/
def gapS (s t : Sp) : Prop := s.hi ≠ [] ∧ blt s.hi t.lo = true
def normS : List Sp → Prop
  | [] => True
  | s :: l => rightS s = true ∧ (∀ t ∈ l, gapS s t) ∧ normS l

theorem blt_irr {a b : List UInt8} (h : blt a b = true) : a ≠ b := fun e => by
  rw [e, blt_self] at h
  cases h
theorem blo_refl (a : List UInt8) : blo a a = true := by simp [blo, blt_self]
theorem blo_of {a b : List UInt8} (h : blt a b = true) : blo a b = true := by simp [blo, blt_asymm h]
theorem blo_iff {a b : List UInt8} : blo a b = true ↔ blt a b = true ∨ a = b := by
  constructor
  · intro h
    rcases blt_tri a b with g | g | g
    · exact .inl g
    · exact .inr g
    · simp [blo, g] at h
  · rintro (h | rfl)
    · exact blo_of h
    · exact blo_refl _
theorem blo_lt {a b c : List UInt8} (h : blo a b = true) (h2 : blt b c = true) : blt a c = true := by
  rcases blo_iff.1 h with g | rfl
  · exact blt_trans g h2
  · exact h2
theorem lt_blo {a b c : List UInt8} (h : blt a b = true) (h2 : blo b c = true) : blt a c = true := by
  rcases blo_iff.1 h2 with g | rfl
  · exact blt_trans h g
  · exact h
theorem blo_trans {a b c : List UInt8} (h : blo a b = true) (h2 : blo b c = true) : blo a c = true := by
  rcases blo_iff.1 h with g | rfl
  · exact blo_of (lt_blo g h2)
  · exact h2
theorem blo_anti {a b : List UInt8} (h : blo a b = true) (h2 : blo b a = true) : a = b := by
  rcases blo_iff.1 h with g | g
  · rw [blo, g] at h2; cases h2
  · exact g
theorem not_blo {a b : List UInt8} (h : ¬ blo a b = true) : blt b a = true := by
  rcases blt_tri a b with g | g | g
  · exact absurd (blo_of g) h
  · exact absurd (g ▸ blo_refl a) h
  · exact g

theorem has_lo {s : Sp} (h : rightS s = true) : hasS s s.lo = true := by
  unfold hasS
  rw [blo_refl]
  exact h
theorem has_iff {s : Sp} {k : List UInt8} : hasS s k = true ↔ blo s.lo k = true ∧ endS s.hi k = true := by
  unfold hasS
  rw [Bool.and_eq_true]
theorem end_iff {hi k : List UInt8} : endS hi k = true ↔ hi = [] ∨ blt k hi = true := by
  unfold endS
  rw [Bool.or_eq_true, List.isEmpty_iff]
theorem in_iff {l : List Sp} {k : List UInt8} : inP l k = true ↔ ∃ s ∈ l, hasS s k = true := by
  unfold inP
  rw [List.any_eq_true]
theorem gap_lo {s t : Sp} (h : rightS s = true) (hg : gapS s t) : blt s.lo t.lo = true := by
  rcases end_iff.1 h with g | g
  · exact absurd g hg.1
  · exact blt_trans g hg.2
/-- Where a normal list's first one ends nothing lies. -/
theorem gap_not {s : Sp} {l : List Sp} (hg : ∀ t ∈ l, gapS s t) {k : List UInt8} (hk : blo k s.hi = true) : inP l k = false := by
  cases h : inP l k
  · rfl
  · obtain ⟨t, ht, hh⟩ := in_iff.1 h
    have h1 := (has_iff.1 hh).1
    have h2 := lt_blo (hg t ht).2 h1
    have h3 := blo_lt hk h2
    rw [blt_self] at h3
    cases h3
theorem norm_lo {s : Sp} {l : List Sp} (h : normS (s :: l)) {k : List UInt8} (hk : inP (s :: l) k = true) : blo s.lo k = true := by
  obtain ⟨t, ht, hh⟩ := in_iff.1 hk
  rcases List.mem_cons.1 ht with rfl | ht
  · exact (has_iff.1 hh).1
  · exact blo_trans (blo_of (gap_lo h.1 (h.2.1 t ht))) (has_iff.1 hh).1
/-- A normal list is told by what lies in it. -/
theorem norm_eq : ∀ {a b : List Sp}, normS a → normS b → (∀ k, inP a k = inP b k) → a = b
  | [], [], _, _, _ => rfl
  | [], t :: b, _, hb, h => by
    have := h t.lo
    rw [in_iff.2 ⟨t, List.mem_cons_self .., has_lo hb.1⟩] at this
    cases this
  | s :: a, [], ha, _, h => by
    have := h s.lo
    rw [in_iff.2 ⟨s, List.mem_cons_self .., has_lo ha.1⟩] at this
    cases this
  | s :: a, t :: b, ha, hb, h => by
    have hs : inP (s :: a) s.lo = true := in_iff.2 ⟨s, List.mem_cons_self .., has_lo ha.1⟩
    have ht : inP (t :: b) t.lo = true := in_iff.2 ⟨t, List.mem_cons_self .., has_lo hb.1⟩
    have e1 : s.lo = t.lo := blo_anti (norm_lo ha (by rw [h]; exact ht)) (norm_lo hb (by rw [← h]; exact hs))
    -- where the one ends, and the other does not
    have key : ∀ {x y : Sp} {p q : List Sp}, normS (x :: p) → normS (y :: q) → x.lo = y.lo → (∀ k, inP (x :: p) k = inP (y :: q) k) → x.hi ≠ [] → endS y.hi x.hi = true → False := by
      intro x y p q hx hy e hh hne hend
      have hxl : blt x.lo x.hi = true := by
        rcases end_iff.1 hx.1 with g | g
        · exact absurd g hne
        · exact g
      have h1 : inP (y :: q) x.hi = true := in_iff.2 ⟨y, List.mem_cons_self .., has_iff.2 ⟨by rw [← e]; exact blo_of hxl, hend⟩⟩
      rw [← hh] at h1
      obtain ⟨z, hz, hzz⟩ := in_iff.1 h1
      rcases List.mem_cons.1 hz with rfl | hz
      · rcases end_iff.1 (has_iff.1 hzz).2 with g | g
        · exact hne g
        · rw [blt_self] at g; cases g
      · have := gap_not hx.2.1 (blo_refl x.hi)
        rw [in_iff.2 ⟨z, hz, hzz⟩] at this
        cases this
    have e2 : s.hi = t.hi := by
      by_cases hs0 : s.hi = []
      · by_cases ht0 : t.hi = []
        · rw [hs0, ht0]
        · exact (key hb ha e1.symm (fun k => (h k).symm) ht0 (end_iff.2 (.inl hs0))).elim
      · by_cases ht0 : t.hi = []
        · exact (key ha hb e1 h hs0 (end_iff.2 (.inl ht0))).elim
        · rcases blt_tri s.hi t.hi with g | g | g
          · exact (key ha hb e1 h hs0 (end_iff.2 (.inr g))).elim
          · exact g
          · exact (key hb ha e1.symm (fun k => (h k).symm) ht0 (end_iff.2 (.inr g))).elim
    have e : s = t := by cases s; cases t; simp only at e1 e2; subst e1 e2; rfl
    subst e
    have ht : ∀ k, inP a k = inP b k := fun k => by
      have hk := h k
      have c : ∀ l : List Sp, inP (s :: l) k = (hasS s k || inP l k) := fun l => by simp [inP]
      rw [c, c] at hk
      cases hq : hasS s k
      · rw [hq, Bool.false_or, Bool.false_or] at hk
        exact hk
      · rcases end_iff.1 (has_iff.1 hq).2 with g | g
        · have na : a = [] := by
            cases a with
            | nil => rfl
            | cons x a => exact absurd g (ha.2.1 x (List.mem_cons_self ..)).1
          have nb : b = [] := by
            cases b with
            | nil => rfl
            | cons x b => exact absurd g (hb.2.1 x (List.mem_cons_self ..)).1
          rw [na, nb]
        · rw [gap_not ha.2.1 (blo_of g), gap_not hb.2.1 (blo_of g)]
    rw [norm_eq ha.2.2 hb.2.2 ht]

/-! ### two that meet, or touch -/
def maxS (a b : List UInt8) : List UInt8 := if blt a b = true then b else a
def minS (a b : List UInt8) : List UInt8 := if blt a b = true then a else b
def meetsS (a b : Sp) : Bool := hasS a (maxS a.lo b.lo) && hasS b (maxS a.lo b.lo)
theorem max_le {a b k : List UInt8} : blo (maxS a b) k = true ↔ blo a k = true ∧ blo b k = true := by
  unfold maxS
  split
  · next h => exact ⟨fun g => ⟨blo_trans (blo_of h) g, g⟩, fun g => g.2⟩
  · next h =>
    have hba : blo b a = true := by simp [blo, h]
    exact ⟨fun g => ⟨g, blo_trans hba g⟩, fun g => g.1⟩
theorem end_down {hi k j : List UInt8} (h : endS hi k = true) (hj : blo j k = true) : endS hi j = true := by
  rcases end_iff.1 h with g | g
  · exact end_iff.2 (.inl g)
  · exact end_iff.2 (.inr (blo_lt hj g))
/-- Two stretches meet just if something lies in both. -/
theorem meets_iff (a b : Sp) : meetsS a b = true ↔ ∃ k, hasS a k = true ∧ hasS b k = true := by
  unfold meetsS
  rw [Bool.and_eq_true]
  constructor
  · exact fun h => ⟨_, h⟩
  · rintro ⟨k, ha, hb⟩
    obtain ⟨a1, a2⟩ := has_iff.1 ha
    obtain ⟨b1, b2⟩ := has_iff.1 hb
    have hm := max_le.2 ⟨a1, b1⟩
    have hr := max_le.1 (blo_refl (maxS a.lo b.lo))
    exact ⟨has_iff.2 ⟨hr.1, end_down a2 hm⟩, has_iff.2 ⟨hr.2, end_down b2 hm⟩⟩
end Go.Proofs.Ytfdiidhilonkoaa
