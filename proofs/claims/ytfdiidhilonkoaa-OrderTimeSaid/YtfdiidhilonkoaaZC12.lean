import Derived.Test.YtfdiidhilonkoaaZC11
set_option linter.unusedVariables false
/-
  Two sorted rows side by side, brought into one: what each step comes to.
-/
namespace Go.Proofs.Ytfdiidhilonkoaa
open Go.RowKit

/-- One is brought from a up to k. -/
def brF (d : Nat → Int) (a k : Nat) : Nat → Int := fun p => if a ≤ p ∧ p < k then d (p + 1) else if p = k then d a else d p
/-- One is brought from m down to k. -/
def brB (d : Nat → Int) (m k : Nat) : Nat → Int := fun p => if k < p ∧ p ≤ m then d (p - 1) else if p = k then d m else d p
theorem brF_start (d : Nat → Int) (a : Nat) : ∀ p, brF d a a p = d p := fun p => by
  unfold brF
  repeat' split
  all_goals first | (exfalso; omega) | rfl | exact congrArg d (by omega)
theorem brB_start (d : Nat → Int) (m : Nat) : ∀ p, brB d m m p = d p := fun p => by
  unfold brB
  repeat' split
  all_goals first | (exfalso; omega) | rfl | exact congrArg d (by omega)
theorem brF_step (d : Nat → Int) {a k : Nat} (h : a ≤ k) : ∀ p, updI (updI (brF d a k) k (brF d a k (k + 1))) (k + 1) (brF d a k k) p = brF d a (k + 1) p := fun p => by
  unfold updI brF
  repeat' split
  all_goals first | (exfalso; omega) | rfl | exact congrArg d (by omega)
theorem brB_step (d : Nat → Int) {m k : Nat} (h : k + 1 ≤ m) : ∀ p, updI (updI (brB d m (k + 1)) (k + 1) (brB d m (k + 1) k)) k (brB d m (k + 1) (k + 1)) p = brB d m k p := fun p => by
  unfold updI brB
  repeat' split
  all_goals first | (exfalso; omega) | rfl | exact congrArg d (by omega)
def brFi (a k p : Nat) : Nat := if a ≤ p ∧ p < k then p + 1 else if p = k then a else p
def brBi (m k p : Nat) : Nat := if k < p ∧ p ≤ m then p - 1 else if p = k then m else p
def rotI (a m b p : Nat) : Nat := if a ≤ p ∧ p < a + (b - m) then p + (m - a) else if a + (b - m) ≤ p ∧ p < b then p - (b - m) else p
theorem brF_perm (d : Nat → Int) {a b k : Nat} (h1 : a ≤ k) (h2 : k < b) : PermO d (brF d a k) a b :=
  ⟨brFi a k, fun p => by
    unfold brF brFi
    repeat' split
    all_goals first | rfl | (exfalso; omega), fun x y h => by
    unfold brFi at h
    repeat' split at h
    all_goals omega, fun p hp => by
    unfold brFi
    repeat' split
    all_goals omega, fun p q1 q2 => by
    unfold brFi
    repeat' split
    all_goals omega⟩
theorem brB_perm (d : Nat → Int) {a m k : Nat} (h1 : a ≤ k) (h2 : k ≤ m) : PermO d (brB d m k) a (m + 1) :=
  ⟨brBi m k, fun p => by
    unfold brB brBi
    repeat' split
    all_goals first | rfl | (exfalso; omega), fun x y h => by
    unfold brBi at h
    repeat' split at h
    all_goals omega, fun p hp => by
    unfold brBi
    repeat' split
    all_goals omega, fun p q1 q2 => by
    unfold brBi
    repeat' split
    all_goals omega⟩
theorem rot_perm (d : Nat → Int) {a s m e b : Nat} (h0 : a ≤ s) (h1 : s ≤ m) (h2 : m ≤ e) (h3 : e ≤ b) : PermO d (rotF d s m e) a b :=
  ⟨rotI s m e, fun p => by
    unfold rotF rotI
    repeat' split
    all_goals first | rfl | (exfalso; omega), fun x y h => by
    unfold rotI at h
    repeat' split at h
    all_goals omega, fun p hp => by
    unfold rotI
    repeat' split
    all_goals omega, fun p q1 q2 => by
    unfold rotI
    repeat' split
    all_goals omega⟩
theorem rot_none (d : Nat → Int) {s m e : Nat} (h : ¬ (s < m ∧ m < e)) (h1 : s ≤ m) (h2 : m ≤ e) : ∀ k, d k = rotF d s m e k := fun k => by
  unfold rotF
  repeat' split
  all_goals first | rfl | exact congrArg d (by omega)
/-- From a up to m, and from m up to b, sorted, and all ahead came ahead. -/
structure TwoK (key : Int → Int) (d : Nat → Int) (a m b : Nat) : Prop where
  left : SortK key d a m
  right : SortK key d m b
  idx : ∀ i j, a ≤ i → i < m → m ≤ j → j < b → d i < d j
theorem TwoK.lt {key : Int → Int} {d : Nat → Int} {a m b i j : Nat} (h : TwoK key d a m b) (h1 : a ≤ i) (h2 : i < m) (h3 : m ≤ j) (h4 : j < b) (hk : ¬ key (d j) < key (d i)) : ltK key (d i) (d j) := by
  have := h.idx i j h1 h2 h3 h4
  unfold ltK
  omega
theorem le_of_sort {key : Int → Int} {d : Nat → Int} {a b i j : Nat} (h : SortK key d a b) (h1 : a ≤ i) (h2 : i ≤ j) (h3 : j < b) : key (d i) ≤ key (d j) := by
  by_cases e : i = j
  · rw [e]; exact Int.le_refl _
  · have := h i j h1 (by omega) h3
    unfold ltK at this
    omega
theorem one_left {key : Int → Int} {d : Nat → Int} {a b i : Nat} (h : TwoK key d a (a + 1) b) (h1 : a + 1 ≤ i) (h2 : i ≤ b) (hl : i = a + 1 ∨ key (d (i - 1)) < key (d a)) (hr : i = b ∨ ¬ key (d i) < key (d a)) : SortK key (brF d a (i - 1)) a b := by
  intro p q q1 q2 q3
  have hle : ∀ x, a + 1 ≤ x → x < i → ltK key (d x) (d a) := fun x x1 x2 => by
    have e1 := le_of_sort h.right (i := x) (j := i - 1) x1 (by omega) (by omega)
    unfold ltK
    omega
  have hge : ∀ x, i ≤ x → x < b → ltK key (d a) (d x) := fun x x1 x2 => by
    have e1 := le_of_sort h.right (i := i) (j := x) h1 x1 x2
    exact h.lt (Nat.le_refl _) (by omega) (by omega) x2 (by omega)
  unfold brF
  by_cases p1 : p < i - 1
  · rw [if_pos ⟨q1, p1⟩]
    by_cases r1 : q < i - 1
    · rw [if_pos ⟨by omega, r1⟩]
      exact h.right _ _ (by omega) (by omega) (by omega)
    · by_cases r2 : q = i - 1
      · rw [if_neg (by omega), if_pos r2]
        exact hle _ (by omega) (by omega)
      · rw [if_neg (by omega), if_neg r2]
        exact ltK_trans (hle _ (by omega) (by omega)) (hge _ (by omega) q3)
  · by_cases p2 : p = i - 1
    · rw [if_neg (by omega), if_pos p2, if_neg (by omega), if_neg (by omega)]
      exact hge _ (by omega) q3
    · rw [if_neg (by omega), if_neg p2, if_neg (by omega), if_neg (by omega)]
      exact h.right _ _ (by omega) q2 q3
theorem one_right {key : Int → Int} {d : Nat → Int} {a m i : Nat} (h : TwoK key d a m (m + 1)) (h1 : a ≤ i) (h2 : i ≤ m) (hl : i = a ∨ ¬ key (d m) < key (d (i - 1))) (hr : i = m ∨ key (d m) < key (d i)) : SortK key (brB d m i) a (m + 1) := by
  intro p q q1 q2 q3
  have hle : ∀ x, a ≤ x → x < i → ltK key (d x) (d m) := fun x x1 x2 => by
    have e1 := le_of_sort h.left (i := x) (j := i - 1) x1 (by omega) (by omega)
    exact h.lt x1 (by omega) (Nat.le_refl _) (by omega) (by omega)
  have hge : ∀ x, i ≤ x → x < m → ltK key (d m) (d x) := fun x x1 x2 => by
    have e1 := le_of_sort h.left (i := i) (j := x) h1 x1 x2
    unfold ltK
    omega
  unfold brB
  by_cases p1 : p < i
  · rw [if_neg (by omega), if_neg (by omega)]
    by_cases r1 : q < i
    · rw [if_neg (by omega), if_neg (by omega)]
      exact h.left _ _ q1 q2 (by omega)
    · by_cases r2 : q = i
      · rw [if_neg (by omega), if_pos r2]
        exact hle _ q1 p1
      · rw [if_pos (by omega)]
        exact ltK_trans (hle _ q1 p1) (hge _ (by omega) (by omega))
  · by_cases p2 : p = i
    · rw [if_neg (by omega), if_pos p2, if_pos (by omega)]
      exact hge _ (by omega) (by omega)
    · rw [if_pos (by omega), if_pos (by omega)]
      exact h.left _ _ (by omega) (by omega) (by omega)
/-- Where two rows are parted: s in the left one, e in the right one. -/
structure PartK (key : Int → Int) (d : Nat → Int) (a m b s e mid : Nat) : Prop where
  le : a ≤ s ∧ s ≤ m ∧ m ≤ e ∧ e ≤ b ∧ s + (e - m) = mid ∧ a ≤ mid ∧ mid ≤ b ∧ s ≤ mid ∧ mid ≤ e
  low : s = a ∨ e = b ∨ ¬ key (d e) < key (d (s - 1))
  high : s = m ∨ e = m ∨ key (d (e - 1)) < key (d s)
theorem PartK.cross {key : Int → Int} {d : Nat → Int} {a m b s e mid : Nat} (h : TwoK key d a m b) (k : PartK key d a m b s e mid) : ∀ i j, a ≤ i → i < mid → mid ≤ j → j < b → ltK key (rotF d s m e i) (rotF d s m e j) := by
  obtain ⟨⟨l1, l2, l3, l4, l5, l6, l7, l8, l9⟩, hl, hh⟩ := k
  intro i j i1 i2 j1 j2
  have w1 : ∀ x y, a ≤ x → x < s → e ≤ y → y < b → ltK key (d x) (d y) := fun x y x1 x2 y1 y2 => by
    have e1 := le_of_sort h.left (i := x) (j := s - 1) x1 (by omega) (by omega)
    have e2 := le_of_sort h.right (i := e) (j := y) (by omega) y1 y2
    exact h.lt x1 (by omega) (by omega) y2 (by omega)
  have w2 : ∀ x y, m ≤ x → x < e → s ≤ y → y < m → ltK key (d x) (d y) := fun x y x1 x2 y1 y2 => by
    have e1 := le_of_sort h.right (i := x) (j := e - 1) x1 (by omega) (by omega)
    have e2 := le_of_sort h.left (i := s) (j := y) (by omega) y1 y2
    unfold ltK
    omega
  unfold rotF
  by_cases c1 : i < s
  · rw [if_neg (by omega), if_neg (by omega)]
    by_cases c2 : j < e
    · rw [if_neg (by omega), if_pos (by omega)]
      exact h.left _ _ i1 (by omega) (by omega)
    · rw [if_neg (by omega), if_neg (by omega)]
      exact w1 _ _ i1 c1 (by omega) j2
  · rw [if_pos (by omega)]
    by_cases c2 : j < e
    · rw [if_neg (by omega), if_pos (by omega)]
      exact w2 _ _ (by omega) (by omega) (by omega) (by omega)
    · rw [if_neg (by omega), if_neg (by omega)]
      exact h.right _ _ (by omega) (by omega) j2
theorem PartK.one {key : Int → Int} {d : Nat → Int} {a m b s e mid : Nat} (h : TwoK key d a m b) (k : PartK key d a m b s e mid) : TwoK key (rotF d s m e) a s mid := by
  obtain ⟨⟨l1, l2, l3, l4, l5, l6, l7, l8, l9⟩, hl, hh⟩ := k
  refine ⟨fun i j i1 i2 i3 => ?_, fun i j i1 i2 i3 => ?_, fun i j i1 i2 i3 i4 => ?_⟩
  · unfold rotF
    rw [if_neg (by omega), if_neg (by omega), if_neg (by omega), if_neg (by omega)]
    exact h.left _ _ i1 i2 (by omega)
  · unfold rotF
    rw [if_pos (by omega), if_pos (by omega)]
    exact h.right _ _ (by omega) (by omega) (by omega)
  · unfold rotF
    rw [if_neg (by omega), if_neg (by omega), if_pos (by omega)]
    exact h.idx _ _ i1 (by omega) (by omega) (by omega)
theorem PartK.two {key : Int → Int} {d : Nat → Int} {a m b s e mid : Nat} (h : TwoK key d a m b) (k : PartK key d a m b s e mid) : TwoK key (rotF d s m e) mid e b := by
  obtain ⟨⟨l1, l2, l3, l4, l5, l6, l7, l8, l9⟩, hl, hh⟩ := k
  refine ⟨fun i j i1 i2 i3 => ?_, fun i j i1 i2 i3 => ?_, fun i j i1 i2 i3 i4 => ?_⟩
  · unfold rotF
    rw [if_neg (by omega), if_pos (by omega), if_neg (by omega), if_pos (by omega)]
    exact h.left _ _ (by omega) (by omega) (by omega)
  · unfold rotF
    rw [if_neg (by omega), if_neg (by omega), if_neg (by omega), if_neg (by omega)]
    exact h.right _ _ (by omega) i2 i3
  · unfold rotF
    rw [if_neg (by omega), if_pos (by omega), if_neg (by omega), if_neg (by omega)]
    exact h.idx _ _ (by omega) (by omega) (by omega) i4
theorem TwoK.whole {key : Int → Int} {d : Nat → Int} {a m b : Nat} (h : TwoK key d a m b) (he : m = a ∨ m = b) : SortK key d a b := by
  rcases he with e | e
  · rw [← e]; exact h.right
  · rw [← e]; exact h.left
/-- Rows that read alike there. -/
theorem TwoK.eq {key : Int → Int} {d e : Nat → Int} {a m b : Nat} (h : TwoK key d a m b) (he : ∀ i, a ≤ i → i < b → e i = d i) (hm : a ≤ m) (hm2 : m ≤ b) : TwoK key e a m b :=
  ⟨fun i j i1 i2 i3 => by rw [he i i1 (by omega), he j (by omega) (by omega)]; exact h.left i j i1 i2 i3, fun i j i1 i2 i3 => by rw [he i (by omega) (by omega), he j (by omega) i3]; exact h.right i j i1 i2 i3,
    fun i j i1 i2 i3 i4 => by rw [he i i1 (by omega), he j (by omega) i4]; exact h.idx i j i1 i2 i3 i4⟩
/-- Both halves sorted: all is sorted. -/
theorem whole_of {key : Int → Int} {d e f : Nat → Int} {a mid b : Nat} (hc : ∀ i j, a ≤ i → i < mid → mid ≤ j → j < b → ltK key (d i) (d j)) (h1 : a ≤ mid) (h2 : mid ≤ b) (p1 : PermO d e a mid) (p2 : PermO e f mid b) (s1 : SortK key e a mid) (s2 : SortK key f mid b) : SortK key f a b := by
  intro i j i1 i2 i3
  by_cases c1 : j < mid
  · rw [p2.out (by omega), p2.out (k := j) (by omega)]
    exact s1 i j i1 i2 c1
  · by_cases c2 : mid ≤ i
    · exact s2 i j c2 i2 i3
    · rw [p2.out (k := i) (by omega)]
      obtain ⟨x, x1, x2, ex⟩ := p1.in_ (k := i) i1 (by omega)
      obtain ⟨y, y1, y2, ey⟩ := p2.in_ (k := j) (by omega) i3
      rw [ex, ey, p1.out (by omega)]
      exact hc x y x1 x2 y1 y2
end Go.Proofs.Ytfdiidhilonkoaa
