import Derived.Test.YtfdiidhilonkoaaZC18
import Derived.Test.YtfdiidhilonkoaaZC01
import Derived.Test.YtfdiidhilonkoaaZC04
set_option linter.unusedVariables false
/-
  Stretches of keys in plain words: normal lists as a test, lists that meet, rising lists that are united, and lists made fewer in one step.
-/
namespace Go.Proofs.Ytfdiidhilonkoaa

instance : DecidableEq Sp := fun a b => decidable_of_iff (a.lo = b.lo ∧ a.hi = b.hi) (by cases a; cases b; simp)
def sp0 : Sp := ⟨[], []⟩
/-! ### normal, as a test -/
def gapB (s t : Sp) : Bool := !s.hi.isEmpty && blt s.hi t.lo
theorem gapB_iff {s t : Sp} : gapB s t = true ↔ gapS s t := by
  unfold gapB gapS
  rw [Bool.and_eq_true, Bool.not_eq_true', List.isEmpty_eq_false_iff]
def normB : List Sp → Bool
  | [] => true
  | [s] => rightS s
  | s :: t :: l => rightS s && gapB s t && normB (t :: l)
theorem normB_iff : ∀ {l : List Sp}, normB l = true ↔ normS l
  | [] => ⟨fun _ => trivial, fun _ => rfl⟩
  | [s] => by
    show rightS s = true ↔ _
    exact ⟨fun h => ⟨h, (fun _ ht => by cases ht), trivial⟩, fun h => h.1⟩
  | s :: t :: l => by
    show (rightS s && gapB s t && normB (t :: l)) = true ↔ _
    rw [Bool.and_eq_true, Bool.and_eq_true, gapB_iff, normB_iff]
    constructor
    · rintro ⟨⟨h1, h2⟩, h3⟩
      refine ⟨h1, fun x hx => ?_, h3⟩
      rcases List.mem_cons.1 hx with rfl | hx
      · exact h2
      · exact gap_trans h3.1 h2 (h3.2.1 x hx)
    · rintro ⟨h1, h2, h3⟩
      exact ⟨⟨h1, h2 t (List.mem_cons_self ..)⟩, h3⟩
theorem normB_at : ∀ {l : List Sp}, normB l = true → ∀ (j : Nat) (h : j < l.length), rightS (l[j]'h) = true ∧ ∀ (i : Nat) (hi : i + 1 = j), gapB (l[i]'(by omega)) (l[j]'h) = true
  | [s], h, 0, _ => ⟨h, fun i hi => by omega⟩
  | s :: t :: l, h, j, hj => by
    have h' : (rightS s && gapB s t && normB (t :: l)) = true := h
    rw [Bool.and_eq_true, Bool.and_eq_true] at h'
    cases j with
    | zero => exact ⟨h'.1.1, fun i hi => by omega⟩
    | succ j =>
      obtain ⟨k1, k2⟩ := normB_at h'.2 j (by simpa using hj)
      refine ⟨k1, fun i hi => ?_⟩
      cases i with
      | zero =>
        obtain rfl : j = 0 := by omega
        exact h'.1.2
      | succ i => exact k2 i (by omega)
theorem normB_of : ∀ {l : List Sp}, (∀ (j : Nat) (h : j < l.length), rightS (l[j]'h) = true) → (∀ (j : Nat) (h : j + 1 < l.length), gapB (l[j]'(by omega)) (l[j + 1]'h) = true) → normB l = true
  | [], _, _ => rfl
  | [s], h, _ => h 0 (by simp)
  | s :: t :: l, h, g => by
    show (rightS s && gapB s t && normB (t :: l)) = true
    rw [Bool.and_eq_true, Bool.and_eq_true]
    exact ⟨⟨h 0 (by simp), g 0 (by simp)⟩, normB_of (fun j hj => h (j + 1) (by simpa using hj)) (fun j hj => g (j + 1) (by simpa using hj))⟩
/-- Where the walk of a list has come without a fault. -/
def goodTo (l : List Sp) (j : Nat) : Prop := (∀ (i : Nat) (h : i < l.length), i < j → rightS (l[i]'h) = true) ∧ (∀ (i : Nat) (h : i + 1 < l.length), i + 1 < j → gapB (l[i]'(by omega)) (l[i + 1]'h) = true)
theorem good_zero (l : List Sp) : goodTo l 0 := ⟨fun i _ h => by omega, fun i _ h => by omega⟩
theorem good_all {l : List Sp} (h : goodTo l l.length) : normB l = true := normB_of (fun j hj => h.1 j hj hj) (fun j hj => h.2 j hj hj)
theorem good_next {l : List Sp} {j : Nat} (h : goodTo l j) (hj : j < l.length) (h1 : rightS (l[j]'hj) = true) (h2 : ∀ i (hi : i + 1 = j), gapB (l[i]'(by omega)) (l[j]'hj) = true) : goodTo l (j + 1) := by
  refine ⟨fun i hi hlt => ?_, fun i hi hlt => ?_⟩
  · by_cases e : i = j
    · subst e; exact h1
    · exact h.1 i hi (by omega)
  · by_cases e : i + 1 = j
    · subst e; exact h2 i rfl
    · exact h.2 i hi (by omega)
theorem bad_right {l : List Sp} {j : Nat} (hj : j < l.length) (h : rightS (l[j]'hj) = false) : normB l = false := by
  cases hn : normB l
  · rfl
  · rw [(normB_at hn j hj).1] at h
    cases h
theorem bad_gap {l : List Sp} {i j : Nat} (hi : i + 1 = j) (hj : j < l.length) (h : gapB (l[i]'(by omega)) (l[j]'hj) = false) : normB l = false := by
  cases hn : normB l
  · rfl
  · rw [(normB_at hn j hj).2 i hi] at h
    cases h

/-! ### two lists that meet -/
def meetB (a b : List Sp) : Bool := a.any fun x => b.any fun y => meetsS x y
theorem meetB_iff (a b : List Sp) : meetB a b = true ↔ ∃ k, inP a k = true ∧ inP b k = true := by
  unfold meetB
  rw [List.any_eq_true]
  constructor
  · rintro ⟨x, hx, h⟩
    obtain ⟨y, hy, h⟩ := List.any_eq_true.1 h
    obtain ⟨k, h1, h2⟩ := (meets_iff x y).1 h
    exact ⟨k, in_iff.2 ⟨x, hx, h1⟩, in_iff.2 ⟨y, hy, h2⟩⟩
  · rintro ⟨k, h1, h2⟩
    obtain ⟨x, hx, h1⟩ := in_iff.1 h1
    obtain ⟨y, hy, h2⟩ := in_iff.1 h2
    exact ⟨x, hx, List.any_eq_true.2 ⟨y, hy, (meets_iff x y).2 ⟨k, h1, h2⟩⟩⟩
theorem meet_same {a b a' b' : List Sp} (ha : ∀ k, inP a k = inP a' k) (hb : ∀ k, inP b k = inP b' k) : meetB a b = meetB a' b' := by
  rw [Bool.eq_iff_iff, meetB_iff, meetB_iff]
  simp only [ha, hb]
theorem meet_comm (a b : List Sp) : meetB a b = meetB b a := by
  rw [Bool.eq_iff_iff, meetB_iff, meetB_iff]
  exact ⟨fun ⟨k, h1, h2⟩ => ⟨k, h2, h1⟩, fun ⟨k, h1, h2⟩ => ⟨k, h2, h1⟩⟩
theorem meet_join (a b : List Sp) : meetB (joinSp a) (joinSp b) = meetB a b := meet_same (join_in a) (join_in b)
theorem meet_false {a b : List Sp} (h : ∀ x ∈ a, ∀ y ∈ b, meetsS x y = false) : meetB a b = false := by
  cases hm : meetB a b
  · rfl
  · unfold meetB at hm
    rw [List.any_eq_true] at hm
    obtain ⟨x, hx, hm⟩ := hm
    obtain ⟨y, hy, hm⟩ := List.any_eq_true.1 hm
    rw [h x hx y hy] at hm
    cases hm
theorem meet_true {a b : List Sp} {x y : Sp} (hx : x ∈ a) (hy : y ∈ b) (h : meetsS x y = true) : meetB a b = true := by
  unfold meetB
  rw [List.any_eq_true]
  exact ⟨x, hx, List.any_eq_true.2 ⟨y, hy, h⟩⟩
/-- Two meet just if both are right, and each begins ahead of where the other one ends. -/
theorem meets_ends (a b : Sp) : meetsS a b = (rightS a && rightS b && endS b.hi a.lo && endS a.hi b.lo) := by
  rw [Bool.eq_iff_iff, meets_iff, Bool.and_eq_true, Bool.and_eq_true, Bool.and_eq_true]
  constructor
  · rintro ⟨k, h1, h2⟩
    obtain ⟨a1, a2⟩ := has_iff.1 h1
    obtain ⟨b1, b2⟩ := has_iff.1 h2
    exact ⟨⟨⟨end_down a2 a1, end_down b2 b1⟩, end_down b2 a1⟩, end_down a2 b1⟩
  · rintro ⟨⟨⟨h1, h2⟩, h3⟩, h4⟩
    by_cases hl : blo a.lo b.lo = true
    · exact ⟨b.lo, has_iff.2 ⟨hl, h4⟩, has_iff.2 ⟨blo_refl _, h2⟩⟩
    · exact ⟨a.lo, has_iff.2 ⟨blo_refl _, h1⟩, has_iff.2 ⟨blo_of (not_blo hl), h3⟩⟩
theorem norm_at {l : List Sp} (h : normS l) {i j : Nat} (hij : i < j) (hj : j < l.length) : gapS (l[i]'(by omega)) (l[j]'hj) := by
  induction l generalizing i j with
  | nil => exact absurd hj (by simp)
  | cons s l ih =>
    cases j with
    | zero => omega
    | succ j =>
      have hj' : j < l.length := by simpa using hj
      cases i with
      | zero => exact h.2.1 _ (List.getElem_mem hj')
      | succ i => exact ih h.2.2 (by omega) hj'
/-- Those of b ahead of n, and those of a ahead of i, meet nothing any more. -/
def doneTo (a b : List Sp) (i n : Nat) : Prop := (∀ (p : Nat) (hp : p < a.length) (q : Nat) (hq : q < b.length), p < i → meetsS (a[p]'hp) (b[q]'hq) = false) ∧ (∀ (p : Nat) (hp : p < a.length) (q : Nat) (hq : q < b.length), q < n → meetsS (a[p]'hp) (b[q]'hq) = false)
theorem done_zero (a b : List Sp) : doneTo a b 0 0 := ⟨fun _ _ _ _ h => by omega, fun _ _ _ _ h => by omega⟩
theorem done_a {a b : List Sp} {i n : Nat} (hi : a.length ≤ i) (h : doneTo a b i n) : meetB a b = false := meet_false fun x hx y hy => by
  obtain ⟨p, hp, rfl⟩ := List.getElem_of_mem hx
  obtain ⟨q, hq, rfl⟩ := List.getElem_of_mem hy
  exact h.1 p hp q hq (by omega)
theorem done_b {a b : List Sp} {i n : Nat} (hn : b.length ≤ n) (h : doneTo a b i n) : meetB a b = false := meet_false fun x hx y hy => by
  obtain ⟨p, hp, rfl⟩ := List.getElem_of_mem hx
  obtain ⟨q, hq, rfl⟩ := List.getElem_of_mem hy
  exact h.2 p hp q hq (by omega)
theorem no_meet_end {x y : Sp} (h : endS x.hi y.lo = false) : meetsS x y = false := by
  rw [meets_ends, h, Bool.and_false]
theorem no_meet_end2 {x y : Sp} (h : endS y.hi x.lo = false) : meetsS x y = false := by
  rw [meets_ends, h, Bool.and_false, Bool.false_and]
theorem end_up {hi k j : List UInt8} (h : endS hi k = false) (hj : blo k j = true) : endS hi j = false := by
  cases he : endS hi j
  · rfl
  · rw [end_down he hj] at h
    cases h
/-- What begins where this one of a has ended meets it not, nor does what follows. -/
theorem done_next_a {a b : List Sp} (hb : normS b) {i n : Nat} (h : doneTo a b i n) (hi : i < a.length) (hn : n < b.length) (he : endS (a[i]'hi).hi (b[n]'hn).lo = false) : doneTo a b (i + 1) n := by
  refine ⟨fun p hp q hq hlt => ?_, h.2⟩
  by_cases e : p = i
  · subst e
    by_cases hqn : q < n
    · exact h.2 p hp q hq hqn
    · refine no_meet_end (end_up he ?_)
      by_cases e2 : n = q
      · subst e2; exact blo_refl _
      · exact blo_of (gap_lo (norm_right hb _ (List.getElem_mem hn)) (norm_at hb (by omega) hq))
  · exact h.1 p hp q hq (by omega)
/-- One of b that begins ahead of this one's end, and does not meet it, has ended ahead of it, and of what follows. -/
theorem done_next_b {a b : List Sp} (ha : normS a) (hb : normS b) {i n : Nat} (h : doneTo a b i n) (hi : i < a.length) (hn : n < b.length) (he : endS (a[i]'hi).hi (b[n]'hn).lo = true) (hm : meetsS (a[i]'hi) (b[n]'hn) = false) : doneTo a b i (n + 1) := by
  refine ⟨h.1, fun p hp q hq hlt => ?_⟩
  by_cases e : q = n
  · subst e
    by_cases hpi : p < i
    · exact h.1 p hp q hq hpi
    · have h1 := norm_right ha _ (List.getElem_mem hi)
      have h2 := norm_right hb _ (List.getElem_mem hn)
      rw [meets_ends, h1, h2, he] at hm
      have h3 : endS (b[q]'hq).hi (a[i]'hi).lo = false := by simpa using hm
      refine no_meet_end2 (end_up h3 ?_)
      by_cases e2 : i = p
      · subst e2; exact blo_refl _
      · exact blo_of (gap_lo h1 (norm_at ha (by omega) hp))
  · exact h.2 p hp q hq (by omega)

/-! ### what rises, united in one going over -/
def laterS (a b : List UInt8) : List UInt8 := if a ≠ [] ∧ endS b a = true then b else a
theorem later_end (a b k : List UInt8) : endS (laterS a b) k = (endS a k || endS b k) := by
  rw [Bool.eq_iff_iff, Bool.or_eq_true]
  unfold laterS
  split
  · next h =>
    refine ⟨.inr, fun g => g.elim (fun g => ?_) id⟩
    rcases end_iff.1 g with g | g
    · exact absurd g h.1
    · exact end_down h.2 (blo_of g)
  · next h =>
    refine ⟨.inl, fun g => g.elim id fun g => ?_⟩
    by_cases ha : a = []
    · exact end_iff.2 (.inl ha)
    · have hb : ¬ endS b a = true := fun e => h ⟨ha, e⟩
      have hb2 : endS b a = false := by simpa using hb
      cases hk : blo a k
      · exact end_iff.2 (.inr (not_blo (by rw [hk]; simp)))
      · rw [end_up hb2 hk] at g
        cases g
/-- The list so far, and the next stretch. -/
def stepU (out : List Sp) (s : Sp) : List Sp :=
  match out.getLast? with
  | none => [s]
  | some t => if gapB t s = true then out ++ [s] else out.dropLast ++ [⟨t.lo, laterS t.hi s.hi⟩]
theorem stepU_nil (s : Sp) : stepU [] s = [s] := rfl
theorem stepU_snoc (o : List Sp) (t s : Sp) : stepU (o ++ [t]) s = if gapB t s = true then o ++ [t] ++ [s] else o ++ [⟨t.lo, laterS t.hi s.hi⟩] := by
  unfold stepU
  rw [List.getLast?_concat, List.dropLast_concat]
theorem norm_split : ∀ {a b : List Sp}, normS (a ++ b) → normS a ∧ normS b ∧ ∀ x ∈ a, ∀ y ∈ b, gapS x y
  | [], _, h => ⟨trivial, h, fun _ hx => by cases hx⟩
  | x :: a, b, h => by
    obtain ⟨h1, h2, h3⟩ := norm_split (a := a) h.2.2
    refine ⟨⟨h.1, fun t ht => h.2.1 t (List.mem_append_left _ ht), h1⟩, h2, fun y hy z hz => ?_⟩
    rcases List.mem_cons.1 hy with rfl | hy
    · exact h.2.1 z (List.mem_append_right _ hz)
    · exact h3 y hy z hz
theorem in_append (a b : List Sp) (k : List UInt8) : inP (a ++ b) k = (inP a k || inP b k) := by simp [inP]
theorem in_one (s : Sp) (k : List UInt8) : inP [s] k = hasS s k := by simp [inP]
/-- The last one of what has come begins no later than the next one. -/
theorem step_norm {out : List Sp} {s : Sp} (hn : normS out) (hs : rightS s = true) (hle : ∀ x ∈ out, blo x.lo s.lo = true) : normS (stepU out s) ∧ (∀ k, inP (stepU out s) k = (inP out k || hasS s k)) ∧ ∀ x ∈ stepU out s, blo x.lo s.lo = true := by
  rcases List.eq_nil_or_concat out with rfl | ⟨o, t, rfl⟩
  · rw [stepU_nil]
    refine ⟨⟨hs, (fun _ h => by cases h), trivial⟩, fun k => by rw [in_one]; simp [inP], fun x hx => ?_⟩
    rw [List.mem_singleton] at hx
    rw [hx]
    exact blo_refl _
  · rw [List.concat_eq_append] at hn hle ⊢
    rw [stepU_snoc]
    obtain ⟨n1, n2, n3⟩ := norm_split hn
    have ht := n2.1
    have hlt := hle t (List.mem_append_right _ (List.mem_singleton.2 rfl))
    by_cases hg : gapB t s = true
    · rw [if_pos hg]
      have hg' := gapB_iff.1 hg
      refine ⟨norm_append hn ⟨hs, (fun _ h => by cases h), trivial⟩ fun x hx y hy => ?_, fun k => by rw [in_append _ [s], in_one], fun x hx => ?_⟩
      · rw [List.mem_singleton] at hy
        subst hy
        rcases List.mem_append.1 hx with hx | hx
        · exact gap_trans ht (n3 x hx t (List.mem_singleton.2 rfl)) hg'
        · rw [List.mem_singleton] at hx
          subst hx
          exact hg'
      · rcases List.mem_append.1 hx with hx | hx
        · exact hle x hx
        · rw [List.mem_singleton] at hx
          rw [hx]
          exact blo_refl _
    · rw [if_neg hg]
      have hr : rightS ⟨t.lo, laterS t.hi s.hi⟩ = true := by
        show endS (laterS t.hi s.hi) t.lo = true
        rw [later_end, Bool.or_eq_true]
        exact .inl ht
      refine ⟨norm_append n1 ⟨hr, (fun _ h => by cases h), trivial⟩ fun x hx y hy => ?_, fun k => ?_, fun x hx => ?_⟩
      · rw [List.mem_singleton] at hy
        subst hy
        have := n3 x hx t (List.mem_singleton.2 rfl)
        exact ⟨this.1, this.2⟩
      · rw [in_append, in_append, in_one, in_one, Bool.or_assoc]
        congr 1
        rw [Bool.eq_iff_iff, Bool.or_eq_true, has_iff, has_iff, has_iff]
        show blo t.lo k = true ∧ endS (laterS t.hi s.hi) k = true ↔ _
        rw [later_end, Bool.or_eq_true]
        constructor
        · rintro ⟨h1, h2⟩
          by_cases he : endS t.hi k = true
          · exact .inl ⟨h1, he⟩
          · have h3 := h2.resolve_left he
            refine .inr ⟨?_, h3⟩
            -- k is behind the end of t, and s begins no later than there
            have hne : t.hi ≠ [] := fun e => he (end_iff.2 (.inl e))
            have hle2 : blo s.lo t.hi = true := by
              cases hb : blt t.hi s.lo
              · simp [blo, hb]
              · exact absurd (gapB_iff.2 ⟨hne, hb⟩) hg
            have hk : blo t.hi k = true := by
              cases hb : blo t.hi k
              · exact absurd (end_iff.2 (.inr (not_blo (by rw [hb]; simp)))) he
              · rfl
            exact blo_trans hle2 hk
        · rintro (⟨h1, h2⟩ | ⟨h1, h2⟩)
          · exact ⟨h1, .inl h2⟩
          · exact ⟨blo_trans hlt h1, .inr h2⟩
      · rcases List.mem_append.1 hx with hx | hx
        · exact hle x (List.mem_append_left _ hx)
        · rw [List.mem_singleton] at hx
          rw [hx]
          exact hlt
def risesS (l : List Sp) : Prop := l.Pairwise fun a b => blo a.lo b.lo = true
theorem fold_norm : ∀ (l out : List Sp), normS out → (∀ s ∈ l, rightS s = true) → risesS l → (∀ x ∈ out, ∀ s ∈ l, blo x.lo s.lo = true) → normS (l.foldl stepU out) ∧ ∀ k, inP (l.foldl stepU out) k = (inP out k || inP l k)
  | [], out, h, _, _, _ => ⟨h, fun k => by simp [inP]⟩
  | s :: l, out, h, hr, hs, hle => by
    obtain ⟨h1, h2, h3⟩ := step_norm h (hr s (List.mem_cons_self ..)) fun x hx => hle x hx s (List.mem_cons_self ..)
    obtain ⟨k1, k2⟩ := fold_norm l (stepU out s) h1 (fun x hx => hr x (List.mem_cons_of_mem _ hx)) (List.pairwise_cons.1 hs).2 fun x hx y hy => blo_trans (h3 x hx) ((List.pairwise_cons.1 hs).1 y hy)
    refine ⟨k1, fun k => ?_⟩
    rw [List.foldl_cons, k2, h2, Bool.or_assoc]
    congr 1
/-- What is right of a list, in any order in which it rises, united, is its join. -/
theorem united_eq {l m : List Sp} (hm : ∀ s, s ∈ m ↔ s ∈ l ∧ rightS s = true) (hr : risesS m) : m.foldl stepU [] = joinSp l := by
  obtain ⟨h1, h2⟩ := fold_norm m [] trivial (fun s hs => ((hm s).1 hs).2) hr fun _ hx => by cases hx
  refine join_eq h1 fun k => ?_
  rw [h2, show inP [] k = false from rfl, Bool.false_or, Bool.eq_iff_iff, in_iff, in_iff]
  constructor
  · rintro ⟨s, hs, hk⟩
    exact ⟨s, ((hm s).1 hs).1, hk⟩
  · rintro ⟨s, hs, hk⟩
    refine ⟨s, (hm s).2 ⟨hs, ?_⟩, hk⟩
    cases h : rightS s
    · rw [no_has h] at hk
      cases hk
    · rfl
theorem step_lenI (out : List Sp) (s : Sp) : (stepU out s).length ≤ out.length + 1 := by
  rcases List.eq_nil_or_concat out with rfl | ⟨o, t, rfl⟩
  · rw [stepU_nil]; simp
  · rw [List.concat_eq_append, stepU_snoc]
    split <;> simp
theorem fold_len : ∀ (l out : List Sp), (l.foldl stepU out).length ≤ out.length + l.length
  | [], out => by simp
  | s :: l, out => by
    rw [List.foldl_cons]
    have := fold_len l (stepU out s)
    have := step_lenI out s
    rw [List.length_cons]
    omega
theorem step_pos (out : List Sp) (s : Sp) : 0 < (stepU out s).length := by
  rcases List.eq_nil_or_concat out with rfl | ⟨o, t, rfl⟩
  · rw [stepU_nil]; simp
  · rw [List.concat_eq_append, stepU_snoc]
    split <;> simp

/-! ### fewer, at once -/
theorem fit_drop (n : Nat) : ∀ (m : Nat) (l : List Sp) (hm : m + 1 ≤ l.length), l.length = max n 1 + m → fitS n l = ⟨(l[0]'(by omega)).lo, (l[m]'(by omega)).hi⟩ :: l.drop (m + 1)
  | 0, l, hm, he => by
    match l, hm with
    | a :: l, _ =>
      rw [fit_few (by omega)]
      rfl
  | m + 1, l, hm, he => by
    match l, hm with
    | a :: b :: l, _ =>
      unfold fitS
      rw [if_pos (by omega)]
      have ih := fit_drop n m (⟨a.lo, b.hi⟩ :: l) (by simp at he ⊢; omega) (by simp at he ⊢; omega)
      rw [ih]
      cases m with
      | zero => rfl
      | succ m => rfl
theorem join_len (l : List Sp) : (joinSp l).length ≤ l.length := by
  have key : ∀ (l out : List Sp), normS out → (l.foldl (fun out s => if rightS s = true then putSp out s else out) out).length ≤ out.length + l.length := by
    intro l
    induction l with
    | nil => intro out _; simp
    | cons s l ih =>
      intro out hn
      rw [List.foldl_cons]
      by_cases hs : rightS s = true
      · rw [if_pos hs]
        have h1 := ih (putSp out s) (put_norm hn hs)
        have h2 : (putSp out s).length ≤ out.length + 1 := by
          unfold putSp
          rw [List.length_append, List.length_cons]
          generalize growS out s = g
          have : ∀ q : List Sp, (q.filter fun x => !touchS x g && blt x.lo g.lo).length + (q.filter fun x => !touchS x g && blt g.lo x.lo).length ≤ q.length := by
            intro q
            induction q with
            | nil => simp
            | cons x q ih =>
              rw [List.filter_cons, List.filter_cons]
              cases h1 : blt x.lo g.lo
              · split <;> split <;> simp_all <;> omega
              · have h2 := blt_asymm h1
                split <;> split <;> simp_all <;> omega
          have := this out
          omega
        rw [List.length_cons]
        omega
      · rw [if_neg hs]
        have h1 := ih out hn
        rw [List.length_cons]
        omega
  have := key l [] trivial
  simpa [joinSp] using this
end Go.Proofs.Ytfdiidhilonkoaa

/-
  Stretches in memory: values, rows, slices of them.
-/
namespace Go.Proofs.Ytfdiidhilonkoaa
open Go.RowKit

def spCells (s : Sp) : List Value := [.string (bs s.lo), .string (bs s.hi)]
theorem spF : Fixed 2 spCells := ⟨by decide, fun _ => rfl, fun x v hv => by
  simp only [spCells, List.mem_cons, List.not_mem_nil, or_false] at hv
  rcases hv with rfl | rfl <;> rfl⟩
def spVal (s : Sp) : Value := .agg #[.string (bs s.lo), .string (bs s.hi)]
theorem spInfo : InfoG Try.prog 52 2 32 := InfoG.of (by kernel_rfl)
/-- A slice of stretches that reads as l, below hi. -/
def ChI (w : World) (hi : Nat) (A : Option Addr) (c : Nat) (l : List Sp) : Prop := l.length ≤ c ∧ c ≤ maxLen ∧ (A = none → c = 0) ∧ RowG spCells w 0 hi A l
section
variable {w w' : World} {hi hi' B : Nat} {A : Option Addr} {c : Nat} {l : List Sp}
theorem ChI.below (h : ChI w hi A c l) (hb : Below B w w') (hB : hi ≤ B) (hh : hi ≤ hi') : ChI w' hi' A c l := ⟨h.1, h.2.1, h.2.2.1, (h.2.2.2.below hb hB).wide (Nat.le_refl _) hh⟩
theorem ChI.none_ (w : World) (hi : Nat) : ChI w hi none 0 [] := ⟨Nat.le_refl _, Nat.zero_le _, fun _ => rfl, RowG.nil_⟩
theorem ChI.at_ (h : ChI w hi A c l) {j : Nat} (hj : j < l.length) : ∃ b o, A = some ⟨b, o, none⟩ ∧ b < hi ∧ w.cell? ⟨b, o + j * 2, none⟩ = some (.string (bs (l[j]'hj).lo)) ∧ w.cell? ⟨b, o + j * 2 + 1, none⟩ = some (.string (bs (l[j]'hj).hi)) := by
  obtain ⟨b, o, e, _, hb, hc⟩ := h.2.2.2.at_ spF hj
  exact ⟨b, o, e, hb, by simpa using hc 0 _ rfl, hc 1 _ rfl⟩
theorem OwnG.chI {e : TypeId} {lo : Nat} {v : Value} (h : OwnG e 2 spCells w lo v l) : ∃ A c, v = .slice A l.length c ∧ ChI w w.heap.size A c l := by
  obtain ⟨A, c, rfl, k1, k2, k3, k4⟩ := h.form
  exact ⟨A, c, rfl, k1, k2, k3, k4.wide (Nat.zero_le _) (Nat.le_refl _)⟩
end
/-- A call told a slice that reads as m. -/
def RetI (m : List Sp) (w : World) (r : Ending) (w' : World) : Prop := ∃ A c, r = .returned (.slice A m.length c) ∧ ChI w' w'.heap.size A c m ∧ Below w.heap.size w w'
def sameI (a b : List Sp) : Bool := decide (a = b)
end Go.Proofs.Ytfdiidhilonkoaa
