import Derived.Test.YtfpjepeikjfkpaaGreatDoorZC36
import Derived.Test.YtfpjepeikjfkpaaGreatDoorZC35
/-
  Expressions, the document's own answers: the text of any tree's terms, wherever they stand.
-/
namespace Go.Proofs.YtfpjepeikjfkpaaGreatDoor
open Go.RowKit

/-- What a tree's places hold: values that are right, with short texts; short names; operations that take so many. -/
def SmallT : Ex → Prop
  | .val v => rightV v = 0 ∧ (-9223372036854775808 ≤ v.n ∧ v.n ≤ 9223372036854775807) ∧ (printV v).length ≤ 1000
  | .var m => m.size ≤ 100
  | .has m => m.size ≤ 100
  | .one op a => (3 ≤ op ∧ op ≤ 5) ∧ SmallT a
  | .two op a b => (6 ≤ op ∧ op ≤ 18) ∧ SmallT a ∧ SmallT b
theorem SmallT.shape : ∀ {t : Ex}, SmallT t → ShapeT t
  | .val _, _ => trivial
  | .var _, _ => trivial
  | .has _, _ => trivial
  | .one _ _, h => ⟨h.1, h.2.shape⟩
  | .two _ _ _, h => ⟨h.1, h.2.1.shape, h.2.2.shape⟩
theorem wrapL_len (b : Bool) (l : List UInt8) : (wrapL b l).length ≤ l.length + 2 := by cases b <;> simp [wrapL]
theorem wrapN_le (b : Bool) (n : Nat) : wrapN b n ≤ n + 1 := by cases b <;> simp [wrapN]
theorem signL_one {op : Int} (h : 3 ≤ op ∧ op ≤ 5) : (signL op).length ≤ 2 := by
  have hs : op = 3 ∨ op = 4 ∨ op = 5 := by omega
  rcases hs with rfl | rfl | rfl <;> decide
theorem SmallT.len : ∀ {t : Ex}, SmallT t → (txtE t).length ≤ 1100 * (postE t).length ∧ deepE t ≤ 2 * (postE t).length
  | .val v, h => by
    have := h.2.2
    have e : txtE (.val v) = printV v := rfl
    exact ⟨by rw [e]; simp [postE]; omega, Nat.zero_le _⟩
  | .var m, h => by
    have h' : m.data.toList.length ≤ 100 := h
    have e : txtE (.var m) = m.data.toList := rfl
    exact ⟨by rw [e]; simp only [postE, List.length_singleton]; omega, Nat.zero_le _⟩
  | .has m, h => by
    have h' : m.data.toList.length ≤ 100 := h
    have e : txtE (.has m) = [104, 97, 115, 40] ++ m.data.toList ++ [41] := rfl
    refine ⟨?_, by simp [deepE, postE]⟩
    rw [e, List.length_append, List.length_append]
    simp only [postE, List.length_cons, List.length_nil]
    omega
  | .one op a, h => by
    obtain ⟨i1, i2⟩ := h.2.len
    have hw := wrapL_len (inB op (topE a) true) (txtE a)
    have hn := wrapN_le (inB op (topE a) true) (deepE a)
    have hs := signL_one h.1
    have hp : (postE (.one op a)).length = (postE a).length + 1 := by simp [postE]
    rw [hp]
    constructor
    · show (if op = 5 then _ else _ : List UInt8).length ≤ _
      split
      · simp; omega
      · rw [List.length_append]; omega
    · show (if op = 5 then _ else _ : Nat) ≤ _
      split <;> omega
  | .two op a b, h => by
    obtain ⟨i1, i2⟩ := h.2.1.len
    obtain ⟨j1, j2⟩ := h.2.2.len
    have hw := wrapL_len (inB op (topE a) false) (txtE a)
    have hn := wrapN_le (inB op (topE a) false) (deepE a)
    have hw2 := wrapL_len (inB op (topE b) true) (txtE b)
    have hn2 := wrapN_le (inB op (topE b) true) (deepE b)
    have hs := signL_two h.1
    have hp : (postE (.two op a b)).length = (postE a).length + (postE b).length + 1 := by simp [postE]; omega
    rw [hp]
    constructor
    · show (wrapL _ _ ++ [32] ++ signL op ++ [32] ++ wrapL _ _).length ≤ _
      simp only [List.length_append, List.length_singleton]
      omega
    · show max _ _ ≤ _
      omega

theorem partE_any (hP : RefPrintC) (l : List TM) (A : Option Addr) (c : Nat) (hl : l.length ≤ 100) : ∀ (t : Ex), SmallT t → ∀ (pre suf : List TM), l = pre ++ postE t ++ suf → TextAt l A c ((pre.length + (postE t).length - 1 : Nat) : Int) t := by
  intro t
  have hat : ∀ (t : Ex) (pre suf : List TM), l = pre ++ postE t ++ suf → ∃ h : pre.length + (postE t).length - 1 < l.length, (l[pre.length + (postE t).length - 1]'h).op = topE t := fun t pre suf e => by
    have hp := post_pos t
    have h : pre.length + (postE t).length - 1 < l.length := by rw [e]; simp; omega
    subst e
    exact ⟨h, post_top pre suf t h⟩
  have hsz : ∀ (t : Ex) (pre suf : List TM), l = pre ++ postE t ++ suf → SmallT t → (txtE t).length ≤ 110000 ∧ deepE t ≤ 200 := fun t pre suf e h => by
    have := h.len
    have hp : (postE t).length ≤ l.length := by rw [e]; simp; omega
    omega
  induction t with
  | val v =>
    intro hs pre suf hpre
    have h : pre.length < l.length := by rw [hpre]; simp [postE]
    have e : l[pre.length]'h = ⟨0, v, mtS⟩ := by subst hpre; simp [postE]
    exact part_val hP l A c pre.length v h e hs.1 hs.2.1
  | var v =>
    intro hs pre suf hpre
    have h : pre.length < l.length := by rw [hpre]; simp [postE]
    have e : l[pre.length]'h = ⟨1, V0, v⟩ := by subst hpre; simp [postE]
    exact part_var l A c pre.length v h e
  | has v =>
    intro hs pre suf hpre
    have h : pre.length < l.length := by rw [hpre]; simp [postE]
    have e : l[pre.length]'h = ⟨2, V0, v⟩ := by subst hpre; simp [postE]
    have hm : v.size ≤ 100 := hs
    exact part_has l A c pre.length v (by omega) h e
  | one op a ih =>
    intro hs pre suf hpre
    have hpa := post_pos a
    have hpre2 : l = pre ++ postE a ++ ([opT op] ++ suf) := by rw [hpre]; simp [postE]
    obtain ⟨ha, ea⟩ := hat a pre ([opT op] ++ suf) hpre2
    obtain ⟨z1, z2⟩ := hsz a pre ([opT op] ++ suf) hpre2 hs.2
    have hl1 : (postE (.one op a)).length = (postE a).length + 1 := by simp [postE]
    have hK : pre.length + (postE (.one op a)).length - 1 < l.length := (hat _ pre suf hpre).1
    have he : l[pre.length + (postE (.one op a)).length - 1]'hK = opT op := by
      subst hpre
      have e : pre.length + (postE (.one op a)).length - 1 = (pre ++ postE a).length := by rw [hl1, List.length_append]; omega
      simp only [e]
      simp [postE]
    have e2 : (((pre.length + (postE (.one op a)).length - 1 : Nat) : Int) - 1) = ((pre.length + (postE a).length - 1 : Nat) : Int) := by rw [hl1]; omega
    have hheld : HeldAt l A c (opT op) (((pre.length + (postE (.one op a)).length - 1 : Nat) : Int) - 1) true (wrapL (inB op (topE a) true) (txtE a)) (wrapN (inB op (topE a) true) (deepE a)) := by
      intro w hr
      rw [e2]
      exact held_any l A c _ (opT op) true a ha ea (ih hs.2 pre _ hpre2) (by omega) (by omega) w hr
    have hw := wrapL_len (inB op (topE a) true) (txtE a)
    have hn := wrapN_le (inB op (topE a) true) (deepE a)
    intro w hr
    have := part_one l A c _ op _ _ (by have := hs.1; omega) hK (by omega) he (by omega) (by omega) hheld w hr
    refine this.mono ?_
    rintro r w' ⟨rfl, hb⟩
    refine ⟨?_, hb⟩
    by_cases h5 : op = 5
    · subst h5
      have hi : inB 5 (topE a) true = false := by unfold inB; rw [if_pos (.inl rfl)]
      rw [hi]
      rfl
    · rw [if_neg h5]
      have q1 : txtE (.one op a) = signL op ++ wrapL (inB op (topE a) true) (txtE a) := if_neg h5
      have q2 : deepE (.one op a) = wrapN (inB op (topE a) true) (deepE a) + 1 := if_neg h5
      rw [q1, q2]
  | two op a b iha ihb =>
    intro hs pre suf hpre
    have hpa := post_pos a
    have hpb := post_pos b
    have hpreA : l = pre ++ postE a ++ (postE b ++ [opT op] ++ suf) := by rw [hpre]; simp [postE]
    have hpreB : l = (pre ++ postE a) ++ postE b ++ ([opT op] ++ suf) := by rw [hpre]; simp [postE]
    obtain ⟨ha, ea⟩ := hat a pre _ hpreA
    obtain ⟨hb, eb⟩ := hat b (pre ++ postE a) _ hpreB
    obtain ⟨z1, z2⟩ := hsz a pre _ hpreA hs.2.1
    obtain ⟨z3, z4⟩ := hsz b (pre ++ postE a) _ hpreB hs.2.2
    have hlen : (postE (.two op a b)).length = (postE a).length + (postE b).length + 1 := by simp [postE]; omega
    have hK : pre.length + (postE (.two op a b)).length - 1 < l.length := (hat _ pre suf hpre).1
    have he : l[pre.length + (postE (.two op a b)).length - 1]'hK = opT op := by
      subst hpre
      have e : pre.length + (postE (.two op a b)).length - 1 = (pre ++ postE a ++ postE b).length := by rw [hlen, List.length_append, List.length_append]; omega
      simp only [e]
      have e' : pre ++ postE (.two op a b) ++ suf = (pre ++ postE a ++ postE b) ++ ([opT op] ++ suf) := by simp [postE]
      simp only [e']
      rw [List.getElem_append_right (Nat.le_refl _)]
      simp
    have e2 : (((pre.length + (postE (.two op a b)).length - 1 : Nat) : Int) - 1) = (((pre ++ postE a).length + (postE b).length - 1 : Nat) : Int) := by rw [hlen, List.length_append]; omega
    have e3 : (((pre ++ postE a).length : Nat) : Int) - 1 = ((pre.length + (postE a).length - 1 : Nat) : Int) := by rw [List.length_append]; omega
    have hheldB : HeldAt l A c (opT op) (((pre.length + (postE (.two op a b)).length - 1 : Nat) : Int) - 1) true (wrapL (inB op (topE b) true) (txtE b)) (wrapN (inB op (topE b) true) (deepE b)) := by
      intro w hr
      rw [e2]
      exact held_any l A c _ (opT op) true b hb eb (ihb hs.2.2 _ _ hpreB) (by omega) (by omega) w hr
    have hheldA : HeldAt l A c (opT op) ((((pre ++ postE a).length : Nat) : Int) - 1) false (wrapL (inB op (topE a) false) (txtE a)) (wrapN (inB op (topE a) false) (deepE a)) := by
      intro w hr
      rw [e3]
      exact held_any l A c _ (opT op) false a ha ea (iha hs.2.1 _ _ hpreA) (by omega) (by omega) w hr
    have hbeg : Part l A c (((pre.length + (postE (.two op a b)).length - 1 : Nat) : Int) - 1) (pre ++ postE a).length := by
      rw [e2]
      exact begin_any l A c (by omega) b hs.2.2.shape _ _ hpreB
    have hw := wrapL_len (inB op (topE a) false) (txtE a)
    have hn := wrapN_le (inB op (topE a) false) (deepE a)
    have hw2 := wrapL_len (inB op (topE b) true) (txtE b)
    have hn2 := wrapN_le (inB op (topE b) true) (deepE b)
    have hy : (pre ++ postE a).length ≤ 1000000 := by
      have : (pre ++ postE a).length ≤ l.length := by rw [hpreB]; simp
      omega
    intro w hr
    have := part_two l A c _ _ op _ _ _ _ hs.1 hK (by omega) hy he (by omega) (by omega) (by omega) (by omega) hheldB hbeg hheldA w hr
    exact this
end Go.Proofs.YtfpjepeikjfkpaaGreatDoor

/-
  Expressions in plain words: terms that are right make a tree whose places hold what they may.
-/
namespace Go.Proofs.YtfpjepeikjfkpaaGreatDoor
open Go.RowKit

theorem small_step {t : TM} (h : ownT t = 0) (hp : t.op = 0 → (printV t.v).length ≤ 1000) (hnm : t.nm.size ≤ 100) (hvn : -9223372036854775808 ≤ t.v.n ∧ t.v.n ≤ 9223372036854775807) {st : List Ex} (hn : takesT t.op ≤ st.length) (hst : ∀ x ∈ st, SmallT x) : ∀ x ∈ stepE st t, SmallT x := by
  obtain ⟨h0, h18, hv, hm⟩ := own_op h
  obtain ⟨op, v, nm⟩ := t
  simp only at h0 h18 hv hm hn hp hnm hvn
  unfold stepE
  simp only
  by_cases e0 : op = 0
  · subst e0
    rw [if_pos rfl]
    have hr : rightV v = 0 := by
      unfold ownT at h
      split at h
      · cases h
      · simp only [if_pos] at h
        by_cases hr : rightV v = 0
        · exact hr
        · rw [if_pos hr] at h
          exact absurd h hr
    intro x hx
    rcases List.mem_cons.1 hx with rfl | hx
    · exact ⟨hr, hvn, hp rfl⟩
    · exact hst x hx
  · rw [if_neg e0]
    by_cases e1 : op = 1
    · rw [if_pos e1]
      intro x hx
      rcases List.mem_cons.1 hx with rfl | hx
      · exact hnm
      · exact hst x hx
    · rw [if_neg e1]
      by_cases e2 : op = 2
      · rw [if_pos e2]
        intro x hx
        rcases List.mem_cons.1 hx with rfl | hx
        · exact hnm
        · exact hst x hx
      · rw [if_neg e2]
        by_cases e6 : op < 6
        · rw [if_pos e6]
          cases st with
          | nil => intro x hx; cases hx
          | cons a r =>
            intro x hx
            rcases List.mem_cons.1 hx with rfl | hx
            · exact ⟨by omega, hst a (List.mem_cons_self ..)⟩
            · exact hst x (List.mem_cons_of_mem _ hx)
        · rw [if_neg e6]
          match st, hst with
          | [], _ => intro x hx; cases hx
          | [a], _ => intro x hx; cases hx
          | b :: a :: r, hst =>
            intro x hx
            rcases List.mem_cons.1 hx with rfl | hx
            · exact ⟨by omega, hst a (by simp), hst b (by simp)⟩
            · exact hst x (by simp [hx])
theorem small_trees (hp : ∀ v : V, rightV v = 0 → -9223372036854775808 ≤ v.n → v.n ≤ 9223372036854775807 → (printV v).length ≤ 1000) : ∀ (l : List TM) (st : List Ex) (m : Nat), (∀ x ∈ l, x.nm.size ≤ 100 ∧ -9223372036854775808 ≤ x.v.n ∧ x.v.n ≤ 9223372036854775807) → checkGo st.length l = (0, m) → (∀ x ∈ st, SmallT x) → ∀ x ∈ treesE st l, SmallT x
  | [], st, m, _, _, hst => hst
  | t :: l, st, m, hl, h, hst => by
    rw [checkGo] at h
    by_cases hown : ownT t = 0
    · rw [if_neg (by simp [hown])] at h
      by_cases hlt : st.length < takesT t.op
      · rw [if_pos hlt] at h; cases h
      · rw [if_neg hlt] at h
        obtain ⟨e1, e2⟩ := step_post hown (st := st) (by omega)
        rw [← e2] at h
        obtain ⟨z1, z2, z3⟩ := hl t (List.mem_cons_self ..)
        have hr : t.op = 0 → (printV t.v).length ≤ 1000 := fun e => by
          refine hp t.v ?_ z2 z3
          unfold ownT at hown
          split at hown
          · cases hown
          · try rw [if_pos e] at hown
            by_cases hr : rightV t.v = 0
            · exact hr
            · rw [if_pos hr] at hown
              exact absurd hown hr
        exact small_trees hp l (stepE st t) m (fun x hx => hl x (List.mem_cons_of_mem _ hx)) h (small_step hown hr z1 ⟨z2, z3⟩ (by omega) hst)
    · rw [if_pos hown] at h
      simp only [Prod.mk.injEq] at h
      exact absurd h.1 hown
theorem small_tree (hp : ∀ v : V, rightV v = 0 → -9223372036854775808 ≤ v.n → v.n ≤ 9223372036854775807 → (printV v).length ≤ 1000) {l : List TM} (hl : ∀ x ∈ l, x.nm.size ≤ 100 ∧ -9223372036854775808 ≤ x.v.n ∧ x.v.n ≤ 9223372036854775807) (h : checkGo 0 l = (0, 1)) : SmallT (treeE l) := by
  have hs := small_trees hp l [] 1 hl h (fun x hx => by cases hx)
  obtain ⟨h1, _⟩ := check_trees l [] 1 h
  unfold treeE
  match hst : treesE [] l, h1 with
  | [t], _ => exact hs t (by rw [hst]; simp)
theorem small_any {l : List TM} (hl : ∀ x ∈ l, x.nm.size ≤ 100 ∧ -9223372036854775808 ≤ x.v.n ∧ x.v.n ≤ 9223372036854775807) (h : checkGo 0 l = (0, 1)) : SmallT (treeE l) := small_tree (fun _ hr h0 h1 => print_len hr h0 h1) hl h
end Go.Proofs.YtfpjepeikjfkpaaGreatDoor

/-
  Package expr: the texts of trees: what a term makes of the texts that it takes is the text of the tree that it makes.
-/
namespace Go.Proofs.YtfpjepeikjfkpaaGreatDoor
open Go.RowKit

def wordE (t : Ex) : Nat × List UInt8 := (strD (topE t), txtE t)
def holdD (op : Int) (j : Nat) (p : Nat × List UInt8) : List UInt8 := wrapL (decide (p.1 < leastD op (j : Int))) p.2
/-- The text of a term with the texts that it takes. -/
def writeD (t : TM) (l : List (Nat × List UInt8)) : List UInt8 :=
  if t.op = 0 then printV t.v else if t.op = 1 then t.nm.data.toList else if t.op = 2 then [104, 97, 115, 40] ++ t.nm.data.toList ++ [41]
  else match l with
  | [] => []
  | [p] => if t.op = 5 then [108, 101, 110, 40] ++ holdD t.op 0 p ++ [41] else signL t.op ++ holdD t.op 0 p
  | p :: q :: _ => holdD t.op 0 p ++ [32] ++ signL t.op ++ [32] ++ holdD t.op 1 q
theorem write_one {t : TM} (h : t.op = 3 ∨ t.op = 4 ∨ t.op = 5) (a : Ex) : writeD t [wordE a] = txtE (.one t.op a) := by
  unfold writeD holdD wordE
  rw [if_neg (by omega), if_neg (by omega), if_neg (by omega)]
  show (if t.op = 5 then _ else _ : List UInt8) = (if t.op = 5 then _ else _)
  by_cases h5 : t.op = 5
  · rw [if_pos h5, if_pos h5]
    have hl : leastD t.op ((0 : Nat) : Int) = 0 := by rw [h5]; rfl
    rw [hl, decide_eq_false (by omega)]
    rfl
  · rw [if_neg h5, if_neg h5]
    have hl := least_one (op := t.op) (by omega) (topE a)
    rw [show ((0 : Nat) : Int) = 0 from rfl, hl]
theorem write_two {t : TM} (h : 6 ≤ t.op ∧ t.op ≤ 18) (a b : Ex) : writeD t [wordE a, wordE b] = txtE (.two t.op a b) := by
  unfold writeD holdD wordE
  rw [if_neg (by omega), if_neg (by omega), if_neg (by omega)]
  show wrapL (decide (strD (topE a) < leastD t.op ((0 : Nat) : Int))) (txtE a) ++ [32] ++ signL t.op ++ [32] ++ wrapL (decide (strD (topE b) < leastD t.op ((1 : Nat) : Int))) (txtE b) = _
  rw [show ((0 : Nat) : Int) = 0 from rfl, show ((1 : Nat) : Int) = 1 from rfl, least_left h, least_right h]
  rfl

/-- What the program holds of trees, the last one last. -/
def wordsE (st : List Ex) : List (Nat × List UInt8) := (st.map wordE).reverse
theorem wordsE_len (st : List Ex) : (wordsE st).length = st.length := by simp [wordsE]
theorem words_step {t : TM} (h : ownT t = 0) {st : List Ex} (hn : takesT t.op ≤ st.length) :
    wordsE (stepE st t) = (wordsE st).take (st.length - takesT t.op) ++ [(strD t.op, writeD t ((wordsE st).drop (st.length - takesT t.op)))] := by
  obtain ⟨h0, h18, _, _⟩ := own_op h
  obtain ⟨op, v, m⟩ := t
  simp only at h0 h18 hn ⊢
  have hl := wordsE_len st
  unfold stepE
  simp only
  by_cases e3 : op < 3
  · have ht : takesT op = 0 := if_pos e3
    rw [ht, Nat.sub_zero, List.take_of_length_le (by omega), List.drop_of_length_le (by omega)]
    by_cases e0 : op = 0
    · subst e0
      rw [if_pos rfl, show writeD ⟨0, v, m⟩ [] = printV v from rfl]
      simp [wordsE, wordE, topE, txtE]
    · rw [if_neg e0]
      by_cases e1 : op = 1
      · subst e1
        rw [if_pos rfl, show writeD ⟨1, v, m⟩ [] = m.data.toList from rfl]
        simp [wordsE, wordE, topE, txtE]
      · have e2 : op = 2 := by omega
        subst e2
        rw [if_neg (by decide), if_pos rfl, show writeD ⟨2, v, m⟩ [] = [104, 97, 115, 40] ++ m.data.toList ++ [41] from rfl]
        simp [wordsE, wordE, topE, txtE]
  · rw [if_neg (by omega), if_neg (by omega), if_neg (by omega)]
    by_cases e6 : op < 6
    · have ht : takesT op = 1 := by unfold takesT; rw [if_neg e3, if_pos e6]
      rw [ht] at hn ⊢
      rw [if_pos e6]
      cases st with
      | nil => simp at hn
      | cons a r =>
        have hr := wordsE_len r
        have hp : wordsE (a :: r) = wordsE r ++ [wordE a] := by simp [wordsE]
        have hp2 : wordsE (.one op a :: r) = wordsE r ++ [(strD op, txtE (.one op a))] := by simp [wordsE, wordE, topE]
        rw [hp, List.length_cons, Nat.add_sub_cancel, List.take_left' hr, List.drop_left' hr, write_one (t := ⟨op, v, m⟩) (by simp only; omega), ← hp2]
    · have ht : takesT op = 2 := by unfold takesT; rw [if_neg e3, if_neg e6]
      rw [ht] at hn ⊢
      rw [if_neg e6]
      match st, hn with
      | b :: a :: r, _ =>
        have hr := wordsE_len r
        have hp : wordsE (b :: a :: r) = wordsE r ++ [wordE a, wordE b] := by simp [wordsE]
        have hn2 : (b :: a :: r).length - 2 = r.length := by simp
        rw [hp, hn2, List.take_left' hr, List.drop_left' hr, write_two (t := ⟨op, v, m⟩) (by simp only; omega)]
        simp [wordsE, wordE, topE]

/-- Trees of terms that hold little: their texts are short. -/
theorem word_len {st : List Ex} {n : Nat} (hs : ∀ x ∈ st, SmallT x) (hp : (postS st).length ≤ n) : ∀ p ∈ wordsE st, p.1 ≤ 7 ∧ p.2.length ≤ 1100 * n := by
  intro p h
  unfold wordsE at h
  rw [List.mem_reverse, List.mem_map] at h
  obtain ⟨t, ht, rfl⟩ := h
  refine ⟨strD_le _, ?_⟩
  have h1 := (hs t ht).len.1
  have h2 : ∀ (st : List Ex), t ∈ st → (postE t).length ≤ (postS st).length := by
    intro st
    induction st with
    | nil => intro h; cases h
    | cons x st ih =>
      intro h
      rw [postS, List.length_append]
      rcases List.mem_cons.1 h with rfl | h
      · omega
      · have := ih h
        omega
  have h3 := h2 st ht
  have h4 : 1100 * (postE t).length ≤ 1100 * n := Nat.mul_le_mul_left _ (by omega)
  exact Nat.le_trans h1 h4
end Go.Proofs.YtfpjepeikjfkpaaGreatDoor
