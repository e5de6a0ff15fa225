import Derived.Test.YtidomoibhjgkjaaDoorZC27
/-
  Expressions in plain words: a tree's text has its tokens; there and back.
-/
namespace Go.Proofs.YtidomoibhjgkjaaDoor

/-- The numbers of a tree's values are such that are held. -/
def BndT : Ex → Prop
  | .val v => v.n ≤ 9223372036854775807
  | .var _ => True
  | .has _ => True
  | .one _ a => BndT a
  | .two _ a b => BndT a ∧ BndT b
theorem val_bounds {v : V} (h : valFit v) (hb : v.n ≤ 9223372036854775807) : -9223372036854775808 ≤ v.n ∧ v.n ≤ 9223372036854775807 := by
  refine ⟨?_, hb⟩
  obtain ⟨hr, hn⟩ := h
  obtain ⟨k, n, s⟩ := v
  simp only at hn ⊢
  rcases right_kind hr with hk | hk | hk
  · simp only at hk
    subst hk
    simp at hn
    omega
  · simp only at hk
    subst hk
    rcases right_truth hr with rfl | rfl <;> omega
  · simp only at hk
    subst hk
    have := (right_text hr rfl).2
    simp only at this
    omega
theorem trueL_word (more : List UInt8) (hs : Sep more) (n : Int) (hn : n = 0 ∨ n = 1) : lexE (printV ⟨2, n, ⟨#[]⟩⟩ ++ more) = aheadT [.lit ⟨2, n, ⟨#[]⟩⟩] (lexE more) := by
  rcases hn with rfl | rfl
  · have hwo : wordOf (falseL ++ more) = falseL := takeWhile_all wordB falseL more (by decide) hs.word
    have htok : tokAt (102 :: ([97, 108, 115, 101] ++ more)) = .inl (.lit ⟨2, 0, mtS⟩, 5) := by
      unfold tokAt
      simp only
      rw [if_neg (by decide), if_pos (by decide)]
      have e : (102 :: ([97, 108, 115, 101] ++ more) : List UInt8) = falseL ++ more := rfl
      rw [e, hwo, if_neg (by decide), if_pos rfl]
    have := lexE_tok (c := 102) (r := [97, 108, 115, 101] ++ more) (by decide) htok
    exact this
  · have hwo : wordOf (trueL ++ more) = trueL := takeWhile_all wordB trueL more (by decide) hs.word
    have htok : tokAt (116 :: ([114, 117, 101] ++ more)) = .inl (.lit ⟨2, 1, mtS⟩, 4) := by
      unfold tokAt
      simp only
      rw [if_neg (by decide), if_pos (by decide)]
      have e : (116 :: ([114, 117, 101] ++ more) : List UInt8) = trueL ++ more := rfl
      rw [e, hwo, if_pos rfl]
    have := lexE_tok (c := 116) (r := [114, 117, 101] ++ more) (by decide) htok
    exact this
/-- A value's text is its token. -/
theorem lex_val {v : V} (h : valFit v) (hb : v.n ≤ 9223372036854775807) (rest : List UInt8) (hs : Sep rest) : lexE (printV v ++ rest) = aheadT [.lit v] (lexE rest) := by
  obtain ⟨b0, b1⟩ := val_bounds h hb
  have hp := parseV_print v rest h.1 b0 b1 hs.more
  -- what begins with a digit, or a quote
  have front : ∀ c r, printV v = c :: r → isNum c = true ∨ c = 34 → lexE (printV v ++ rest) = aheadT [.lit v] (lexE rest) := by
    intro c r e hc
    have hc32 : c ≠ 32 := by
      rintro rfl
      rcases hc with hc | hc
      · exact absurd hc (by decide)
      · exact absurd hc (by decide)
    have htok : tokAt (c :: (r ++ rest)) = .inl (.lit v, (printV v).length) := by
      unfold tokAt
      simp only
      rw [if_pos hc]
      have e2 : c :: (r ++ rest) = printV v ++ rest := by rw [e]; rfl
      rw [e2, hp]
      rfl
    rw [e, List.cons_append, lexE_tok hc32 htok]
    have hd : (c :: (r ++ rest)).drop (printV v).length = rest := by rw [← List.cons_append, ← e]; exact List.drop_left
    rw [hd]
    rfl
  obtain ⟨hr, hneg⟩ := h
  obtain ⟨k, n, s⟩ := v
  simp only at hneg
  rcases right_kind hr with hk | hk | hk
  · simp only at hk
    subst hk
    have hn : ¬ n < 0 := fun hx => hneg ⟨rfl, hx⟩
    obtain ⟨c, r, e, h1, _⟩ := natL_head n.toNat
    refine front c r ?_ (.inl h1)
    show intL n = _
    unfold intL
    rw [if_neg hn, e]
  · simp only at hk
    subst hk
    have hse := ba_empty (right_empty hr (by simp))
    simp only at hse
    subst hse
    exact trueL_word rest hs n (right_truth hr)
  · simp only at hk
    subst hk
    exact front 34 _ rfl (.inr rfl)
/-- A tree's text begins with something that is no '='. -/
theorem txt_head (hn : ∀ w, nm.nameOk w = true → NameBytes w) : ∀ (t : Ex), OkT t → BndT t → ∃ c r, txtE t = c :: r ∧ c ≠ 61
  | .val v, h, hb => by
    obtain ⟨hr, hneg⟩ := h
    obtain ⟨k, n, s⟩ := v
    simp only at hneg
    show ∃ c r, printV ⟨k, n, s⟩ = c :: r ∧ c ≠ 61
    rcases right_kind hr with hk | hk | hk
    · simp only at hk
      subst hk
      obtain ⟨c, r, e, h1, _⟩ := natL_head n.toNat
      refine ⟨c, r, ?_, fun hc => by rw [hc] at h1; exact absurd h1 (by decide)⟩
      show intL n = _
      unfold intL
      rw [if_neg (fun hx => hneg ⟨rfl, hx⟩), e]
    · simp only at hk
      subst hk
      rcases right_truth hr with rfl | rfl
      · exact ⟨102, _, rfl, by decide⟩
      · exact ⟨116, _, rfl, by decide⟩
    · simp only at hk
      subst hk
      exact ⟨34, _, rfl, by decide⟩
  | .var w, h, _ => by
    obtain ⟨c, r, e, hc, _⟩ := hn w h.1
    exact ⟨c, r, e, (let_ne hc).2.2.2⟩
  | .has w, _, _ => ⟨104, _, rfl, by decide⟩
  | .one op a, h, hb => by
    by_cases h5 : op = 5
    · subst h5
      exact ⟨108, _, rfl, by decide⟩
    · have hop : op = 3 ∨ op = 4 := by have := h.1; omega
      rcases hop with rfl | rfl
      · exact ⟨45, _, rfl, by decide⟩
      · exact ⟨33, _, rfl, by decide⟩
  | .two op a b, h, hb => by
    obtain ⟨c, r, e, hc⟩ := txt_head hn a h.2.1 hb.1
    show ∃ c r, wrapL (inB op (topE a) false) (txtE a) ++ [32] ++ signL op ++ [32] ++ wrapL (inB op (topE b) true) (txtE b) = c :: r ∧ c ≠ 61
    cases inB op (topE a) false with
    | false =>
      refine ⟨c, r ++ [32] ++ signL op ++ [32] ++ wrapL (inB op (topE b) true) (txtE b), ?_, hc⟩
      show txtE a ++ [32] ++ signL op ++ [32] ++ _ = _
      rw [e]
      rfl
    | true => exact ⟨40, _, rfl, by decide⟩
theorem wrap_lex {a : Ex} (ih : ∀ rest, Sep rest → lexE (txtE a ++ rest) = aheadT (toksE a) (lexE rest)) (b : Bool) (rest : List UInt8) (hs : Sep rest) : lexE (wrapL b (txtE a) ++ rest) = aheadT (wrapT b (toksE a)) (lexE rest) := by
  cases b with
  | false => exact ih rest hs
  | true =>
    have e : wrapL true (txtE a) ++ rest = 40 :: (txtE a ++ 41 :: rest) := by simp [wrapL]
    rw [e, lex_open, ih (41 :: rest) (show Sep (41 :: rest) from .inr rfl), lex_close]
    simp [wrapT, aheadT]
theorem reservedE_not {w : ByteArray} (h : reservedB w = false) : w.data.toList ≠ trueL ∧ w.data.toList ≠ falseL := by
  constructor
  · intro e
    unfold reservedB at h
    rw [e] at h
    exact absurd h (by decide)
  · intro e
    unfold reservedB at h
    rw [e] at h
    exact absurd h (by decide)
theorem has_name : NameBytes hasW := ⟨104, [97, 115], rfl, by decide, by decide, by decide⟩
theorem len_name : NameBytes lenW := ⟨108, [101, 110], rfl, by decide, by decide, by decide⟩
/-- A tree's text has its tokens. -/
theorem lex_tree (hn : ∀ w, nm.nameOk w = true → NameBytes w) : ∀ (t : Ex), OkT t → BndT t → ∀ rest, Sep rest → lexE (txtE t ++ rest) = aheadT (toksE t) (lexE rest)
  | .val v, h, hb, rest, hs => lex_val h hb rest hs
  | .var w, h, _, rest, hs => lex_word (hn w h.1) (reservedE_not h.2).1 (reservedE_not h.2).2 rest hs.word
  | .has w, h, _, rest, hs => by
    have e : txtE (.has w) ++ rest = hasW.data.toList ++ (40 :: (w.data.toList ++ 41 :: rest)) := by simp [txtE, hasW]
    rw [e, lex_word has_name (by decide) (by decide) _ (fun c r e => by injection e with e1 _; subst e1; decide), lex_open, lex_word (hn w h.1) (reservedE_not h.2).1 (reservedE_not h.2).2 _ (fun c r e => by injection e with e1 _; subst e1; decide), lex_close]
    rfl
  | .one op a, h, hb, rest, hs => by
    have ih := lex_tree hn a h.2 hb
    by_cases h5 : op = 5
    · subst h5
      have e : txtE (.one 5 a) ++ rest = lenW.data.toList ++ (40 :: (txtE a ++ 41 :: rest)) := by simp [txtE, lenW]
      rw [e, lex_word len_name (by decide) (by decide) _ (fun c r e => by injection e with e1 _; subst e1; decide), lex_open, ih (41 :: rest) (show Sep (41 :: rest) from .inr rfl), lex_close]
      simp [toksE, aheadT]
    · have hw := wrap_lex ih (inB op (topE a) true) rest hs
      have hop : op = 3 ∨ op = 4 := by have := h.1; omega
      rcases hop with rfl | rfl
      · have e : txtE (.one 3 a) ++ rest = 45 :: (wrapL (inB 3 (topE a) true) (txtE a) ++ rest) := rfl
        rw [e, lex_minus, hw]
        rfl
      · have e : txtE (.one 4 a) ++ rest = 33 :: (wrapL (inB 4 (topE a) true) (txtE a) ++ rest) := rfl
        obtain ⟨c, r, ec, hc⟩ := txt_head hn a h.2 hb
        have hh : ∃ c r, wrapL (inB 4 (topE a) true) (txtE a) ++ rest = c :: r ∧ c ≠ 61 := by
          cases inB 4 (topE a) true with
          | false => exact ⟨c, r ++ rest, by show txtE a ++ rest = _; rw [ec]; rfl, hc⟩
          | true => exact ⟨40, _, rfl, by decide⟩
        obtain ⟨c2, r2, e2, hc2⟩ := hh
        rw [e, e2, lex_not c2 r2 hc2, ← e2, hw]
        rfl
  | .two op a b, h, hb, rest, hs => by
    have iha := wrap_lex (lex_tree hn a h.2.1 hb.1) (inB op (topE a) false)
    have ihb := wrap_lex (lex_tree hn b h.2.2 hb.2) (inB op (topE b) true)
    have e : txtE (.two op a b) ++ rest = wrapL (inB op (topE a) false) (txtE a) ++ (32 :: (signL op ++ 32 :: (wrapL (inB op (topE b) true) (txtE b) ++ rest))) := by simp [txtE]
    rw [e, iha _ (show Sep (32 :: _) from .inl rfl), lexE_blank, lex_two h.1, ihb rest hs]
    simp [toksE, aheadT]
theorem mem_takeWhile (p : UInt8 → Bool) : ∀ (l : List UInt8) (x : UInt8), x ∈ l.takeWhile p → p x = true
  | [], _, h => by cases h
  | c :: l, x, h => by
    rw [List.takeWhile_cons] at h
    split at h
    · next hc =>
      rcases List.mem_cons.1 h with rfl | h
      · exact hc
      · exact mem_takeWhile p l x h
    · cases h
/-- The tokens of a text are fit. -/
theorem lex_fit (hw : ∀ w : ByteArray, NameBytes w → nm.nameOk w = true) : ∀ (f : Nat) (l : List UInt8), ∀ t ∈ (lexF f l).1, TokOk t := by
  intro f
  induction f with
  | zero => intro l t ht; cases ht
  | succ f ih =>
    intro l t ht
    cases l with
    | nil => cases ht
    | cons c r =>
      by_cases hc : c = 32
      · subst hc
        exact ih r t ht
      · rw [lexF_tok _ _ _ hc] at ht
        cases hk : tokAt (c :: r) with
        | inr e => rw [hk] at ht; cases ht
        | inl x =>
          obtain ⟨t', n⟩ := x
          rw [hk] at ht
          rcases List.mem_cons.1 ht with rfl | ht
          · unfold tokAt at hk
            simp only at hk
            split at hk
            · next hf =>
              split at hk
              · next h0 =>
                injection hk with hk
                simp only [Prod.mk.injEq] at hk
                rw [← hk.1]
                have e : parseV (c :: r) = ((parseV (c :: r)).1, (parseV (c :: r)).2.1, 0) := by rw [← h0]
                obtain ⟨h1, _, _, h4⟩ := parseV_right e
                refine ⟨h1, h4 ?_⟩
                intro hh
                injection hh with hh
                subst hh
                rcases hf with hf | hf
                · exact absurd hf (by decide)
                · exact absurd hf (by decide)
              · cases hk
            · split at hk
              · next hl =>
                split at hk
                · injection hk with hk
                  simp only [Prod.mk.injEq] at hk
                  rw [← hk.1]
                  exact ⟨by decide, by simp⟩
                · split at hk
                  · injection hk with hk
                    simp only [Prod.mk.injEq] at hk
                    rw [← hk.1]
                    exact ⟨by decide, by simp⟩
                  · split at hk
                    · cases hk
                    · next h16 =>
                      injection hk with hk
                      simp only [Prod.mk.injEq] at hk
                      rw [← hk.1]
                      have hwb : wordB c = true := by unfold wordB; rw [hl]; rfl
                      have hcons : wordOf (c :: r) = c :: r.takeWhile wordB := by unfold wordOf; rw [List.takeWhile_cons, if_pos hwb]
                      refine hw _ ⟨c, r.takeWhile wordB, hcons, hl, ?_, by simpa [ByteArray.size] using (show (wordOf (c :: r)).length ≤ 16 by omega)⟩
                      intro x hx
                      rw [← hcons] at hx
                      exact mem_takeWhile wordB _ x hx
              · split at hk
                · injection hk with hk
                  simp only [Prod.mk.injEq] at hk
                  rw [← hk.1]
                  trivial
                · cases hk
          · exact ih _ t ht
end Go.Proofs.YtidomoibhjgkjaaDoor
