import Derived.Test.YtidomoibhjgkjaaGreatDoorZC24
import Derived.Test.YtidomoibhjgkjaaGreatDoorZC26
/-
  Expressions in plain words: the tokens of a text; and that a tree's text has its tokens.
-/
namespace Go.Proofs.YtidomoibhjgkjaaGreatDoor

def letB (c : UInt8) : Bool := decide (97 ≤ c.toNat) && decide (c.toNat ≤ 122)
def wordB (c : UInt8) : Bool := letB c || isNum c || c == 45
/-- The sign at the front, and how many bytes it has. -/
def signAt : List UInt8 → Option (Int × Nat)
  | [] => none
  | c :: r =>
    if c = 124 ∧ r.head? = some 124 then some (18, 2) else if c = 38 ∧ r.head? = some 38 then some (17, 2) else if c = 61 ∧ r.head? = some 61 then some (15, 2)
    else if c = 33 ∧ r.head? = some 61 then some (16, 2) else if c = 60 ∧ r.head? = some 61 then some (12, 2) else if c = 62 ∧ r.head? = some 61 then some (14, 2)
    else if c = 60 then some (11, 1) else if c = 62 then some (13, 1) else if c = 43 then some (9, 1) else if c = 45 then some (10, 1) else if c = 42 then some (6, 1)
    else if c = 47 then some (7, 1) else if c = 37 then some (8, 1) else if c = 33 then some (4, 1) else if c = 40 then some (20, 1) else if c = 41 then some (21, 1) else none
/-- The word at the front. -/
def wordOf (l : List UInt8) : List UInt8 := l.takeWhile wordB
/-- The token at the front and how many bytes it has, or what is wrong. -/
def tokAt (l : List UInt8) : (Tok × Nat) ⊕ Int :=
  match l with
  | [] => .inr 0
  | c :: _ =>
    if isNum c = true ∨ c = 34 then (if (parseV l).2.2 = 0 then .inl (.lit (parseV l).1, (parseV l).2.1) else .inr (parseV l).2.2)
    else if letB c = true then
      (if wordOf l = trueL then .inl (.lit ⟨2, 1, mtS⟩, 4) else if wordOf l = falseL then .inl (.lit ⟨2, 0, mtS⟩, 5) else if 16 < (wordOf l).length then .inr 30 else .inl (.word ⟨(wordOf l).toArray⟩, (wordOf l).length))
    else match signAt l with
      | some (k, n) => .inl (.sg k, n)
      | none => .inr 8
/-- A text's tokens, and what is wrong behind them; so many are looked for at most. -/
def lexF : Nat → List UInt8 → List Tok × Int
  | 0, _ => ([], 0)
  | f + 1, l => match l with
    | [] => ([], 0)
    | 32 :: r => lexF f r
    | c :: r => match tokAt (c :: r) with
      | .inl (t, n) => (t :: (lexF f ((c :: r).drop n)).1, (lexF f ((c :: r).drop n)).2)
      | .inr e => ([], e)
theorem lexF_blank (f : Nat) (r : List UInt8) : lexF (f + 1) (32 :: r) = lexF f r := rfl
theorem lexF_tok (f : Nat) (c : UInt8) (r : List UInt8) (hc : c ≠ 32) : lexF (f + 1) (c :: r) = match tokAt (c :: r) with
      | .inl (t, n) => (t :: (lexF f ((c :: r).drop n)).1, (lexF f ((c :: r).drop n)).2)
      | .inr e => ([], e) := by
  rw [lexF.eq_def]
  simp only
theorem sign_len {l : List UInt8} {k : Int} {n : Nat} (h : signAt l = some (k, n)) : 0 < n := by
  unfold signAt at h
  split at h
  · cases h
  · have g : ∀ (p : Prop) [Decidable p] (k' : Int) (n' : Nat) (x : Option (Int × Nat)), 0 < n' → (x = some (k, n) → 0 < n) → (if p then some (k', n') else x) = some (k, n) → 0 < n := by
      intro p _ k' n' x hn hx he
      split at he
      · injection he with he
        simp only [Prod.mk.injEq] at he
        omega
      · exact hx he
    revert h
    repeat' (refine g _ _ _ _ (by decide) ?_)
    intro h
    cases h
theorem tok_len {l : List UInt8} {t : Tok} {n : Nat} (h : tokAt l = .inl (t, n)) : 0 < n := by
  unfold tokAt at h
  split at h
  · cases h
  · next c r =>
    split at h
    · split at h
      · next h0 =>
        injection h with h
        simp only [Prod.mk.injEq] at h
        have e : parseV (c :: r) = ((parseV (c :: r)).1, (parseV (c :: r)).2.1, 0) := by rw [← h0]
        have := (parseV_right e).2.1
        omega
      · cases h
    · split at h
      · next hl =>
        split at h
        · injection h with h; simp only [Prod.mk.injEq] at h; omega
        · split at h
          · injection h with h; simp only [Prod.mk.injEq] at h; omega
          · split at h
            · cases h
            · injection h with h
              simp only [Prod.mk.injEq] at h
              rw [← h.2]
              have : wordB c = true := by unfold wordB; rw [hl]; rfl
              unfold wordOf
              rw [List.takeWhile_cons, if_pos this]
              simp
      · split at h
        · next k m hs =>
          injection h with h
          simp only [Prod.mk.injEq] at h
          have := sign_len hs
          omega
        · cases h
/-- It is enough to look for as many as there are bytes. -/
theorem lexF_more (f : Nat) : ∀ (g : Nat) (l : List UInt8), l.length < f → l.length < g → lexF f l = lexF g l := by
  induction f with
  | zero => intro g l h; omega
  | succ f ih =>
    intro g l hf hg
    cases g with
    | zero => omega
    | succ g =>
      cases l with
      | nil => rfl
      | cons c r =>
        rw [List.length_cons] at hf hg
        by_cases hc : c = 32
        · subst hc
          rw [lexF_blank, lexF_blank]
          exact ih g r (by omega) (by omega)
        · rw [lexF_tok _ _ _ hc, lexF_tok _ _ _ hc]
          cases ht : tokAt (c :: r) with
          | inr e => rfl
          | inl x =>
            obtain ⟨t, n⟩ := x
            have hn := tok_len ht
            have hd : ((c :: r).drop n).length < f := by rw [List.length_drop, List.length_cons]; omega
            have hd2 : ((c :: r).drop n).length < g := by rw [List.length_drop, List.length_cons]; omega
            simp only
            rw [ih g _ hd hd2]
/-- A text's tokens, and what is wrong behind them. -/
def lexE (l : List UInt8) : List Tok × Int := lexF (l.length + 1) l
theorem lexE_nil : lexE [] = ([], 0) := rfl
theorem lexE_blank (r : List UInt8) : lexE (32 :: r) = lexE r := by
  unfold lexE
  rw [List.length_cons, lexF_blank]
theorem lexE_blanks (n : Nat) (r : List UInt8) : lexE (List.replicate n 32 ++ r) = lexE r := by
  induction n with
  | zero => rfl
  | succ n ih => rw [List.replicate_succ, List.cons_append, lexE_blank, ih]
theorem lexE_tok {c : UInt8} {r : List UInt8} {t : Tok} {n : Nat} (hc : c ≠ 32) (ht : tokAt (c :: r) = .inl (t, n)) : lexE (c :: r) = (t :: (lexE ((c :: r).drop n)).1, (lexE ((c :: r).drop n)).2) := by
  unfold lexE
  rw [lexF_tok _ _ _ hc, ht]
  have hn := tok_len ht
  simp only
  rw [lexF_more (c :: r).length (((c :: r).drop n).length + 1) ((c :: r).drop n) (by rw [List.length_drop, List.length_cons]; omega) (by omega)]
theorem lexE_bad {c : UInt8} {r : List UInt8} {e : Int} (hc : c ≠ 32) (ht : tokAt (c :: r) = .inr e) : lexE (c :: r) = ([], e) := by
  unfold lexE
  rw [lexF_tok _ _ _ hc, ht]

/-! ### the tokens of a tree's text -/
/-- What may follow a part's text. -/
def Sep : List UInt8 → Prop
  | [] => True
  | c :: _ => c = 32 ∨ c = 41
/-- Tokens ahead of others. -/
def aheadT (l : List Tok) (x : List Tok × Int) : List Tok × Int := (l ++ x.1, x.2)
theorem ahead_cons (t : Tok) (l : List Tok) (x : List Tok × Int) : aheadT (t :: l) x = (t :: (aheadT l x).1, (aheadT l x).2) := rfl
theorem ahead_append (a b : List Tok) (x : List Tok × Int) : aheadT (a ++ b) x = aheadT a (aheadT b x) := by simp [aheadT]
theorem Sep.more {k : Int} {l : List UInt8} (h : Sep l) : moreOk k l = true := by
  cases l with
  | nil => rfl
  | cons c r =>
    have hc : c = 32 ∨ c = 41 := h
    have h1 : isNum c = false := by rcases hc with rfl | rfl <;> decide
    have h2 : isWord c = false := by rcases hc with rfl | rfl <;> decide
    simp [moreOk, h1, h2]
theorem Sep.word {l : List UInt8} (h : Sep l) : ∀ c r, l = c :: r → wordB c = false := by
  intro c r e
  subst e
  have hc : c = 32 ∨ c = 41 := h
  rcases hc with rfl | rfl <;> decide
theorem takeWhile_all (p : UInt8 → Bool) (a b : List UInt8) (ha : ∀ c ∈ a, p c = true) (hb : ∀ c r, b = c :: r → p c = false) : (a ++ b).takeWhile p = a := by
  induction a with
  | nil =>
    cases b with
    | nil => rfl
    | cons c r => rw [List.nil_append, List.takeWhile_cons, if_neg (by rw [hb c r rfl]; simp)]
  | cons c a ih => rw [List.cons_append, List.takeWhile_cons, if_pos (ha c (List.mem_cons_self ..)), ih (fun x hx => ha x (List.mem_cons_of_mem _ hx))]
/-- What a name's bytes are. -/
def NameBytes (w : ByteArray) : Prop := ∃ c r, w.data.toList = c :: r ∧ letB c = true ∧ (∀ x ∈ c :: r, wordB x = true) ∧ w.size ≤ 16
theorem let_ne {c : UInt8} (h : letB c = true) : c ≠ 32 ∧ c ≠ 34 ∧ isNum c = false ∧ c ≠ 61 := by
  unfold letB at h
  simp at h
  refine ⟨?_, ?_, ?_, ?_⟩
  · rintro rfl; exact absurd h (by decide)
  · rintro rfl; exact absurd h (by decide)
  · unfold isNum; simp; omega
  · rintro rfl; exact absurd h (by decide)
/-- A word at the front. -/
theorem lex_word {w : ByteArray} (hw : NameBytes w) (ht : w.data.toList ≠ trueL) (hf : w.data.toList ≠ falseL) (rest : List UInt8) (hr : ∀ c r, rest = c :: r → wordB c = false) : lexE (w.data.toList ++ rest) = aheadT [.word w] (lexE rest) := by
  obtain ⟨c, r, e, hc, hall, h16⟩ := hw
  obtain ⟨n32, n34, nn, _⟩ := let_ne hc
  have hwo : wordOf (c :: (r ++ rest)) = c :: r := takeWhile_all wordB (c :: r) rest hall hr
  have hlen : (c :: r).length ≤ 16 := by rw [← e]; exact h16
  have htok : tokAt (c :: (r ++ rest)) = .inl (.word w, (c :: r).length) := by
    unfold tokAt
    simp only
    rw [if_neg (by simp [nn, n34]), if_pos hc, hwo, if_neg (by rw [← e]; exact ht), if_neg (by rw [← e]; exact hf), if_neg (by omega)]
    have : (⟨(c :: r).toArray⟩ : ByteArray) = w := by apply ba_list; rw [e]
    rw [this]
  rw [e, List.cons_append, lexE_tok n32 htok]
  have hd : (c :: (r ++ rest)).drop (c :: r).length = rest := by rw [← List.cons_append]; exact List.drop_left
  rw [hd]
  rfl
/-- A sign at the front. -/
theorem lex_sign {c : UInt8} {r : List UInt8} {k : Int} {n : Nat} (hs : signAt (c :: r) = some (k, n)) (hc : isNum c = false ∧ c ≠ 34 ∧ letB c = false ∧ c ≠ 32) : lexE (c :: r) = aheadT [.sg k] (lexE ((c :: r).drop n)) := by
  have htok : tokAt (c :: r) = .inl (.sg k, n) := by
    unfold tokAt
    simp only
    rw [if_neg (by simp [hc.1, hc.2.1]), if_neg (by simp [hc.2.2.1]), hs]
  rw [lexE_tok hc.2.2.2 htok]
  rfl
theorem lex_open (r : List UInt8) : lexE (40 :: r) = aheadT [.sg 20] (lexE r) := lex_sign (k := 20) (n := 1) (by simp [signAt]) (by decide)
theorem lex_close (r : List UInt8) : lexE (41 :: r) = aheadT [.sg 21] (lexE r) := lex_sign (k := 21) (n := 1) (by simp [signAt]) (by decide)
theorem lex_minus (r : List UInt8) : lexE (45 :: r) = aheadT [.sg 10] (lexE r) := lex_sign (k := 10) (n := 1) (by simp [signAt]) (by decide)
theorem lex_not (c : UInt8) (r : List UInt8) (hc : c ≠ 61) : lexE (33 :: c :: r) = aheadT [.sg 4] (lexE (c :: r)) := lex_sign (k := 4) (n := 1) (by simp [signAt, hc]) (by decide)
/-- A sign of two, with a blank behind it. -/
theorem lex_two {op : Int} (h : 6 ≤ op ∧ op ≤ 18) (r : List UInt8) : lexE (signL op ++ 32 :: r) = aheadT [.sg op] (lexE r) := by
  have hop : op = 6 ∨ op = 7 ∨ op = 8 ∨ op = 9 ∨ op = 10 ∨ op = 11 ∨ op = 12 ∨ op = 13 ∨ op = 14 ∨ op = 15 ∨ op = 16 ∨ op = 17 ∨ op = 18 := by omega
  rcases hop with rfl | rfl | rfl | rfl | rfl | rfl | rfl | rfl | rfl | rfl | rfl | rfl | rfl
  · exact (lex_sign (c := 42) (r := 32 :: r) (k := 6) (n := 1) (by simp [signAt]) (by decide)).trans (by rw [List.drop_succ_cons, List.drop_zero, lexE_blank])
  · exact (lex_sign (c := 47) (r := 32 :: r) (k := 7) (n := 1) (by simp [signAt]) (by decide)).trans (by rw [List.drop_succ_cons, List.drop_zero, lexE_blank])
  · exact (lex_sign (c := 37) (r := 32 :: r) (k := 8) (n := 1) (by simp [signAt]) (by decide)).trans (by rw [List.drop_succ_cons, List.drop_zero, lexE_blank])
  · exact (lex_sign (c := 43) (r := 32 :: r) (k := 9) (n := 1) (by simp [signAt]) (by decide)).trans (by rw [List.drop_succ_cons, List.drop_zero, lexE_blank])
  · exact (lex_sign (c := 45) (r := 32 :: r) (k := 10) (n := 1) (by simp [signAt]) (by decide)).trans (by rw [List.drop_succ_cons, List.drop_zero, lexE_blank])
  · exact (lex_sign (c := 60) (r := 32 :: r) (k := 11) (n := 1) (by simp [signAt]) (by decide)).trans (by rw [List.drop_succ_cons, List.drop_zero, lexE_blank])
  · exact (lex_sign (c := 60) (r := 61 :: 32 :: r) (k := 12) (n := 2) (by simp [signAt]) (by decide)).trans (by rw [List.drop_succ_cons, List.drop_succ_cons, List.drop_zero, lexE_blank])
  · exact (lex_sign (c := 62) (r := 32 :: r) (k := 13) (n := 1) (by simp [signAt]) (by decide)).trans (by rw [List.drop_succ_cons, List.drop_zero, lexE_blank])
  · exact (lex_sign (c := 62) (r := 61 :: 32 :: r) (k := 14) (n := 2) (by simp [signAt]) (by decide)).trans (by rw [List.drop_succ_cons, List.drop_succ_cons, List.drop_zero, lexE_blank])
  · exact (lex_sign (c := 61) (r := 61 :: 32 :: r) (k := 15) (n := 2) (by simp [signAt]) (by decide)).trans (by rw [List.drop_succ_cons, List.drop_succ_cons, List.drop_zero, lexE_blank])
  · exact (lex_sign (c := 33) (r := 61 :: 32 :: r) (k := 16) (n := 2) (by simp [signAt]) (by decide)).trans (by rw [List.drop_succ_cons, List.drop_succ_cons, List.drop_zero, lexE_blank])
  · exact (lex_sign (c := 38) (r := 38 :: 32 :: r) (k := 17) (n := 2) (by simp [signAt]) (by decide)).trans (by rw [List.drop_succ_cons, List.drop_succ_cons, List.drop_zero, lexE_blank])
  · exact (lex_sign (c := 124) (r := 124 :: 32 :: r) (k := 18) (n := 2) (by simp [signAt]) (by decide)).trans (by rw [List.drop_succ_cons, List.drop_succ_cons, List.drop_zero, lexE_blank])
end Go.Proofs.YtidomoibhjgkjaaGreatDoor

/-
  Expressions in plain words: a tree's text has its tokens; there and back.
-/
namespace Go.Proofs.YtidomoibhjgkjaaGreatDoor

/-- The numbers of a tree's values are such that are held. -/
def BndT : Ex → Prop
  | .val v => v.n ≤ 9223372036854775807
  | .var _ => True
  | .has _ => True
  | .one _ a => BndT a
  | .two _ a b => BndT a ∧ BndT b
theorem val_bounds {v : V} (h : valFit v) (hb : v.n ≤ 9223372036854775807) : -9223372036854775808 ≤ v.n ∧ v.n ≤ 9223372036854775807 := by
  refine ⟨?_, hb⟩
  obtain ⟨hr, hn⟩ := h
  obtain ⟨k, n, s⟩ := v
  simp only at hn ⊢
  rcases right_kind hr with hk | hk | hk
  · simp only at hk
    subst hk
    simp at hn
    omega
  · simp only at hk
    subst hk
    rcases right_truth hr with rfl | rfl <;> omega
  · simp only at hk
    subst hk
    have := (right_text hr rfl).2
    simp only at this
    omega
theorem trueL_word (more : List UInt8) (hs : Sep more) (n : Int) (hn : n = 0 ∨ n = 1) : lexE (printV ⟨2, n, ⟨#[]⟩⟩ ++ more) = aheadT [.lit ⟨2, n, ⟨#[]⟩⟩] (lexE more) := by
  rcases hn with rfl | rfl
  · have hwo : wordOf (falseL ++ more) = falseL := takeWhile_all wordB falseL more (by decide) hs.word
    have htok : tokAt (102 :: ([97, 108, 115, 101] ++ more)) = .inl (.lit ⟨2, 0, mtS⟩, 5) := by
      unfold tokAt
      simp only
      rw [if_neg (by decide), if_pos (by decide)]
      have e : (102 :: ([97, 108, 115, 101] ++ more) : List UInt8) = falseL ++ more := rfl
      rw [e, hwo, if_neg (by decide), if_pos rfl]
    have := lexE_tok (c := 102) (r := [97, 108, 115, 101] ++ more) (by decide) htok
    exact this
  · have hwo : wordOf (trueL ++ more) = trueL := takeWhile_all wordB trueL more (by decide) hs.word
    have htok : tokAt (116 :: ([114, 117, 101] ++ more)) = .inl (.lit ⟨2, 1, mtS⟩, 4) := by
      unfold tokAt
      simp only
      rw [if_neg (by decide), if_pos (by decide)]
      have e : (116 :: ([114, 117, 101] ++ more) : List UInt8) = trueL ++ more := rfl
      rw [e, hwo, if_pos rfl]
    have := lexE_tok (c := 116) (r := [114, 117, 101] ++ more) (by decide) htok
    exact this
/-- A value's text is its token. -/
theorem lex_val {v : V} (h : valFit v) (hb : v.n ≤ 9223372036854775807) (rest : List UInt8) (hs : Sep rest) : lexE (printV v ++ rest) = aheadT [.lit v] (lexE rest) := by
  obtain ⟨b0, b1⟩ := val_bounds h hb
  have hp := parseV_print v rest h.1 b0 b1 hs.more
  -- what begins with a digit, or a quote
  have front : ∀ c r, printV v = c :: r → isNum c = true ∨ c = 34 → lexE (printV v ++ rest) = aheadT [.lit v] (lexE rest) := by
    intro c r e hc
    have hc32 : c ≠ 32 := by
      rintro rfl
      rcases hc with hc | hc
      · exact absurd hc (by decide)
      · exact absurd hc (by decide)
    have htok : tokAt (c :: (r ++ rest)) = .inl (.lit v, (printV v).length) := by
      unfold tokAt
      simp only
      rw [if_pos hc]
      have e2 : c :: (r ++ rest) = printV v ++ rest := by rw [e]; rfl
      rw [e2, hp]
      rfl
    rw [e, List.cons_append, lexE_tok hc32 htok]
    have hd : (c :: (r ++ rest)).drop (printV v).length = rest := by rw [← List.cons_append, ← e]; exact List.drop_left
    rw [hd]
    rfl
  obtain ⟨hr, hneg⟩ := h
  obtain ⟨k, n, s⟩ := v
  simp only at hneg
  rcases right_kind hr with hk | hk | hk
  · simp only at hk
    subst hk
    have hn : ¬ n < 0 := fun hx => hneg ⟨rfl, hx⟩
    obtain ⟨c, r, e, h1, _⟩ := natL_head n.toNat
    refine front c r ?_ (.inl h1)
    show intL n = _
    unfold intL
    rw [if_neg hn, e]
  · simp only at hk
    subst hk
    have hse := ba_empty (right_empty hr (by simp))
    simp only at hse
    subst hse
    exact trueL_word rest hs n (right_truth hr)
  · simp only at hk
    subst hk
    exact front 34 _ rfl (.inr rfl)
/-- A tree's text begins with something that is no '='. -/
theorem txt_head (hn : ∀ w, nm.nameOk w = true → NameBytes w) : ∀ (t : Ex), OkT t → BndT t → ∃ c r, txtE t = c :: r ∧ c ≠ 61
  | .val v, h, hb => by
    obtain ⟨hr, hneg⟩ := h
    obtain ⟨k, n, s⟩ := v
    simp only at hneg
    show ∃ c r, printV ⟨k, n, s⟩ = c :: r ∧ c ≠ 61
    rcases right_kind hr with hk | hk | hk
    · simp only at hk
      subst hk
      obtain ⟨c, r, e, h1, _⟩ := natL_head n.toNat
      refine ⟨c, r, ?_, fun hc => by rw [hc] at h1; exact absurd h1 (by decide)⟩
      show intL n = _
      unfold intL
      rw [if_neg (fun hx => hneg ⟨rfl, hx⟩), e]
    · simp only at hk
      subst hk
      rcases right_truth hr with rfl | rfl
      · exact ⟨102, _, rfl, by decide⟩
      · exact ⟨116, _, rfl, by decide⟩
    · simp only at hk
      subst hk
      exact ⟨34, _, rfl, by decide⟩
  | .var w, h, _ => by
    obtain ⟨c, r, e, hc, _⟩ := hn w h.1
    exact ⟨c, r, e, (let_ne hc).2.2.2⟩
  | .has w, _, _ => ⟨104, _, rfl, by decide⟩
  | .one op a, h, hb => by
    by_cases h5 : op = 5
    · subst h5
      exact ⟨108, _, rfl, by decide⟩
    · have hop : op = 3 ∨ op = 4 := by have := h.1; omega
      rcases hop with rfl | rfl
      · exact ⟨45, _, rfl, by decide⟩
      · exact ⟨33, _, rfl, by decide⟩
  | .two op a b, h, hb => by
    obtain ⟨c, r, e, hc⟩ := txt_head hn a h.2.1 hb.1
    show ∃ c r, wrapL (inB op (topE a) false) (txtE a) ++ [32] ++ signL op ++ [32] ++ wrapL (inB op (topE b) true) (txtE b) = c :: r ∧ c ≠ 61
    cases inB op (topE a) false with
    | false =>
      refine ⟨c, r ++ [32] ++ signL op ++ [32] ++ wrapL (inB op (topE b) true) (txtE b), ?_, hc⟩
      show txtE a ++ [32] ++ signL op ++ [32] ++ _ = _
      rw [e]
      rfl
    | true => exact ⟨40, _, rfl, by decide⟩
theorem wrap_lex {a : Ex} (ih : ∀ rest, Sep rest → lexE (txtE a ++ rest) = aheadT (toksE a) (lexE rest)) (b : Bool) (rest : List UInt8) (hs : Sep rest) : lexE (wrapL b (txtE a) ++ rest) = aheadT (wrapT b (toksE a)) (lexE rest) := by
  cases b with
  | false => exact ih rest hs
  | true =>
    have e : wrapL true (txtE a) ++ rest = 40 :: (txtE a ++ 41 :: rest) := by simp [wrapL]
    rw [e, lex_open, ih (41 :: rest) (show Sep (41 :: rest) from .inr rfl), lex_close]
    simp [wrapT, aheadT]
theorem reservedE_not {w : ByteArray} (h : reservedB w = false) : w.data.toList ≠ trueL ∧ w.data.toList ≠ falseL := by
  constructor
  · intro e
    unfold reservedB at h
    rw [e] at h
    exact absurd h (by decide)
  · intro e
    unfold reservedB at h
    rw [e] at h
    exact absurd h (by decide)
theorem has_name : NameBytes hasW := ⟨104, [97, 115], rfl, by decide, by decide, by decide⟩
theorem len_name : NameBytes lenW := ⟨108, [101, 110], rfl, by decide, by decide, by decide⟩
/-- A tree's text has its tokens. -/
theorem lex_tree (hn : ∀ w, nm.nameOk w = true → NameBytes w) : ∀ (t : Ex), OkT t → BndT t → ∀ rest, Sep rest → lexE (txtE t ++ rest) = aheadT (toksE t) (lexE rest)
  | .val v, h, hb, rest, hs => lex_val h hb rest hs
  | .var w, h, _, rest, hs => lex_word (hn w h.1) (reservedE_not h.2).1 (reservedE_not h.2).2 rest hs.word
  | .has w, h, _, rest, hs => by
    have e : txtE (.has w) ++ rest = hasW.data.toList ++ (40 :: (w.data.toList ++ 41 :: rest)) := by simp [txtE, hasW]
    rw [e, lex_word has_name (by decide) (by decide) _ (fun c r e => by injection e with e1 _; subst e1; decide), lex_open, lex_word (hn w h.1) (reservedE_not h.2).1 (reservedE_not h.2).2 _ (fun c r e => by injection e with e1 _; subst e1; decide), lex_close]
    rfl
  | .one op a, h, hb, rest, hs => by
    have ih := lex_tree hn a h.2 hb
    by_cases h5 : op = 5
    · subst h5
      have e : txtE (.one 5 a) ++ rest = lenW.data.toList ++ (40 :: (txtE a ++ 41 :: rest)) := by simp [txtE, lenW]
      rw [e, lex_word len_name (by decide) (by decide) _ (fun c r e => by injection e with e1 _; subst e1; decide), lex_open, ih (41 :: rest) (show Sep (41 :: rest) from .inr rfl), lex_close]
      simp [toksE, aheadT]
    · have hw := wrap_lex ih (inB op (topE a) true) rest hs
      have hop : op = 3 ∨ op = 4 := by have := h.1; omega
      rcases hop with rfl | rfl
      · have e : txtE (.one 3 a) ++ rest = 45 :: (wrapL (inB 3 (topE a) true) (txtE a) ++ rest) := rfl
        rw [e, lex_minus, hw]
        rfl
      · have e : txtE (.one 4 a) ++ rest = 33 :: (wrapL (inB 4 (topE a) true) (txtE a) ++ rest) := rfl
        obtain ⟨c, r, ec, hc⟩ := txt_head hn a h.2 hb
        have hh : ∃ c r, wrapL (inB 4 (topE a) true) (txtE a) ++ rest = c :: r ∧ c ≠ 61 := by
          cases inB 4 (topE a) true with
          | false => exact ⟨c, r ++ rest, by show txtE a ++ rest = _; rw [ec]; rfl, hc⟩
          | true => exact ⟨40, _, rfl, by decide⟩
        obtain ⟨c2, r2, e2, hc2⟩ := hh
        rw [e, e2, lex_not c2 r2 hc2, ← e2, hw]
        rfl
  | .two op a b, h, hb, rest, hs => by
    have iha := wrap_lex (lex_tree hn a h.2.1 hb.1) (inB op (topE a) false)
    have ihb := wrap_lex (lex_tree hn b h.2.2 hb.2) (inB op (topE b) true)
    have e : txtE (.two op a b) ++ rest = wrapL (inB op (topE a) false) (txtE a) ++ (32 :: (signL op ++ 32 :: (wrapL (inB op (topE b) true) (txtE b) ++ rest))) := by simp [txtE]
    rw [e, iha _ (show Sep (32 :: _) from .inl rfl), lexE_blank, lex_two h.1, ihb rest hs]
    simp [toksE, aheadT]
theorem mem_takeWhile (p : UInt8 → Bool) : ∀ (l : List UInt8) (x : UInt8), x ∈ l.takeWhile p → p x = true
  | [], _, h => by cases h
  | c :: l, x, h => by
    rw [List.takeWhile_cons] at h
    split at h
    · next hc =>
      rcases List.mem_cons.1 h with rfl | h
      · exact hc
      · exact mem_takeWhile p l x h
    · cases h
/-- The tokens of a text are fit. -/
theorem lex_fit (hw : ∀ w : ByteArray, NameBytes w → nm.nameOk w = true) : ∀ (f : Nat) (l : List UInt8), ∀ t ∈ (lexF f l).1, TokOk t := by
  intro f
  induction f with
  | zero => intro l t ht; cases ht
  | succ f ih =>
    intro l t ht
    cases l with
    | nil => cases ht
    | cons c r =>
      by_cases hc : c = 32
      · subst hc
        exact ih r t ht
      · rw [lexF_tok _ _ _ hc] at ht
        cases hk : tokAt (c :: r) with
        | inr e => rw [hk] at ht; cases ht
        | inl x =>
          obtain ⟨t', n⟩ := x
          rw [hk] at ht
          rcases List.mem_cons.1 ht with rfl | ht
          · unfold tokAt at hk
            simp only at hk
            split at hk
            · next hf =>
              split at hk
              · next h0 =>
                injection hk with hk
                simp only [Prod.mk.injEq] at hk
                rw [← hk.1]
                have e : parseV (c :: r) = ((parseV (c :: r)).1, (parseV (c :: r)).2.1, 0) := by rw [← h0]
                obtain ⟨h1, _, _, h4⟩ := parseV_right e
                refine ⟨h1, h4 ?_⟩
                intro hh
                injection hh with hh
                subst hh
                rcases hf with hf | hf
                · exact absurd hf (by decide)
                · exact absurd hf (by decide)
              · cases hk
            · split at hk
              · next hl =>
                split at hk
                · injection hk with hk
                  simp only [Prod.mk.injEq] at hk
                  rw [← hk.1]
                  exact ⟨by decide, by simp⟩
                · split at hk
                  · injection hk with hk
                    simp only [Prod.mk.injEq] at hk
                    rw [← hk.1]
                    exact ⟨by decide, by simp⟩
                  · split at hk
                    · cases hk
                    · next h16 =>
                      injection hk with hk
                      simp only [Prod.mk.injEq] at hk
                      rw [← hk.1]
                      have hwb : wordB c = true := by unfold wordB; rw [hl]; rfl
                      have hcons : wordOf (c :: r) = c :: r.takeWhile wordB := by unfold wordOf; rw [List.takeWhile_cons, if_pos hwb]
                      refine hw _ ⟨c, r.takeWhile wordB, hcons, hl, ?_, by simpa [ByteArray.size] using (show (wordOf (c :: r)).length ≤ 16 by omega)⟩
                      intro x hx
                      rw [← hcons] at hx
                      exact mem_takeWhile wordB _ x hx
              · split at hk
                · injection hk with hk
                  simp only [Prod.mk.injEq] at hk
                  rw [← hk.1]
                  trivial
                · cases hk
          · exact ih _ t ht
end Go.Proofs.YtidomoibhjgkjaaGreatDoor
