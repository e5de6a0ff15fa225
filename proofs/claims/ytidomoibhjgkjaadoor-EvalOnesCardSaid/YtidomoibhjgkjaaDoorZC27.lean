import Derived.Test.YtidomoibhjgkjaaDoorZC24
import Derived.Test.YtidomoibhjgkjaaDoorZC26
/-
  Expressions in plain words: the tokens of a text; and that a tree's text has its tokens.
-/
namespace Go.Proofs.YtidomoibhjgkjaaDoor

def letB (c : UInt8) : Bool := decide (97 ≤ c.toNat) && decide (c.toNat ≤ 122)
def wordB (c : UInt8) : Bool := letB c || isNum c || c == 45
/-- The sign at the front, and how many bytes it has. -/
def signAt : List UInt8 → Option (Int × Nat)
  | [] => none
  | c :: r =>
    if c = 124 ∧ r.head? = some 124 then some (18, 2) else if c = 38 ∧ r.head? = some 38 then some (17, 2) else if c = 61 ∧ r.head? = some 61 then some (15, 2)
    else if c = 33 ∧ r.head? = some 61 then some (16, 2) else if c = 60 ∧ r.head? = some 61 then some (12, 2) else if c = 62 ∧ r.head? = some 61 then some (14, 2)
    else if c = 60 then some (11, 1) else if c = 62 then some (13, 1) else if c = 43 then some (9, 1) else if c = 45 then some (10, 1) else if c = 42 then some (6, 1)
    else if c = 47 then some (7, 1) else if c = 37 then some (8, 1) else if c = 33 then some (4, 1) else if c = 40 then some (20, 1) else if c = 41 then some (21, 1) else none
/-- The word at the front. -/
def wordOf (l : List UInt8) : List UInt8 := l.takeWhile wordB
/-- The token at the front and how many bytes it has, or what is wrong. -/
def tokAt (l : List UInt8) : (Tok × Nat) ⊕ Int :=
  match l with
  | [] => .inr 0
  | c :: _ =>
    if isNum c = true ∨ c = 34 then (if (parseV l).2.2 = 0 then .inl (.lit (parseV l).1, (parseV l).2.1) else .inr (parseV l).2.2)
    else if letB c = true then
      (if wordOf l = trueL then .inl (.lit ⟨2, 1, mtS⟩, 4) else if wordOf l = falseL then .inl (.lit ⟨2, 0, mtS⟩, 5) else if 16 < (wordOf l).length then .inr 30 else .inl (.word ⟨(wordOf l).toArray⟩, (wordOf l).length))
    else match signAt l with
      | some (k, n) => .inl (.sg k, n)
      | none => .inr 8
/-- A text's tokens, and what is wrong behind them; so many are looked for at most. -/
def lexF : Nat → List UInt8 → List Tok × Int
  | 0, _ => ([], 0)
  | f + 1, l => match l with
    | [] => ([], 0)
    | 32 :: r => lexF f r
    | c :: r => match tokAt (c :: r) with
      | .inl (t, n) => (t :: (lexF f ((c :: r).drop n)).1, (lexF f ((c :: r).drop n)).2)
      | .inr e => ([], e)
theorem lexF_blank (f : Nat) (r : List UInt8) : lexF (f + 1) (32 :: r) = lexF f r := rfl
theorem lexF_tok (f : Nat) (c : UInt8) (r : List UInt8) (hc : c ≠ 32) : lexF (f + 1) (c :: r) = match tokAt (c :: r) with
      | .inl (t, n) => (t :: (lexF f ((c :: r).drop n)).1, (lexF f ((c :: r).drop n)).2)
      | .inr e => ([], e) := by
  rw [lexF.eq_def]
  simp only
theorem sign_len {l : List UInt8} {k : Int} {n : Nat} (h : signAt l = some (k, n)) : 0 < n := by
  unfold signAt at h
  split at h
  · cases h
  · have g : ∀ (p : Prop) [Decidable p] (k' : Int) (n' : Nat) (x : Option (Int × Nat)), 0 < n' → (x = some (k, n) → 0 < n) → (if p then some (k', n') else x) = some (k, n) → 0 < n := by
      intro p _ k' n' x hn hx he
      split at he
      · injection he with he
        simp only [Prod.mk.injEq] at he
        omega
      · exact hx he
    revert h
    repeat' (refine g _ _ _ _ (by decide) ?_)
    intro h
    cases h
theorem tok_len {l : List UInt8} {t : Tok} {n : Nat} (h : tokAt l = .inl (t, n)) : 0 < n := by
  unfold tokAt at h
  split at h
  · cases h
  · next c r =>
    split at h
    · split at h
      · next h0 =>
        injection h with h
        simp only [Prod.mk.injEq] at h
        have e : parseV (c :: r) = ((parseV (c :: r)).1, (parseV (c :: r)).2.1, 0) := by rw [← h0]
        have := (parseV_right e).2.1
        omega
      · cases h
    · split at h
      · next hl =>
        split at h
        · injection h with h; simp only [Prod.mk.injEq] at h; omega
        · split at h
          · injection h with h; simp only [Prod.mk.injEq] at h; omega
          · split at h
            · cases h
            · injection h with h
              simp only [Prod.mk.injEq] at h
              rw [← h.2]
              have : wordB c = true := by unfold wordB; rw [hl]; rfl
              unfold wordOf
              rw [List.takeWhile_cons, if_pos this]
              simp
      · split at h
        · next k m hs =>
          injection h with h
          simp only [Prod.mk.injEq] at h
          have := sign_len hs
          omega
        · cases h
/-- It is enough to look for as many as there are bytes. -/
theorem lexF_more (f : Nat) : ∀ (g : Nat) (l : List UInt8), l.length < f → l.length < g → lexF f l = lexF g l := by
  induction f with
  | zero => intro g l h; omega
  | succ f ih =>
    intro g l hf hg
    cases g with
    | zero => omega
    | succ g =>
      cases l with
      | nil => rfl
      | cons c r =>
        rw [List.length_cons] at hf hg
        by_cases hc : c = 32
        · subst hc
          rw [lexF_blank, lexF_blank]
          exact ih g r (by omega) (by omega)
        · rw [lexF_tok _ _ _ hc, lexF_tok _ _ _ hc]
          cases ht : tokAt (c :: r) with
          | inr e => rfl
          | inl x =>
            obtain ⟨t, n⟩ := x
            have hn := tok_len ht
            have hd : ((c :: r).drop n).length < f := by rw [List.length_drop, List.length_cons]; omega
            have hd2 : ((c :: r).drop n).length < g := by rw [List.length_drop, List.length_cons]; omega
            simp only
            rw [ih g _ hd hd2]
/-- A text's tokens, and what is wrong behind them. -/
def lexE (l : List UInt8) : List Tok × Int := lexF (l.length + 1) l
theorem lexE_nil : lexE [] = ([], 0) := rfl
theorem lexE_blank (r : List UInt8) : lexE (32 :: r) = lexE r := by
  unfold lexE
  rw [List.length_cons, lexF_blank]
theorem lexE_blanks (n : Nat) (r : List UInt8) : lexE (List.replicate n 32 ++ r) = lexE r := by
  induction n with
  | zero => rfl
  | succ n ih => rw [List.replicate_succ, List.cons_append, lexE_blank, ih]
theorem lexE_tok {c : UInt8} {r : List UInt8} {t : Tok} {n : Nat} (hc : c ≠ 32) (ht : tokAt (c :: r) = .inl (t, n)) : lexE (c :: r) = (t :: (lexE ((c :: r).drop n)).1, (lexE ((c :: r).drop n)).2) := by
  unfold lexE
  rw [lexF_tok _ _ _ hc, ht]
  have hn := tok_len ht
  simp only
  rw [lexF_more (c :: r).length (((c :: r).drop n).length + 1) ((c :: r).drop n) (by rw [List.length_drop, List.length_cons]; omega) (by omega)]
theorem lexE_bad {c : UInt8} {r : List UInt8} {e : Int} (hc : c ≠ 32) (ht : tokAt (c :: r) = .inr e) : lexE (c :: r) = ([], e) := by
  unfold lexE
  rw [lexF_tok _ _ _ hc, ht]

/-! ### the tokens of a tree's text -/
/-- What may follow a part's text. -/
def Sep : List UInt8 → Prop
  | [] => True
  | c :: _ => c = 32 ∨ c = 41
/-- Tokens ahead of others. -/
def aheadT (l : List Tok) (x : List Tok × Int) : List Tok × Int := (l ++ x.1, x.2)
theorem ahead_cons (t : Tok) (l : List Tok) (x : List Tok × Int) : aheadT (t :: l) x = (t :: (aheadT l x).1, (aheadT l x).2) := rfl
theorem ahead_append (a b : List Tok) (x : List Tok × Int) : aheadT (a ++ b) x = aheadT a (aheadT b x) := by simp [aheadT]
theorem Sep.more {k : Int} {l : List UInt8} (h : Sep l) : moreOk k l = true := by
  cases l with
  | nil => rfl
  | cons c r =>
    have hc : c = 32 ∨ c = 41 := h
    have h1 : isNum c = false := by rcases hc with rfl | rfl <;> decide
    have h2 : isWord c = false := by rcases hc with rfl | rfl <;> decide
    simp [moreOk, h1, h2]
theorem Sep.word {l : List UInt8} (h : Sep l) : ∀ c r, l = c :: r → wordB c = false := by
  intro c r e
  subst e
  have hc : c = 32 ∨ c = 41 := h
  rcases hc with rfl | rfl <;> decide
theorem takeWhile_all (p : UInt8 → Bool) (a b : List UInt8) (ha : ∀ c ∈ a, p c = true) (hb : ∀ c r, b = c :: r → p c = false) : (a ++ b).takeWhile p = a := by
  induction a with
  | nil =>
    cases b with
    | nil => rfl
    | cons c r => rw [List.nil_append, List.takeWhile_cons, if_neg (by rw [hb c r rfl]; simp)]
  | cons c a ih => rw [List.cons_append, List.takeWhile_cons, if_pos (ha c (List.mem_cons_self ..)), ih (fun x hx => ha x (List.mem_cons_of_mem _ hx))]
/-- What a name's bytes are. -/
def NameBytes (w : ByteArray) : Prop := ∃ c r, w.data.toList = c :: r ∧ letB c = true ∧ (∀ x ∈ c :: r, wordB x = true) ∧ w.size ≤ 16
theorem let_ne {c : UInt8} (h : letB c = true) : c ≠ 32 ∧ c ≠ 34 ∧ isNum c = false ∧ c ≠ 61 := by
  unfold letB at h
  simp at h
  refine ⟨?_, ?_, ?_, ?_⟩
  · rintro rfl; exact absurd h (by decide)
  · rintro rfl; exact absurd h (by decide)
  · unfold isNum; simp; omega
  · rintro rfl; exact absurd h (by decide)
/-- A word at the front. -/
theorem lex_word {w : ByteArray} (hw : NameBytes w) (ht : w.data.toList ≠ trueL) (hf : w.data.toList ≠ falseL) (rest : List UInt8) (hr : ∀ c r, rest = c :: r → wordB c = false) : lexE (w.data.toList ++ rest) = aheadT [.word w] (lexE rest) := by
  obtain ⟨c, r, e, hc, hall, h16⟩ := hw
  obtain ⟨n32, n34, nn, _⟩ := let_ne hc
  have hwo : wordOf (c :: (r ++ rest)) = c :: r := takeWhile_all wordB (c :: r) rest hall hr
  have hlen : (c :: r).length ≤ 16 := by rw [← e]; exact h16
  have htok : tokAt (c :: (r ++ rest)) = .inl (.word w, (c :: r).length) := by
    unfold tokAt
    simp only
    rw [if_neg (by simp [nn, n34]), if_pos hc, hwo, if_neg (by rw [← e]; exact ht), if_neg (by rw [← e]; exact hf), if_neg (by omega)]
    have : (⟨(c :: r).toArray⟩ : ByteArray) = w := by apply ba_list; rw [e]
    rw [this]
  rw [e, List.cons_append, lexE_tok n32 htok]
  have hd : (c :: (r ++ rest)).drop (c :: r).length = rest := by rw [← List.cons_append]; exact List.drop_left
  rw [hd]
  rfl
/-- A sign at the front. -/
theorem lex_sign {c : UInt8} {r : List UInt8} {k : Int} {n : Nat} (hs : signAt (c :: r) = some (k, n)) (hc : isNum c = false ∧ c ≠ 34 ∧ letB c = false ∧ c ≠ 32) : lexE (c :: r) = aheadT [.sg k] (lexE ((c :: r).drop n)) := by
  have htok : tokAt (c :: r) = .inl (.sg k, n) := by
    unfold tokAt
    simp only
    rw [if_neg (by simp [hc.1, hc.2.1]), if_neg (by simp [hc.2.2.1]), hs]
  rw [lexE_tok hc.2.2.2 htok]
  rfl
theorem lex_open (r : List UInt8) : lexE (40 :: r) = aheadT [.sg 20] (lexE r) := lex_sign (k := 20) (n := 1) (by simp [signAt]) (by decide)
theorem lex_close (r : List UInt8) : lexE (41 :: r) = aheadT [.sg 21] (lexE r) := lex_sign (k := 21) (n := 1) (by simp [signAt]) (by decide)
theorem lex_minus (r : List UInt8) : lexE (45 :: r) = aheadT [.sg 10] (lexE r) := lex_sign (k := 10) (n := 1) (by simp [signAt]) (by decide)
theorem lex_not (c : UInt8) (r : List UInt8) (hc : c ≠ 61) : lexE (33 :: c :: r) = aheadT [.sg 4] (lexE (c :: r)) := lex_sign (k := 4) (n := 1) (by simp [signAt, hc]) (by decide)
/-- A sign of two, with a blank behind it. -/
theorem lex_two {op : Int} (h : 6 ≤ op ∧ op ≤ 18) (r : List UInt8) : lexE (signL op ++ 32 :: r) = aheadT [.sg op] (lexE r) := by
  have hop : op = 6 ∨ op = 7 ∨ op = 8 ∨ op = 9 ∨ op = 10 ∨ op = 11 ∨ op = 12 ∨ op = 13 ∨ op = 14 ∨ op = 15 ∨ op = 16 ∨ op = 17 ∨ op = 18 := by omega
  rcases hop with rfl | rfl | rfl | rfl | rfl | rfl | rfl | rfl | rfl | rfl | rfl | rfl | rfl
  · exact (lex_sign (c := 42) (r := 32 :: r) (k := 6) (n := 1) (by simp [signAt]) (by decide)).trans (by rw [List.drop_succ_cons, List.drop_zero, lexE_blank])
  · exact (lex_sign (c := 47) (r := 32 :: r) (k := 7) (n := 1) (by simp [signAt]) (by decide)).trans (by rw [List.drop_succ_cons, List.drop_zero, lexE_blank])
  · exact (lex_sign (c := 37) (r := 32 :: r) (k := 8) (n := 1) (by simp [signAt]) (by decide)).trans (by rw [List.drop_succ_cons, List.drop_zero, lexE_blank])
  · exact (lex_sign (c := 43) (r := 32 :: r) (k := 9) (n := 1) (by simp [signAt]) (by decide)).trans (by rw [List.drop_succ_cons, List.drop_zero, lexE_blank])
  · exact (lex_sign (c := 45) (r := 32 :: r) (k := 10) (n := 1) (by simp [signAt]) (by decide)).trans (by rw [List.drop_succ_cons, List.drop_zero, lexE_blank])
  · exact (lex_sign (c := 60) (r := 32 :: r) (k := 11) (n := 1) (by simp [signAt]) (by decide)).trans (by rw [List.drop_succ_cons, List.drop_zero, lexE_blank])
  · exact (lex_sign (c := 60) (r := 61 :: 32 :: r) (k := 12) (n := 2) (by simp [signAt]) (by decide)).trans (by rw [List.drop_succ_cons, List.drop_succ_cons, List.drop_zero, lexE_blank])
  · exact (lex_sign (c := 62) (r := 32 :: r) (k := 13) (n := 1) (by simp [signAt]) (by decide)).trans (by rw [List.drop_succ_cons, List.drop_zero, lexE_blank])
  · exact (lex_sign (c := 62) (r := 61 :: 32 :: r) (k := 14) (n := 2) (by simp [signAt]) (by decide)).trans (by rw [List.drop_succ_cons, List.drop_succ_cons, List.drop_zero, lexE_blank])
  · exact (lex_sign (c := 61) (r := 61 :: 32 :: r) (k := 15) (n := 2) (by simp [signAt]) (by decide)).trans (by rw [List.drop_succ_cons, List.drop_succ_cons, List.drop_zero, lexE_blank])
  · exact (lex_sign (c := 33) (r := 61 :: 32 :: r) (k := 16) (n := 2) (by simp [signAt]) (by decide)).trans (by rw [List.drop_succ_cons, List.drop_succ_cons, List.drop_zero, lexE_blank])
  · exact (lex_sign (c := 38) (r := 38 :: 32 :: r) (k := 17) (n := 2) (by simp [signAt]) (by decide)).trans (by rw [List.drop_succ_cons, List.drop_succ_cons, List.drop_zero, lexE_blank])
  · exact (lex_sign (c := 124) (r := 124 :: 32 :: r) (k := 18) (n := 2) (by simp [signAt]) (by decide)).trans (by rw [List.drop_succ_cons, List.drop_succ_cons, List.drop_zero, lexE_blank])
end Go.Proofs.YtidomoibhjgkjaaDoor
