import Derived.Test.YtidomoibhjgkjaaGreatDoorZC28
import Derived.Test.YtidomoibhjgkjaaGreatDoorZC13
import Derived.Test.YtidomoibhjgkjaaGreatDoorZC04
/-
  Expressions in plain words: names, by their bytes; signs, by theirs; a text read token by token, with the places.
-/
namespace Go.Proofs.YtidomoibhjgkjaaGreatDoor

theorem later_word (c : UInt8) : nm.laterB c = wordB c := by
  rw [nm.later_or]
  unfold wordB
  show (letB c || c == 45 || isNum c) = (letB c || isNum c || c == 45)
  cases letB c <;> cases isNum c <;> cases (c == 45) <;> rfl
theorem name_iff (w : ByteArray) : nm.nameOk w = true ↔ NameBytes w := by
  unfold nm.nameOk nm.nameL NameBytes
  simp only [Bool.and_eq_true, List.all_eq_true, List.mem_range, decide_eq_true_eq]
  constructor
  · rintro ⟨⟨h1, h2⟩, h3⟩
    cases hl : w.data.toList with
    | nil => rw [hl] at h2; simp at h2
    | cons c r =>
      rw [hl] at h1 h3
      refine ⟨c, r, rfl, ?_, ?_, ?_⟩
      · have := h1 0 (by simp)
        unfold nm.okAt at this
        have hl : nm.letterB c = letB c := rfl
        simpa [hl] using this
      · intro x hx
        obtain ⟨j, hj, e⟩ := List.getElem_of_mem hx
        have := h1 j hj
        unfold nm.okAt at this
        rw [List.getElem?_eq_getElem hj] at this
        simp only at this
        rw [e, later_word] at this
        have hl : nm.letterB x = letB x := rfl
        rw [hl] at this
        cases hb : letB x
        · rw [hb] at this
          simp at this
          exact this.2
        · unfold wordB; rw [hb]; rfl
      · show w.data.toList.length ≤ 16
        rw [hl]; exact h3
  · rintro ⟨c, r, e, hc, hall, h16⟩
    have h16' : w.data.toList.length ≤ 16 := h16
    rw [e] at h16' ⊢
    refine ⟨⟨fun j hj => ?_, by simp⟩, h16'⟩
    unfold nm.okAt
    rw [List.getElem?_eq_getElem hj]
    simp only
    rw [later_word, hall _ (List.getElem_mem hj)]
    cases j with
    | zero =>
      have hl : nm.letterB c = letB c := rfl
      simp [hl, hc]
    | succ j => simp

/-! ### signs -/
def signT (k : Int) : List UInt8 := if k = 20 then [40] else if k = 21 then [41] else signL k
def isSg (k : Int) : Prop := k = 4 ∨ (6 ≤ k ∧ k ≤ 18) ∨ k = 20 ∨ k = 21
theorem sign_take {l : List UInt8} {k : Int} {n : Nat} (h : signAt l = some (k, n)) : l.take n = signT k ∧ isSg k ∧ n ≤ l.length := by
  unfold signAt at h
  split at h
  · cases h
  · next c r =>
    have g1 : ∀ (a : UInt8) (k' : Int) (x : Option (Int × Nat)), (signT k' = [a] ∧ isSg k') → (x = some (k, n) → (c :: r).take n = signT k ∧ isSg k ∧ n ≤ (c :: r).length) → (if c = a then some (k', 1) else x) = some (k, n) → (c :: r).take n = signT k ∧ isSg k ∧ n ≤ (c :: r).length := by
      intro a k' x hk hx he
      split at he
      · next hc =>
        injection he with he
        simp only [Prod.mk.injEq] at he
        obtain ⟨rfl, rfl⟩ := he
        rw [hk.1, hc]
        exact ⟨rfl, hk.2, by simp⟩
      · exact hx he
    have g2 : ∀ (a b : UInt8) (k' : Int) (x : Option (Int × Nat)), (signT k' = [a, b] ∧ isSg k') → (x = some (k, n) → (c :: r).take n = signT k ∧ isSg k ∧ n ≤ (c :: r).length) → (if c = a ∧ r.head? = some b then some (k', 2) else x) = some (k, n) → (c :: r).take n = signT k ∧ isSg k ∧ n ≤ (c :: r).length := by
      intro a b k' x hk hx he
      split at he
      · next hc =>
        injection he with he
        simp only [Prod.mk.injEq] at he
        obtain ⟨rfl, rfl⟩ := he
        obtain ⟨hc1, hc2⟩ := hc
        cases r with
        | nil => cases hc2
        | cons d r2 =>
          simp only [List.head?_cons, Option.some.injEq] at hc2
          rw [hk.1, hc1, hc2]
          exact ⟨rfl, hk.2, by simp⟩
      · exact hx he
    revert h
    repeat' (first | refine g2 _ _ _ _ ⟨by decide, by unfold isSg; decide⟩ ?_ | refine g1 _ _ _ ⟨by decide, by unfold isSg; decide⟩ ?_)
    intro h
    cases h
theorem isPre1 (a c : UInt8) (r : List UInt8) : isPre [a] (c :: r) = decide (c = a) := by simp [isPre]
theorem isPre2 (a b c : UInt8) (r : List UInt8) : isPre [a, b] (c :: r) = (decide (c = a) && decide (r.head? = some b)) := by
  cases r with
  | nil => simp [isPre]
  | cons d r => simp [isPre]
theorem tokAt_err {l : List UInt8} {e : Int} (h : tokAt l = .inr e) (hl : l ≠ []) : e ≠ 0 := by
  unfold tokAt at h
  split at h
  · exact absurd rfl hl
  · split at h
    · split at h
      · cases h
      · next h0 =>
        injection h with h
        rw [← h]
        exact h0
    · split at h
      · split at h
        · cases h
        · split at h
          · cases h
          · split at h
            · injection h with h
              rw [← h]
              decide
            · cases h
      · split at h
        · cases h
        · injection h with h
          rw [← h]
          decide
theorem addM_err {s : ST} {t : Tok} {e : Int} (h : addM s t = .inr e) : e ≠ 0 := by
  have hc : ∀ s : ST, closeM s = .inr e → e ≠ 0 := fun s h => by
    unfold closeM at h
    split at h
    · injection h with h; rw [← h]; decide
    · cases h
  have hb : ∀ (s : ST) (a b : Int), beginM s a b = .inr e → e ≠ 0 := fun s a b h => by
    unfold beginM at h
    split at h
    · injection h with h; rw [← h]; decide
    · cases h
  have h8 : ∀ {α : Type} , (Sum.inr 8 : α ⊕ Int) = .inr e → e ≠ 0 := fun h => by injection h with h; rw [← h]; decide
  unfold addM at h
  split at h
  · unfold valueM at h
    split at h
    · cases h
    · split at h
      · cases h
      · split at h
        · cases h
        · split at h
          · exact h8 h
          · cases h
    · split at h
      · exact hb _ _ _ h
      · split at h
        · exact hb _ _ _ h
        · split at h
          · exact hb _ _ _ h
          · exact h8 h
  · split at h
    · unfold signM at h
      split at h
      · split at h
        · exact hc _ h
        · split at h
          · split at h
            · exact h8 h
            · cases h
          · exact h8 h
      · exact h8 h
    · split at h
      · unfold callM at h
        split at h
        · split at h
          · split at h
            · exact hb _ _ _ h
            · exact hb _ _ _ h
          · exact h8 h
        · exact h8 h
      · split at h
        · unfold nameM at h
          split at h
          · split at h
            · exact h8 h
            · split at h
              · exact h8 h
              · cases h
          · exact h8 h
        · unfold shutM at h
          split at h
          · split at h
            · exact hc _ h
            · exact h8 h
          · exact h8 h
theorem endM_err {s : ST} {e : Int} (h : endM s = .inr e) : e ≠ 0 := by
  unfold endM at h
  split at h
  · injection h with h; rw [← h]; decide
  · split at h
    · cases h
    · injection h with h; rw [← h]; decide

/-! ### a text, token by token -/
/-- A text is read from the place p on: terms, or what is wrong, and where its token begins. -/
def runF : Nat → ST → List UInt8 → Nat → List TM ⊕ (Int × Nat)
  | 0, _, _, p => .inr (0, p)
  | f + 1, s, l, p => match l with
    | [] => (match endM s with | .inl o => .inl o | .inr e => .inr (e, p))
    | 32 :: r => runF f s r (p + 1)
    | c :: r => match tokAt (c :: r) with
      | .inr e => .inr (e, p)
      | .inl (t, n) => match addM s t with
        | .inr e => .inr (e, p)
        | .inl s' => runF f s' ((c :: r).drop n) (p + n)
theorem runF_nil (f : Nat) (s : ST) (p : Nat) : runF (f + 1) s [] p = match endM s with | .inl o => .inl o | .inr e => .inr (e, p) := rfl
theorem runF_blank (f : Nat) (s : ST) (r : List UInt8) (p : Nat) : runF (f + 1) s (32 :: r) p = runF f s r (p + 1) := rfl
theorem runF_tok (f : Nat) (s : ST) (c : UInt8) (r : List UInt8) (p : Nat) (hc : c ≠ 32) : runF (f + 1) s (c :: r) p = match tokAt (c :: r) with
      | .inr e => .inr (e, p)
      | .inl (t, n) => match addM s t with
        | .inr e => .inr (e, p)
        | .inl s' => runF f s' ((c :: r).drop n) (p + n) := by
  rw [runF.eq_def]
  simp only
theorem runF_more (f : Nat) : ∀ (g : Nat) (s : ST) (l : List UInt8) (p : Nat), l.length < f → l.length < g → runF f s l p = runF g s l p := by
  induction f with
  | zero => intro g s l p h; omega
  | succ f ih =>
    intro g s l p hf hg
    cases g with
    | zero => omega
    | succ g =>
      cases l with
      | nil => rfl
      | cons c r =>
        rw [List.length_cons] at hf hg
        by_cases hc : c = 32
        · subst hc
          rw [runF_blank, runF_blank]
          exact ih g s r _ (by omega) (by omega)
        · rw [runF_tok _ _ _ _ _ hc, runF_tok _ _ _ _ _ hc]
          cases ht : tokAt (c :: r) with
          | inr e => rfl
          | inl x =>
            obtain ⟨t, n⟩ := x
            have hn := tok_len ht
            simp only
            cases ha : addM s t with
            | inr e => rfl
            | inl s' =>
              simp only
              exact ih g s' _ _ (by rw [List.length_drop, List.length_cons]; omega) (by rw [List.length_drop, List.length_cons]; omega)
def runE (s : ST) (l : List UInt8) (p : Nat) : List TM ⊕ (Int × Nat) := runF (l.length + 1) s l p
theorem runE_nil (s : ST) (p : Nat) : runE s [] p = match endM s with | .inl o => .inl o | .inr e => .inr (e, p) := rfl
theorem runE_blank (s : ST) (r : List UInt8) (p : Nat) : runE s (32 :: r) p = runE s r (p + 1) := rfl
theorem runE_blanks (s : ST) (n : Nat) (r : List UInt8) (p : Nat) : runE s (List.replicate n 32 ++ r) p = runE s r (p + n) := by
  induction n generalizing p with
  | zero => rfl
  | succ n ih => rw [List.replicate_succ, List.cons_append, runE_blank, ih]; congr 1; omega
theorem runE_bad {s : ST} {c : UInt8} {r : List UInt8} {p : Nat} {e : Int} (hc : c ≠ 32) (ht : tokAt (c :: r) = .inr e) : runE s (c :: r) p = .inr (e, p) := by
  unfold runE
  rw [runF_tok _ _ _ _ _ hc, ht]
theorem runE_no {s : ST} {c : UInt8} {r : List UInt8} {p n : Nat} {t : Tok} {e : Int} (hc : c ≠ 32) (ht : tokAt (c :: r) = .inl (t, n)) (ha : addM s t = .inr e) : runE s (c :: r) p = .inr (e, p) := by
  unfold runE
  rw [runF_tok _ _ _ _ _ hc, ht]
  simp only
  rw [ha]
theorem runE_on {s s' : ST} {c : UInt8} {r : List UInt8} {p n : Nat} {t : Tok} (hc : c ≠ 32) (ht : tokAt (c :: r) = .inl (t, n)) (ha : addM s t = .inl s') : runE s (c :: r) p = runE s' ((c :: r).drop n) (p + n) := by
  unfold runE
  rw [runF_tok _ _ _ _ _ hc, ht]
  simp only
  rw [ha]
  have hn := tok_len ht
  simp only
  exact runF_more _ _ _ _ _ (by rw [List.length_drop, List.length_cons]; omega) (by omega)
def dropAt : List TM ⊕ (Int × Nat) → List TM ⊕ Int
  | .inl o => .inl o
  | .inr (e, _) => .inr e
/-- It is what its tokens come to. -/
theorem runF_lex (f : Nat) : ∀ (s : ST) (l : List UInt8) (p : Nat), l.length < f → dropAt (runF f s l p) = runM (lexF f l).2 s (lexF f l).1 := by
  induction f with
  | zero => intro s l p h; omega
  | succ f ih =>
    intro s l p hf
    cases l with
    | nil =>
      rw [runF_nil]
      show _ = runM 0 s []
      rw [run_nil, if_neg (by simp)]
      cases endM s <;> rfl
    | cons c r =>
      rw [List.length_cons] at hf
      by_cases hc : c = 32
      · subst hc
        rw [runF_blank, lexF_blank]
        exact ih s r _ (by omega)
      · rw [runF_tok _ _ _ _ _ hc, lexF_tok _ _ _ hc]
        cases ht : tokAt (c :: r) with
        | inr e =>
          show Sum.inr e = runM e s []
          rw [run_nil, if_pos (tokAt_err ht (by simp))]
        | inl x =>
          obtain ⟨t, n⟩ := x
          have hn := tok_len ht
          simp only
          rw [runM]
          cases ha : addM s t with
          | inr e => rfl
          | inl s' =>
            simp only
            exact ih s' _ _ (by rw [List.length_drop, List.length_cons]; omega)
def st0 : ST := ⟨0, 0, [], []⟩
/-- What a text comes to: its terms, or what is wrong, with the place where its token begins, if there is one. -/
def parseE (l : List UInt8) : List TM ⊕ (Int × Option Nat) :=
  if 128 < l.length then .inr (3, none) else match runE st0 l 0 with
    | .inr (e, p) => .inr (e, some p)
    | .inl o => if 40 < o.length then .inr (3, none) else .inl o
def codeE : List TM ⊕ (Int × Option Nat) → List TM ⊕ Int
  | .inl o => .inl o
  | .inr (e, _) => .inr e
def Whole (z : Int) (m : Mode) (x : Res) : Prop :=
  match m with
  | .one => True
  | _ => ∀ e, x = .ok e [] → z = 0
theorem whole_zero {z : Int} {m : Mode} {o : Nat} {l : List Tok} {x : Res} (h : PP z m o l x) : Whole z m x := by
  induction h with
  | climbNo o least l c h ih => intro e h; cases h
  | climb o least l r e x h1 h2 ih1 ih2 => exact ih2
  | loopEnd o least most e =>
    intro e' h
    split at h
    · cases h
    · next hz => simpa using hz
  | loopStop o least most e t r hg =>
    intro e' h
    injection h with _ h2
    cases h2
  | loopNo o least most e k r c hg h ih => intro e h; cases h
  | loopOn o least most e e2 k r r2 x hg h1 h2 ih1 ih2 => exact ih2
  | _ => trivial
theorem parseE_to (l : List UInt8) {y : List TM ⊕ Int} (h : ParsesTo l y) : codeE (parseE l) = y := by
  rcases h with ⟨h1, rfl⟩ | ⟨h1, x, hx, rfl⟩
  · unfold parseE
    rw [if_pos h1]
    rfl
  · have hr := runF_lex (l.length + 1) st0 l 0 (by omega)
    have hs : dropAt (runE st0 l 0) = outM (lexE l).2 x := by
      rw [← sim_whole hx]
      exact hr
    have hz : ∀ e, x = .ok e [] → (lexE l).2 = 0 := whole_zero hx
    unfold parseE
    rw [if_neg (by omega)]
    cases x with
    | err c =>
      cases hq : runE st0 l 0 with
      | inr ep =>
        rw [hq] at hs
        have hs : Sum.inr ep.1 = (Sum.inr c : List TM ⊕ Int) := hs
        exact hs
      | inl o =>
        rw [hq] at hs
        cases hs
    | ok e r =>
      cases r with
      | nil =>
        have hs : dropAt (runE st0 l 0) = .inl e := by
          rw [hs]
          show (if (lexE l).2 ≠ 0 then _ else _) = _
          rw [if_neg (by simp [hz e rfl])]
        cases hq : runE st0 l 0 with
        | inr ep => rw [hq] at hs; cases hs
        | inl o =>
          rw [hq] at hs
          have hs : Sum.inl o = (Sum.inl e : List TM ⊕ Int) := hs
          injection hs with hs
          subst hs
          show codeE (if 40 < o.length then _ else _) = (if 40 < o.length then _ else _)
          split <;> rfl
      | cons t r =>
        cases hq : runE st0 l 0 with
        | inr ep =>
          rw [hq] at hs
          have hs : Sum.inr ep.1 = (Sum.inr 8 : List TM ⊕ Int) := hs
          exact hs
        | inl o =>
          rw [hq] at hs
          cases hs

/-! ### what follows of a text's terms -/
theorem parseE_back {l : List TM} (h : checkL l = 0) (hb : BndL l) (hl : (txtE (treeE l)).length ≤ 128) : parseE (txtE (treeE l)) = .inl l := by
  have h1 := parseE_to _ (parses_back (fun w => (name_iff w).1) h hb hl)
  cases hp : parseE (txtE (treeE l)) with
  | inl o =>
    rw [hp] at h1
    injection h1 with h1
    rw [h1]
  | inr e => rw [hp] at h1; cases h1
theorem parseE_right {s : List UInt8} {e : List TM} (h : parseE s = .inl e) : checkL e = 0 ∧ BndL e := by
  obtain ⟨y, hy⟩ := parses_total s
  have h1 := parseE_to _ hy
  rw [h] at h1
  have h1 : Sum.inl e = y := h1
  subst h1
  exact ⟨parses_right (fun w => (name_iff w).2) hy, parses_bnd hy⟩
theorem parseE_blanks (s : List UInt8) (n : Nat) (hl : n + s.length ≤ 128) : codeE (parseE (List.replicate n 32 ++ s)) = codeE (parseE s) := by
  obtain ⟨y, hy⟩ := parses_total s
  rw [parseE_to _ hy, parseE_to _ (parses_blanks n hy hl)]
theorem runF_err (f : Nat) : ∀ (s : ST) (l : List UInt8) (p : Nat) (e : Int) (q : Nat), l.length < f → runF f s l p = .inr (e, q) → e ≠ 0 := by
  induction f with
  | zero => intro s l p e q h; omega
  | succ f ih =>
    intro s l p e q hf h
    cases l with
    | nil =>
      rw [runF_nil] at h
      split at h
      · cases h
      · next e' he =>
        injection h with h
        simp only [Prod.mk.injEq] at h
        rw [← h.1]
        exact endM_err he
    | cons c r =>
      rw [List.length_cons] at hf
      by_cases hc : c = 32
      · subst hc
        rw [runF_blank] at h
        exact ih s r _ e q (by omega) h
      · rw [runF_tok _ _ _ _ _ hc] at h
        cases ht : tokAt (c :: r) with
        | inr e' =>
          rw [ht] at h
          injection h with h
          simp only [Prod.mk.injEq] at h
          rw [← h.1]
          exact tokAt_err ht (by simp)
        | inl x =>
          obtain ⟨t, n⟩ := x
          have hn := tok_len ht
          rw [ht] at h
          simp only at h
          cases ha : addM s t with
          | inr e' =>
            rw [ha] at h
            injection h with h
            simp only [Prod.mk.injEq] at h
            rw [← h.1]
            exact addM_err ha
          | inl s' =>
            rw [ha] at h
            exact ih s' _ _ e q (by rw [List.length_drop, List.length_cons]; omega) h
theorem parseE_err {s : List UInt8} {e : Int} {p : Option Nat} (h : parseE s = .inr (e, p)) : e ≠ 0 := by
  unfold parseE at h
  split at h
  · injection h with h; simp only [Prod.mk.injEq] at h; omega
  · split at h
    · next e' q he =>
      injection h with h
      simp only [Prod.mk.injEq] at h
      rw [← h.1]
      exact runF_err _ _ _ _ _ _ (by omega) he
    · split at h
      · injection h with h; simp only [Prod.mk.injEq] at h; omega
      · cases h
end Go.Proofs.YtidomoibhjgkjaaGreatDoor
