import Derived.Test.YtidomoibhjgkjaaGreatDoorZC12
import Derived.Test.YtidomoibhjgkjaaGreatDoorZC27
import Derived.Lib.ParseIntBTie
/-
  Expressions in plain words: any tokens are parsed to something.
-/
namespace Go.Proofs.YtidomoibhjgkjaaGreatDoor

theorem hasRes_len {z : Int} {o : Nat} {l : List Tok} {e : List TM} {r : List Tok} (h : hasRes z o l = .ok e r) : r.length < l.length := by
  unfold hasRes at h
  split at h
  · split at h
    · cases h
    · split at h
      · split at h
        · cases h
        · split at h
          · injection h with h1 h2
            subst h2
            simp only [List.length_cons]
            omega
          · cases h
      · cases h
  · cases h
theorem close_len {z : Int} {x : Res} {e : List TM} {r : List Tok} (h : x.close z = .ok e r) : x = .ok e (.sg 21 :: r) := by
  unfold Res.close at h
  split at h
  · injection h with h1 h2; rw [h1, h2]
  · cases h
  · cases h
theorem then_len {t : TM} {x : Res} {e : List TM} {r : List Tok} (h : x.then_ t = .ok e r) : ∃ e', x = .ok e' r := by
  unfold Res.then_ at h
  split at h
  · next e' r' => injection h with h1 h2; exact ⟨e', by rw [h2]⟩
  · cases h
def Less (m : Mode) (l : List Tok) (x : Res) : Prop :=
  match m with
  | .one => ∀ e r, x = .ok e r → r.length < l.length
  | .climb _ => ∀ e r, x = .ok e r → r.length < l.length
  | .loop _ _ _ => ∀ e r, x = .ok e r → r.length ≤ l.length
/-- What is left is less. -/
theorem parsed_less {z : Int} {m : Mode} {o : Nat} {l : List Tok} {x : Res} (h : PP z m o l x) : Less m l x := by
  induction h with
  | signDeep o c r h12 hc => intro e r' hx; cases hx
  | sign o c r x ho hc h ih =>
    intro e r' hx
    obtain ⟨e1, rfl⟩ := then_len hx
    have := ih _ _ rfl
    simp only [List.length_cons]
    omega
  | lit o v r =>
    intro e r' hx
    injection hx with h1 h2
    subst h2
    simp
  | parDeep o r h12 => intro e r' hx; cases hx
  | par o r x ho h ih =>
    intro e r' hx
    have := ih _ _ (close_len hx)
    simp only [List.length_cons] at this ⊢
    omega
  | has o r =>
    intro e r' hx
    have := hasRes_len hx
    simp only [List.length_cons]
    omega
  | lenNone o r hn => intro e r' hx; cases hx
  | lenDeep o r h12 => intro e r' hx; cases hx
  | len o r x ho h ih =>
    intro e r' hx
    obtain ⟨e1, hx1⟩ := then_len hx
    have := ih _ _ (close_len hx1)
    simp only [List.length_cons] at this ⊢
    omega
  | var o w r h1 h2 =>
    intro e r' hx
    split at hx
    · cases hx
    · injection hx with e1 e2
      subst e2
      simp
  | none o l hn => intro e r' hx; cases hx
  | climbNo o least l c h ih => intro e r' hx; cases hx
  | climb o least l r e x h1 h2 ih1 ih2 =>
    intro e' r' hx
    have g1 := ih1 _ _ rfl
    have g2 := ih2 _ _ hx
    omega
  | loopEnd o least most e =>
    intro e' r' hx
    split at hx
    · cases hx
    · injection hx with e1 e2
      subst e2
      exact Nat.le_refl _
  | loopStop o least most e t r hg =>
    intro e' r' hx
    injection hx with e1 e2
    subst e2
    exact Nat.le_refl _
  | loopNo o least most e k r c hg h ih => intro e' r' hx; cases hx
  | loopOn o least most e e2 k r r2 x hg h1 h2 ih1 ih2 =>
    intro e' r' hx
    have g1 := ih1 _ _ rfl
    have g2 := ih2 _ _ hx
    simp only [List.length_cons]
    omega

/-- Any tokens are parsed to something. -/
theorem parsed_total (z : Int) (n : Nat) : ∀ (l : List Tok), l.length ≤ n →
    (∀ o, ∃ x, PP z .one o l x) ∧ (∀ o least, ∃ x, PP z (.climb least) o l x) ∧ (∀ o least most e, ∃ x, PP z (.loop least most e) o l x) := by
  induction n with
  | zero =>
    intro l hl
    have hl0 : l = [] := List.eq_nil_of_length_eq_zero (by omega)
    subst hl0
    have one : ∀ o, ∃ x, PP z .one o [] x := fun o => ⟨_, PP.none o [] (fun t r h => by cases h)⟩
    refine ⟨one, fun o least => ?_, fun o least most e => ⟨_, PP.loopEnd o least most e⟩⟩
    exact ⟨_, PP.climbNo o least [] _ (PP.none o [] (fun t r h => by cases h))⟩
  | succ n ih =>
    intro l hl
    have one : ∀ o, ∃ x, PP z .one o l x := by
      intro o
      cases l with
      | nil => exact ⟨_, PP.none o [] (fun t r h => by cases h)⟩
      | cons t r =>
        rw [List.length_cons] at hl
        obtain ⟨i1, i2, _⟩ := ih r (by omega)
        cases t with
        | lit v => exact ⟨_, PP.lit o v r⟩
        | word w =>
          by_cases h1 : w = hasW
          · subst h1
            exact ⟨_, PP.has o r⟩
          · by_cases h2 : w = lenW
            · subst h2
              by_cases h20 : ∃ t, r = .sg 20 :: t
              · obtain ⟨t, rfl⟩ := h20
                rw [List.length_cons] at hl
                by_cases ho : 12 ≤ o
                · exact ⟨_, PP.lenDeep o t ho⟩
                · obtain ⟨x, hx⟩ := (ih t (by omega)).2.1 (o + 1) 0
                  exact ⟨_, PP.len o t x (by omega) hx⟩
              · exact ⟨_, PP.lenNone o r (fun t h => h20 ⟨t, h⟩)⟩
            · exact ⟨_, PP.var o w r h1 h2⟩
        | sg c =>
          by_cases hc : c = 4 ∨ c = 10
          · by_cases ho : 12 ≤ o
            · exact ⟨_, PP.signDeep o c r ho hc⟩
            · obtain ⟨x, hx⟩ := i1 (o + 1)
              exact ⟨_, PP.sign o c r x (by omega) hc hx⟩
          · by_cases h20 : c = 20
            · subst h20
              by_cases ho : 12 ≤ o
              · exact ⟨_, PP.parDeep o r ho⟩
              · obtain ⟨x, hx⟩ := i2 (o + 1) 0
                exact ⟨_, PP.par o r x (by omega) hx⟩
            · refine ⟨_, PP.none o (.sg c :: r) (fun t r' h => ?_)⟩
              injection h with h1 _
              subst h1
              simp only [not_or] at hc
              simp [begins, hc.1, hc.2, h20]
    have loop : ∀ o least most e, ∃ x, PP z (.loop least most e) o l x := by
      intro o least most e
      cases l with
      | nil => exact ⟨_, PP.loopEnd o least most e⟩
      | cons t r =>
        rw [List.length_cons] at hl
        cases hg : goesOn least most t with
        | false => exact ⟨_, PP.loopStop o least most e t r hg⟩
        | true =>
          cases t with
          | lit v => cases hg
          | word w => cases hg
          | sg k =>
            obtain ⟨x, hx⟩ := (ih r (by omega)).2.1 o (strOf k + 1)
            cases x with
            | err c => exact ⟨_, PP.loopNo o least most e k r c hg hx⟩
            | ok e2 r2 =>
              have := parsed_less hx _ _ rfl
              obtain ⟨y, hy⟩ := (ih r2 (by omega)).2.2 o least (if strOf k = 2 then 1 else strOf k) (e ++ (e2 ++ [opT k]))
              exact ⟨_, PP.loopOn o least most e e2 k r r2 y hg hx hy⟩
    refine ⟨one, fun o least => ?_, loop⟩
    obtain ⟨x, hx⟩ := one o
    cases x with
    | err c => exact ⟨_, PP.climbNo o least l c hx⟩
    | ok e r =>
      have := parsed_less hx _ _ rfl
      obtain ⟨y, hy⟩ := (ih r (by omega)).2.2 o least 9 e
      exact ⟨_, PP.climb o least l r e y hx hy⟩
end Go.Proofs.YtidomoibhjgkjaaGreatDoor

/-
  Expressions in plain words: what a text is parsed to; there and back, again, and blanks ahead.
-/
namespace Go.Proofs.YtidomoibhjgkjaaGreatDoor

def maxI : Int := 9223372036854775807
def BndL (l : List TM) : Prop := ∀ t ∈ l, t.v.n ≤ maxI
def TokB : Tok → Prop
  | .lit v => v.n ≤ maxI
  | _ => True
theorem bnd_tree : ∀ (t : Ex), BndL (postE t) → BndT t
  | .val v, h => h ⟨0, v, mtS⟩ (by simp [postE])
  | .var _, _ => trivial
  | .has _, _ => trivial
  | .one op a, h => bnd_tree a fun x hx => h x (by simp [postE, hx])
  | .two op a b, h => ⟨bnd_tree a fun x hx => h x (by simp [postE, hx]), bnd_tree b fun x hx => h x (by simp [postE, hx])⟩
theorem bnd_op (op : Int) : (opT op).v.n ≤ maxI := by unfold opT V0 maxI; simp
theorem bnd_append {a b : List TM} (ha : BndL a) (hb : BndL b) : BndL (a ++ b) := fun t ht => by
  rcases List.mem_append.1 ht with h | h
  · exact ha t h
  · exact hb t h
theorem bnd_one {t : TM} (h : t.v.n ≤ maxI) : BndL [t] := fun x hx => by
  rw [List.mem_singleton] at hx
  rw [hx]; exact h
def Bounded (m : Mode) (x : Res) : Prop :=
  match m with
  | .loop _ _ e0 => BndL e0 → ∀ e r, x = .ok e r → BndL e ∧ ∀ t ∈ r, TokB t
  | _ => ∀ e r, x = .ok e r → BndL e ∧ ∀ t ∈ r, TokB t
theorem parsed_bnd {z : Int} {m : Mode} {o : Nat} {l : List Tok} {x : Res} (h : PP z m o l x) : (∀ t ∈ l, TokB t) → Bounded m x := by
  induction h with
  | signDeep o c r h12 hc => intro _ e r' hx; cases hx
  | sign o c r x ho hc h ih =>
    intro hl e r' hx
    obtain ⟨e1, rfl, rfl⟩ := then_ok hx
    obtain ⟨h1, h2⟩ := ih (fun t ht => hl t (List.mem_cons_of_mem _ ht)) _ _ rfl
    exact ⟨bnd_append h1 (bnd_one (bnd_op _)), h2⟩
  | lit o v r =>
    intro hl e r' hx
    injection hx with h1 h2
    subst h1 h2
    exact ⟨bnd_one (hl (.lit v) (List.mem_cons_self ..)), fun t ht => hl t (List.mem_cons_of_mem _ ht)⟩
  | parDeep o r h12 => intro _ e r' hx; cases hx
  | par o r x ho h ih =>
    intro hl e r' hx
    obtain ⟨h1, h2⟩ := ih (fun t ht => hl t (List.mem_cons_of_mem _ ht)) _ _ (close_ok hx)
    exact ⟨h1, fun t ht => h2 t (List.mem_cons_of_mem _ ht)⟩
  | has o r =>
    intro hl e r' hx
    obtain ⟨_, y, rfl, _, rfl⟩ := hasRes_ok hx
    exact ⟨bnd_one (by unfold V0 maxI; simp), fun t ht => hl t (by simp [ht])⟩
  | lenNone o r hn => intro _ e r' hx; cases hx
  | lenDeep o r h12 => intro _ e r' hx; cases hx
  | len o r x ho h ih =>
    intro hl e r' hx
    obtain ⟨e1, hx1, rfl⟩ := then_ok hx
    obtain ⟨h1, h2⟩ := ih (fun t ht => hl t (by simp [ht])) _ _ (close_ok hx1)
    exact ⟨bnd_append h1 (bnd_one (bnd_op _)), fun t ht => h2 t (List.mem_cons_of_mem _ ht)⟩
  | var o w r h1 h2 =>
    intro hl e r' hx
    split at hx
    · cases hx
    · injection hx with e1 e2
      subst e1 e2
      exact ⟨bnd_one (by unfold V0 maxI; simp), fun t ht => hl t (List.mem_cons_of_mem _ ht)⟩
  | none o l hn => intro _ e r' hx; cases hx
  | climbNo o least l c h ih => intro _ e r' hx; cases hx
  | climb o least l r e x h1 h2 ih1 ih2 =>
    intro hl e' r' hx
    obtain ⟨g1, g2⟩ := ih1 hl _ _ rfl
    exact ih2 g2 g1 e' r' hx
  | loopEnd o least most e =>
    intro _ hb e' r' hx
    split at hx
    · cases hx
    · injection hx with e1 e2
      subst e1 e2
      exact ⟨hb, fun _ h => (by cases h)⟩
  | loopStop o least most e t r hg =>
    intro hl hb e' r' hx
    injection hx with e1 e2
    subst e1 e2
    exact ⟨hb, hl⟩
  | loopNo o least most e k r c hg h ih => intro _ _ e' r' hx; cases hx
  | loopOn o least most e e2 k r r2 x hg h1 h2 ih1 ih2 =>
    intro hl hb e' r' hx
    obtain ⟨g1, g2⟩ := ih1 (fun t ht => hl t (List.mem_cons_of_mem _ ht)) _ _ rfl
    exact ih2 g2 (bnd_append hb (bnd_append g1 (bnd_one (bnd_op _)))) e' r' hx

/-! ### what a text is parsed to -/
def Out : Res → List TM ⊕ Int
  | .err c => .inr c
  | .ok e [] => if 40 < e.length then .inr 3 else .inl e
  | .ok _ (_ :: _) => .inr 8
/-- A text, and the terms, or the error, that it is parsed to. -/
def ParsesTo (s : List UInt8) (y : List TM ⊕ Int) : Prop :=
  (128 < s.length ∧ y = .inr 3) ∨ (s.length ≤ 128 ∧ ∃ x, PP (lexE s).2 (.climb 0) 0 (lexE s).1 x ∧ y = Out x)
theorem parses_total (s : List UInt8) : ∃ y, ParsesTo s y := by
  by_cases h : 128 < s.length
  · exact ⟨_, .inl ⟨h, rfl⟩⟩
  · obtain ⟨x, hx⟩ := (parsed_total (lexE s).2 _ (lexE s).1 (Nat.le_refl _)).2.1 0 0
    exact ⟨_, .inr ⟨by omega, x, hx, rfl⟩⟩
/-- P5.4. -/
theorem parses_back (hn : ∀ w, nm.nameOk w = true → NameBytes w) {l : List TM} (h : checkL l = 0) (hb : BndL l) (hl : (txtE (treeE l)).length ≤ 128) : ParsesTo (txtE (treeE l)) (.inl l) := by
  obtain ⟨h1, h2, _, h40⟩ := tree_of_check h
  have hbt : BndT (treeE l) := bnd_tree _ (by rw [h2]; exact hb)
  have hlex := lex_tree hn _ h1 hbt [] trivial
  rw [List.append_nil, lexE_nil] at hlex
  have e1 : (lexE (txtE (treeE l))).1 = toksE (treeE l) := by rw [hlex]; simp [aheadT]
  have e2 : (lexE (txtE (treeE l))).2 = 0 := by rw [hlex]; rfl
  refine .inr ⟨hl, _, by rw [e1, e2]; exact back_toks h, ?_⟩
  show _ = if 40 < l.length then _ else _
  rw [if_neg (by omega)]
/-- P5.5: what was parsed is right. -/
theorem parses_right (hw : ∀ w : ByteArray, NameBytes w → nm.nameOk w = true) {s : List UInt8} {e : List TM} (h : ParsesTo s (.inl e)) : checkL e = 0 := by
  rcases h with ⟨_, h⟩ | ⟨_, x, hx, hy⟩
  · cases h
  · unfold Out at hy
    split at hy
    · cases hy
    · next e' =>
      split at hy
      · cases hy
      · next h40 =>
        injection hy with hy
        subst hy
        exact parsed_right hx (lex_fit hw _ _) (by omega)
    · cases hy
theorem textGo_n : ∀ (k : Nat) (l acc : List UInt8) (p : Nat) (v : V) (n : Nat), l.length ≤ k → textGo l acc p = (v, n, 0) → v.n = 0 := by
  intro k
  induction k with
  | zero =>
    intro l acc p v n hk h
    have : l = [] := List.eq_nil_of_length_eq_zero (by omega)
    subst this
    simp [textGo] at h
  | succ k ih =>
    intro l acc p v n hk h
    cases l with
    | nil => simp [textGo] at h
    | cons c r =>
      rw [List.length_cons] at hk
      rw [textGo_cons] at h
      split at h
      · split at h
        · simp at h
        · simp only [Prod.mk.injEq, and_true] at h
          rw [← h.1]
      · split at h
        · cases r with
          | nil => simp at h
          | cons d r2 =>
            rw [List.length_cons] at hk
            simp only at h
            split at h
            · exact ih r2 _ _ _ _ (by omega) h
            · cases r2 with
              | nil => simp at h
              | cons e r3 =>
                rw [List.length_cons] at hk
                simp only at h
                split at h
                · split at h
                  · simp at h
                  · exact ih r3 _ _ _ _ (by omega) h
                · simp at h
        · split at h
          · exact ih r _ _ _ _ (by omega) h
          · simp at h
theorem parseV_bnd {l : List UInt8} {v : V} {n : Nat} (h : parseV l = (v, n, 0)) : v.n ≤ maxI := by
  unfold maxI
  unfold parseV at h
  split at h
  · unfold numV at h
    split at h
    · simp at h
    · split at h
      · next m hm =>
        simp only [Prod.mk.injEq, and_true] at h
        rw [← h.1]
        have := (Lib.parseIntB_bounds hm).2
        have e : ((2 ^ (64 - 1) : Nat) : Int) = 9223372036854775808 := by decide
        show m ≤ _
        omega
      · simp at h
  · split at h
    · have := textGo_n _ _ _ _ _ _ (Nat.le_refl _) h
      omega
    · unfold wordV at h
      split at h
      · simp only [Prod.mk.injEq, and_true] at h
        rw [← h.1]; simp
      · split at h
        · simp only [Prod.mk.injEq, and_true] at h
          rw [← h.1]; simp
        · simp at h
theorem lex_bnd : ∀ (f : Nat) (l : List UInt8), ∀ t ∈ (lexF f l).1, TokB t := by
  intro f
  induction f with
  | zero => intro l t ht; cases ht
  | succ f ih =>
    intro l t ht
    cases l with
    | nil => cases ht
    | cons c r =>
      by_cases hc : c = 32
      · subst hc
        exact ih r t ht
      · rw [lexF_tok _ _ _ hc] at ht
        cases hk : tokAt (c :: r) with
        | inr e => rw [hk] at ht; cases ht
        | inl x =>
          obtain ⟨t', n⟩ := x
          rw [hk] at ht
          rcases List.mem_cons.1 ht with rfl | ht
          · unfold tokAt at hk
            simp only at hk
            split at hk
            · split at hk
              · next h0 =>
                injection hk with hk
                simp only [Prod.mk.injEq] at hk
                rw [← hk.1]
                have e : parseV (c :: r) = ((parseV (c :: r)).1, (parseV (c :: r)).2.1, 0) := by rw [← h0]
                exact parseV_bnd e
              · cases hk
            · split at hk
              · split at hk
                · injection hk with hk
                  simp only [Prod.mk.injEq] at hk
                  rw [← hk.1]
                  show (1 : Int) ≤ maxI
                  decide
                · split at hk
                  · injection hk with hk
                    simp only [Prod.mk.injEq] at hk
                    rw [← hk.1]
                    show (0 : Int) ≤ maxI
                    decide
                  · split at hk
                    · cases hk
                    · injection hk with hk
                      simp only [Prod.mk.injEq] at hk
                      rw [← hk.1]
                      trivial
              · split at hk
                · injection hk with hk
                  simp only [Prod.mk.injEq] at hk
                  rw [← hk.1]
                  trivial
                · cases hk
          · exact ih _ t ht
/-- What was parsed has numbers that are held. -/
theorem parses_bnd {s : List UInt8} {e : List TM} (h : ParsesTo s (.inl e)) : BndL e := by
  rcases h with ⟨_, h⟩ | ⟨_, x, hx, hy⟩
  · cases h
  · unfold Out at hy
    split at hy
    · cases hy
    · next e' =>
      split at hy
      · cases hy
      · injection hy with hy
        subst hy
        exact (parsed_bnd hx (lex_bnd _ _) _ _ rfl).1
    · cases hy
/-- P5.1: blanks ahead make no difference. -/
theorem parses_blanks {s : List UInt8} {y : List TM ⊕ Int} (n : Nat) (h : ParsesTo s y) (hl : n + s.length ≤ 128) : ParsesTo (List.replicate n 32 ++ s) y := by
  rcases h with ⟨h, _⟩ | ⟨_, x, hx, hy⟩
  · omega
  · exact .inr ⟨by simp; omega, x, by rw [lexE_blanks]; exact hx, hy⟩
end Go.Proofs.YtidomoibhjgkjaaGreatDoor
