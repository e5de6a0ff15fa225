import Derived.Test.YtidomoibhjgkjaaGreatDoorZC12
/-
  Expressions in plain words: what was parsed is right.
-/
namespace Go.Proofs.YtidomoibhjgkjaaGreatDoor

def nameFit (w : ByteArray) : Prop := nm.nameOk w = true ∧ reservedB w = false
def valFit (v : V) : Prop := rightV v = 0 ∧ ¬ (v.k = 1 ∧ v.n < 0)
def TokOk : Tok → Prop
  | .lit v => valFit v
  | .word w => nm.nameOk w = true
  | .sg _ => True
/-- A tree whose terms are right, each by itself. -/
def OkT : Ex → Prop
  | .val v => valFit v
  | .var nm => nameFit nm
  | .has nm => nameFit nm
  | .one op a => (op = 3 ∨ op = 4 ∨ op = 5) ∧ OkT a
  | .two op a b => (6 ≤ op ∧ op ≤ 18) ∧ OkT a ∧ OkT b
theorem OkT.good : ∀ {t : Ex}, OkT t → Good t
  | .val _, _ => trivial
  | .var _, h => h.2
  | .has _, h => h.2
  | .one _ _, h => ⟨h.1, h.2.good⟩
  | .two _ _ _, h => ⟨h.1, h.2.1.good, h.2.2.good⟩
/-- So many are open at once, where it stands in brackets if it is one of two. -/
def FitA (o : Nat) (t : Ex) : Prop := o + wrapN (decide (strE t ≠ 9)) (deepE t) ≤ 12
def FitB (least o : Nat) (t : Ex) : Prop := least ≤ strE t ∧ strE t ≤ 4 ∧ o + deepE t ≤ 12
theorem wrapE_le (b : Bool) (n : Nat) : n ≤ wrapN b n ∧ wrapN b n ≤ n + 1 := by
  cases b
  · exact ⟨Nat.le_refl _, Nat.le_succ _⟩
  · exact ⟨Nat.le_succ _, Nat.le_refl _⟩
theorem FitA.deep {o : Nat} {t : Ex} (h : FitA o t) : o + deepE t ≤ 12 := by
  have := (wrapE_le (decide (strE t ≠ 9)) (deepE t)).1
  unfold FitA at h
  omega
/-- In brackets or not, it fits. -/
theorem FitA.wrap {o : Nat} {t : Ex} (h : FitA o t) (b : Bool) (hb : b = true → strE t ≠ 9) : o + wrapN b (deepE t) ≤ 12 := by
  cases b with
  | false => exact h.deep
  | true =>
    have := hb rfl
    unfold FitA at h
    rw [show decide (strE t ≠ 9) = true by simpa using this] at h
    exact h
theorem inB_str {op x : Int} {r : Bool} (h : inB op x r = true) : strOf x ≠ 9 := by
  unfold inB at h
  split at h
  · cases h
  · next h1 => exact fun e => h1 (.inr e)
def Inv (least most o : Nat) (t : Ex) : Prop := (most = 9 ∧ FitA o t) ∨ (most = mostE t ∧ FitB least o t)
def Ends (r : List Tok) (e : List TM) (P : Ex → Prop) : Prop := (∀ t ∈ r, TokOk t) ∧ ∃ t, OkT t ∧ e = postE t ∧ P t
def Sound (m : Mode) (o : Nat) (x : Res) : Prop :=
  match m with
  | .one => ∀ e r, x = .ok e r → Ends r e (FitA o)
  | .climb least => ∀ e r, x = .ok e r → Ends r e fun t => FitA o t ∨ FitB least o t
  | .loop least most e0 => ∀ t0, OkT t0 → e0 = postE t0 → Inv least most o t0 → ∀ e r, x = .ok e r → Ends r e fun t => FitA o t ∨ FitB least o t

theorem hasRes_ok {z : Int} {o : Nat} {l : List Tok} {e : List TM} {r : List Tok} (h : hasRes z o l = .ok e r) : o < 12 ∧ ∃ x, l = .sg 20 :: .word x :: .sg 21 :: r ∧ reservedB x = false ∧ e = [⟨2, V0, x⟩] := by
  unfold hasRes at h
  split at h
  · next r1 =>
    split at h
    · cases h
    · next ho =>
      split at h
      · next x r2 =>
        split at h
        · cases h
        · next hx =>
          split at h
          · next r3 =>
            injection h with h1 h2
            subst h1 h2
            exact ⟨by omega, x, rfl, by simpa using hx, rfl⟩
          · cases h
      · cases h
  · cases h
theorem close_ok {z : Int} {x : Res} {e : List TM} {r : List Tok} (h : x.close z = .ok e r) : x = .ok e (.sg 21 :: r) := by
  unfold Res.close at h
  split at h
  · next e' r' => injection h with h1 h2; rw [h1, h2]
  · cases h
  · cases h
theorem then_ok {t : TM} {x : Res} {e : List TM} {r : List Tok} (h : x.then_ t = .ok e r) : ∃ e', x = .ok e' r ∧ e = e' ++ [t] := by
  unfold Res.then_ at h
  split at h
  · next e' r' => injection h with h1 h2; exact ⟨e', by rw [h2], h1.symm⟩
  · cases h
theorem strE_le4 {k : Int} (h : 6 ≤ k ∧ k ≤ 18) (a b : Ex) : strE (.two k a b) ≤ 4 := strOf_two h

set_option maxHeartbeats 1000000 in
theorem parsed_sound {z : Int} {m : Mode} {o : Nat} {l : List Tok} {x : Res} (h : PP z m o l x) : (∀ t ∈ l, TokOk t) → o ≤ 12 → Sound m o x := by
  induction h with
  | signDeep o c r h12 hc => intro _ _ e r' hx; cases hx
  | sign o c r x ho hc h ih =>
    intro hl ho' e r' hx
    obtain ⟨e1, rfl, rfl⟩ := then_ok hx
    obtain ⟨hr, t, ht, rfl, hf⟩ := ih (fun t ht => hl t (List.mem_cons_of_mem _ ht)) (by omega) _ _ rfl
    have h34 : (if c = 4 then (4 : Int) else 3) = 3 ∨ (if c = 4 then (4 : Int) else 3) = 4 := by split <;> simp
    refine ⟨hr, .one (if c = 4 then 4 else 3) t, ⟨by omega, ht⟩, rfl, ?_⟩
    have hs9 : strE (.one (if c = 4 then 4 else 3) t) = 9 := strOf_other (show (if c = 4 then (4 : Int) else 3) < 6 by omega)
    have hw := hf.wrap (inB (if c = 4 then 4 else 3) (topE t) true) (fun hb => inB_str hb)
    unfold FitA
    rw [hs9]
    have hd : deepE (.one (if c = 4 then 4 else 3) t) = wrapN (inB (if c = 4 then 4 else 3) (topE t) true) (deepE t) + 1 := by
      show (if (if c = 4 then (4 : Int) else 3) = 5 then _ else _) = _
      rw [if_neg (by omega)]
    rw [hd]
    show o + (wrapN _ (deepE t) + 1) ≤ 12
    omega
  | lit o v r =>
    intro hl ho e r' hx
    injection hx with h1 h2
    subst h1 h2
    exact ⟨fun t ht => hl t (List.mem_cons_of_mem _ ht), .val v, hl _ (List.mem_cons_self ..), rfl, ho⟩
  | parDeep o r h12 => intro _ _ e r' hx; cases hx
  | par o r x ho h ih =>
    intro hl ho' e r' hx
    have hx' := close_ok hx
    obtain ⟨hr, t, ht, rfl, hf⟩ := ih (fun t ht => hl t (List.mem_cons_of_mem _ ht)) (by omega) _ _ hx'
    refine ⟨fun t ht => hr t (List.mem_cons_of_mem _ ht), t, ht, rfl, ?_⟩
    have hd : o + 1 + deepE t ≤ 12 := by
      rcases hf with hf | hf
      · exact hf.deep
      · exact hf.2.2
    have := (wrapE_le (decide (strE t ≠ 9)) (deepE t)).2
    unfold FitA
    omega
  | has o r =>
    intro hl ho e r' hx
    obtain ⟨ho2, y, rfl, hy, rfl⟩ := hasRes_ok hx
    refine ⟨fun t ht => hl t (by simp [ht]), .has y, ⟨hl (.word y) (by simp), hy⟩, rfl, ?_⟩
    show o + 1 ≤ 12
    omega
  | lenNone o r hn => intro _ _ e r' hx; cases hx
  | lenDeep o r h12 => intro _ _ e r' hx; cases hx
  | len o r x ho h ih =>
    intro hl ho' e r' hx
    obtain ⟨e1, hx1, rfl⟩ := then_ok hx
    have hx' := close_ok hx1
    obtain ⟨hr, t, ht, rfl, hf⟩ := ih (fun t ht => hl t (by simp [ht])) (by omega) _ _ hx'
    refine ⟨fun t ht => hr t (List.mem_cons_of_mem _ ht), .one 5 t, ⟨.inr (.inr rfl), ht⟩, rfl, ?_⟩
    have hd : o + 1 + deepE t ≤ 12 := by
      rcases hf with hf | hf
      · exact hf.deep
      · exact hf.2.2
    show o + (deepE t + 1) ≤ 12
    omega
  | var o w r h1 h2 =>
    intro hl ho e r' hx
    split at hx
    · cases hx
    · next hw =>
      injection hx with e1 e2
      subst e1 e2
      exact ⟨fun t ht => hl t (List.mem_cons_of_mem _ ht), .var w, ⟨hl (.word w) (List.mem_cons_self ..), by simpa using hw⟩, rfl, ho⟩
  | none o l hn => intro _ _ e r' hx; cases hx
  | climbNo o least l c h ih => intro _ _ e r' hx; cases hx
  | climb o least l r e x h1 h2 ih1 ih2 =>
    intro hl ho e' r' hx
    obtain ⟨hr, t, ht, rfl, hf⟩ := ih1 hl ho _ _ rfl
    exact ih2 hr ho t ht rfl (.inl ⟨rfl, hf⟩) e' r' hx
  | loopEnd o least most e =>
    intro _ _ t0 h0 he hi e' r' hx
    split at hx
    · cases hx
    · injection hx with e1 e2
      subst e1 e2
      refine ⟨fun _ h => (by cases h), t0, h0, he, ?_⟩
      rcases hi with hi | hi
      · exact .inl hi.2
      · exact .inr hi.2
  | loopStop o least most e t r hg =>
    intro hl _ t0 h0 he hi e' r' hx
    injection hx with e1 e2
    subst e1 e2
    refine ⟨hl, t0, h0, he, ?_⟩
    rcases hi with hi | hi
    · exact .inl hi.2
    · exact .inr hi.2
  | loopNo o least most e k r c hg h ih => intro _ _ t0 _ _ _ e' r' hx; cases hx
  | loopOn o least most e e2 k r r2 x hg h1 h2 ih1 ih2 =>
    intro hl ho t0 h0 he hi e' r' hx
    obtain ⟨hr, b, hb, rfl, hf⟩ := ih1 (fun t ht => hl t (List.mem_cons_of_mem _ ht)) ho _ _ rfl
    subst he
    unfold goesOn at hg
    simp only [Bool.and_eq_true, decide_eq_true_eq] at hg
    obtain ⟨⟨⟨k6, k18⟩, hle⟩, hmo⟩ := hg
    have hs4 := strOf_two ⟨k6, k18⟩
    refine ih2 hr ho (.two k t0 b) ⟨⟨k6, k18⟩, h0, hb⟩ rfl (.inr ⟨rfl, hle, hs4, ?_⟩) e' r' hx
    have hda : o + wrapN (inB k (topE t0) false) (deepE t0) ≤ 12 := by
      rcases hi with ⟨_, hi⟩ | ⟨rfl, hi⟩
      · exact hi.wrap _ (fun hb => inB_str hb)
      · have hno : inB k (topE t0) false = false := by
          have hi1 : strOf (topE t0) ≤ 4 := hi.2.1
          have hmo' : strOf k ≤ (if strOf (topE t0) = 2 then 1 else strOf (topE t0)) := hmo
          unfold inB
          rw [if_neg (by omega), if_neg (by omega)]
          simp
          split at hmo' <;> omega
        rw [hno]
        exact hi.2.2
    have hdb : o + wrapN (inB k (topE b) true) (deepE b) ≤ 12 := by
      rcases hf with hf | hf
      · exact hf.wrap _ (fun hb => inB_str hb)
      · have hno : inB k (topE b) true = false := by
          have h1 : strOf k + 1 ≤ strOf (topE b) := hf.1
          have h4 : strOf (topE b) ≤ 4 := hf.2.1
          unfold inB
          rw [if_neg (by omega), if_neg (by omega)]
          simp
          omega
        rw [hno]
        exact hf.2.2
    have e : deepE (.two k t0 b) = max (wrapN (inB k (topE t0) false) (deepE t0)) (wrapN (inB k (topE b) true) (deepE b)) := rfl
    rw [e]
    omega

/-! ### a tree's terms are right -/
theorem ownE_val {v : V} (h : valFit v) : ownT ⟨0, v, mtS⟩ = 0 := by
  unfold ownT
  rw [if_neg (by simp), if_pos rfl, if_neg (by simp [h.1]), if_neg h.2]
theorem ownE_name {op : Int} {w : ByteArray} (hop : op = 1 ∨ op = 2) (h : nameFit w) : ownT ⟨op, V0, w⟩ = 0 := by
  unfold ownT
  simp only
  obtain ⟨h1, h2⟩ := h
  rw [if_neg (by rcases hop with rfl | rfl <;> simp), if_neg (by omega), if_pos hop, if_neg (by simp [h1, h2])]
theorem own_op' {op : Int} (h : 3 ≤ op ∧ op ≤ 18) : ownT (opT op) = 0 := by
  unfold ownT opT
  simp only
  rw [if_neg (by simp; omega), if_neg (by omega), if_neg (by omega)]
theorem check_tree : ∀ {t : Ex}, OkT t → ∀ (n : Nat) (l : List TM), checkGo n (postE t ++ l) = checkGo (n + 1) l
  | .val v, h, n, l => by
    show checkGo n (_ :: l) = _
    rw [checkGo, if_neg (by simp [ownE_val h]), if_neg (by simp [takesT])]
    simp [takesT]
  | .var nm, h, n, l => by
    show checkGo n (_ :: l) = _
    rw [checkGo, if_neg (by simp [ownE_name (.inl rfl) h]), if_neg (by simp [takesT])]
    simp [takesT]
  | .has nm, h, n, l => by
    show checkGo n (_ :: l) = _
    rw [checkGo, if_neg (by simp [ownE_name (.inr rfl) h]), if_neg (by simp [takesT])]
    simp [takesT]
  | .one op a, h, n, l => by
    have ht : takesT op = 1 := by unfold takesT; rw [if_neg (by have := h.1; omega), if_pos (by have := h.1; omega)]
    show checkGo n ((postE a ++ [opT op]) ++ l) = _
    rw [List.append_assoc, check_tree h.2]
    show checkGo (n + 1) (opT op :: l) = _
    rw [checkGo, if_neg (by simp [own_op' (op := op) (by have := h.1; omega)])]
    have e : (opT op).op = op := rfl
    rw [e, ht, if_neg (by omega)]
    rfl
  | .two op a b, h, n, l => by
    have ht : takesT op = 2 := by unfold takesT; rw [if_neg (by have := h.1; omega), if_neg (by have := h.1; omega)]
    show checkGo n ((postE a ++ (postE b ++ [opT op])) ++ l) = _
    rw [List.append_assoc, List.append_assoc, check_tree h.2.1, check_tree h.2.2]
    show checkGo (n + 1 + 1) (opT op :: l) = _
    rw [checkGo, if_neg (by simp [own_op' (op := op) (by have := h.1; omega)])]
    have e : (opT op).op = op := rfl
    rw [e, ht, if_neg (by omega)]
    rfl
theorem trees_tree : ∀ {t : Ex}, OkT t → ∀ (st : List Ex) (l : List TM), treesE st (postE t ++ l) = treesE (t :: st) l
  | .val v, _, st, l => rfl
  | .var nm, _, st, l => rfl
  | .has nm, _, st, l => rfl
  | .one op a, h, st, l => by
    show treesE st ((postE a ++ [opT op]) ++ l) = _
    rw [List.append_assoc, trees_tree h.2]
    show treesE (stepE (a :: st) (opT op)) l = _
    have e : stepE (a :: st) (opT op) = .one op a :: st := by
      unfold stepE opT
      simp only
      rw [if_neg (by have := h.1; omega), if_neg (by have := h.1; omega), if_neg (by have := h.1; omega), if_pos (by have := h.1; omega)]
    rw [e]
  | .two op a b, h, st, l => by
    show treesE st ((postE a ++ (postE b ++ [opT op])) ++ l) = _
    rw [List.append_assoc, List.append_assoc, trees_tree h.2.1, trees_tree h.2.2]
    show treesE (stepE (b :: a :: st) (opT op)) l = _
    have e : stepE (b :: a :: st) (opT op) = .two op a b :: st := by
      unfold stepE opT
      simp only
      rw [if_neg (by have := h.1; omega), if_neg (by have := h.1; omega), if_neg (by have := h.1; omega), if_neg (by have := h.1; omega)]
    rw [e]
theorem tree_of_post {t : Ex} (h : OkT t) : treeE (postE t) = t := by
  have := trees_tree h [] []
  rw [List.append_nil] at this
  unfold treeE
  rw [this]
  rfl
theorem check_of_tree {t : Ex} (h : OkT t) (hd : deepE t ≤ 12) (hl : (postE t).length ≤ 40) : checkL (postE t) = 0 := by
  have hg := check_tree h 0 []
  rw [List.append_nil] at hg
  unfold checkL
  rw [if_neg (by omega), hg, tree_of_post h]
  simp [checkGo]
  omega
theorem fit_of_own {t : TM} (h : ownT t = 0) : (t.op = 0 → valFit t.v) ∧ (t.op = 1 ∨ t.op = 2 → nameFit t.nm) := by
  unfold ownT at h
  split at h
  · cases h
  · refine ⟨fun e => ?_, fun e => ?_⟩
    · rw [if_pos e] at h
      split at h
      · next h1 => exact absurd h h1
      · next h1 =>
        split at h
        · cases h
        · next h2 => exact ⟨by simpa using h1, h2⟩
    · rw [if_neg (by omega), if_pos e] at h
      split at h
      · cases h
      · next h1 =>
        simp only [not_or] at h1
        exact ⟨by simpa using h1.1, by simpa using h1.2⟩
theorem step_ok {t : TM} (h : ownT t = 0) {st : List Ex} (hn : takesT t.op ≤ st.length) (hst : ∀ x ∈ st, OkT x) : ∀ x ∈ stepE st t, OkT x := by
  obtain ⟨h0, h18, _, _⟩ := own_op h
  obtain ⟨hv, hm⟩ := fit_of_own h
  obtain ⟨op, v, w⟩ := t
  simp only at h0 h18 hv hm hn
  unfold stepE
  simp only
  by_cases e0 : op = 0
  · rw [if_pos e0]
    intro x hx
    rcases List.mem_cons.1 hx with rfl | hx
    · exact hv e0
    · exact hst x hx
  · rw [if_neg e0]
    by_cases e1 : op = 1
    · rw [if_pos e1]
      intro x hx
      rcases List.mem_cons.1 hx with rfl | hx
      · exact hm (.inl e1)
      · exact hst x hx
    · rw [if_neg e1]
      by_cases e2 : op = 2
      · rw [if_pos e2]
        intro x hx
        rcases List.mem_cons.1 hx with rfl | hx
        · exact hm (.inr e2)
        · exact hst x hx
      · rw [if_neg e2]
        by_cases e6 : op < 6
        · have ht : takesT op = 1 := by unfold takesT; rw [if_neg (by omega), if_pos e6]
          rw [ht] at hn
          rw [if_pos e6]
          cases st with
          | nil => simp at hn
          | cons a r =>
            intro x hx
            rcases List.mem_cons.1 hx with rfl | hx
            · exact ⟨by omega, hst a (List.mem_cons_self ..)⟩
            · exact hst x (List.mem_cons_of_mem _ hx)
        · have ht : takesT op = 2 := by unfold takesT; rw [if_neg (by omega), if_neg e6]
          rw [ht] at hn
          rw [if_neg e6]
          match st, hn, hst with
          | b :: a :: r, _, hst =>
            intro x hx
            rcases List.mem_cons.1 hx with rfl | hx
            · exact ⟨by omega, hst a (by simp), hst b (by simp)⟩
            · exact hst x (by simp [hx])
theorem trees_ok : ∀ (l : List TM) (st : List Ex) (m : Nat), checkGo st.length l = (0, m) → (∀ x ∈ st, OkT x) → ∀ x ∈ treesE st l, OkT x
  | [], st, m, _, hst => hst
  | t :: l, st, m, h, hst => by
    rw [checkGo] at h
    by_cases hown : ownT t = 0
    · rw [if_neg (by simp [hown])] at h
      by_cases hlt : st.length < takesT t.op
      · rw [if_pos hlt] at h; cases h
      · rw [if_neg hlt] at h
        obtain ⟨_, e2⟩ := step_post hown (st := st) (by omega)
        rw [← e2] at h
        exact trees_ok l (stepE st t) m h (step_ok hown (by omega) hst)
    · rw [if_pos hown] at h
      simp only [Prod.mk.injEq] at h
      exact absurd h.1 hown
/-- Terms that are right are those of a tree that is. -/
theorem tree_of_check {l : List TM} (h : checkL l = 0) : OkT (treeE l) ∧ postE (treeE l) = l ∧ deepE (treeE l) ≤ 12 ∧ l.length ≤ 40 := by
  unfold checkL at h
  split at h
  · cases h
  · next h40 =>
    split at h
    · next h1 => exact absurd h h1
    · next h1 =>
      split at h
      · cases h
      · next h2 =>
        split at h
        · cases h
        · next h3 =>
          split at h
          · cases h
          · next h4 =>
            have hg : checkGo 0 l = (0, 1) := by
              have e1 : (checkGo 0 l).1 = 0 := by simpa using h1
              have e2 : (checkGo 0 l).2 = 1 := by omega
              rw [← e1, ← e2]
            refine ⟨?_, tree_post hg, by omega, by omega⟩
            obtain ⟨n1, _⟩ := check_trees l [] 1 hg
            have ho := trees_ok l [] 1 hg (fun _ h => (by cases h))
            unfold treeE
            match hst : treesE [] l, n1 with
            | [t], _ =>
              rw [hst] at ho
              exact ho t (List.mem_cons_self ..)

/-- P5.4, of tokens: a tree that is right comes back. -/
theorem back_toks {l : List TM} (h : checkL l = 0) : PP 0 (.climb 0) 0 (toksE (treeE l)) (.ok l []) := by
  obtain ⟨h1, h2, h3, _⟩ := tree_of_check h
  have := tree_whole h1.good h3
  rwa [h2] at this
/-- P5.5, of tokens: what was parsed is right. -/
theorem parsed_right {z : Int} {l : List Tok} {e : List TM} {r : List Tok} (h : PP z (.climb 0) 0 l (.ok e r)) (hl : ∀ t ∈ l, TokOk t) (h40 : e.length ≤ 40) : checkL e = 0 := by
  obtain ⟨_, t, ht, rfl, hf⟩ := parsed_sound h hl (by omega) e r rfl
  refine check_of_tree ht ?_ h40
  rcases hf with hf | hf
  · have := hf.deep; omega
  · have := hf.2.2; omega
end Go.Proofs.YtidomoibhjgkjaaGreatDoor
