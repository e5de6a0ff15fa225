import Derived.Test.YtidomoibhjgkjaaGreatDoorZC04
/-
  What expressions come to, in plain words: one value, two values, terms with variables and fuel; fuel, parts, names.
-/
namespace Go.Proofs.YtidomoibhjgkjaaGreatDoor
open Go.RowKit

def truthV (b : Bool) : V := ⟨2, if b = true then 1 else 0, mtS⟩
def numG (n : Int) : V := ⟨1, n, mtS⟩
/-- The kind that an Op of one takes; 0: it is none. -/
def kindG (op : Int) : Int := if op = 3 then 1 else if op = 4 then 2 else if op = 5 then 3 else 0
def oneV (op : Int) (a : V) : V × Int :=
  if kindG op = 0 then (V0, 1) else if a.k ≠ kindG op then (V0, 40) else if op = 4 then (truthV (decide (a.n = 0)), 0) else if op = 5 then (numG a.s.size, 0)
  else if a.n = -9223372036854775808 then (V0, 9) else (numG (-a.n), 0)
/-- A number, if it fits in 64 bits. -/
def fitV (n : Int) : V × Int := if -9223372036854775808 ≤ n ∧ n ≤ 9223372036854775807 then (numG n, 0) else (V0, 9)
def numsV (op a b : Int) : V × Int :=
  if op = 6 then fitV (a * b) else if op = 9 then fitV (a + b) else if op = 10 then fitV (a - b) else if b = 0 then (V0, 62) else if op = 7 then fitV (a.tdiv b) else fitV (a.tmod b)
def lessV (a b : V) : Bool := if a.k = 3 then blt a.s.data.toList b.s.data.toList else decide (a.n < b.n)
def standV (op : Int) (a b : V) : Bool := if op = 11 then lessV a b else if op = 13 then lessV b a else if op = 12 then !lessV b a else !lessV a b
def twoV (op : Int) (a b : V) : V × Int :=
  if op < 6 ∨ 18 < op then (V0, 1) else if op = 15 then (truthV (decide (a = b)), 0) else if op = 16 then (truthV (decide (a ≠ b)), 0)
  else if op = 17 ∨ op = 18 then (if a.k ≠ 2 ∨ b.k ≠ 2 then (V0, 40) else (truthV (if op = 17 then decide (a.n ≠ 0) && decide (b.n ≠ 0) else decide (a.n ≠ 0) || decide (b.n ≠ 0)), 0))
  else if ¬ (a.k = b.k ∧ (a.k = 1 ∨ (a.k = 3 ∧ (op = 9 ∨ 11 ≤ op)))) then (V0, 40)
  else if 11 ≤ op then (truthV (standV op a b), 0)
  else if a.k = 3 then (if 64 < a.s.size + b.s.size then (V0, 3) else (⟨3, 0, a.s ++ b.s⟩, 0))
  else numsV op a.n b.n

theorem fitV_err (n : Int) : (fitV n).2 = 0 ∨ ((fitV n).2 = 9 ∧ (fitV n).1 = V0) := by
  unfold fitV
  split
  · exact .inl rfl
  · exact .inr ⟨rfl, rfl⟩
theorem oneV_err (op : Int) (a : V) : (oneV op a).2 = 0 ∨ (((oneV op a).2 = 1 ∨ (oneV op a).2 = 40 ∨ (oneV op a).2 = 9) ∧ (oneV op a).1 = V0) := by
  unfold oneV
  split
  · exact .inr ⟨.inl rfl, rfl⟩
  · split
    · exact .inr ⟨.inr (.inl rfl), rfl⟩
    · split
      · exact .inl rfl
      · split
        · exact .inl rfl
        · split
          · exact .inr ⟨.inr (.inr rfl), rfl⟩
          · exact .inl rfl
theorem numsV_err (op a b : Int) : (numsV op a b).2 = 0 ∨ (((numsV op a b).2 = 9 ∨ (numsV op a b).2 = 62) ∧ (numsV op a b).1 = V0) := by
  have h : ∀ n, (fitV n).2 = 0 ∨ (((fitV n).2 = 9 ∨ (fitV n).2 = 62) ∧ (fitV n).1 = V0) := fun n => by
    rcases fitV_err n with h | h
    · exact .inl h
    · exact .inr ⟨.inl h.1, h.2⟩
  unfold numsV
  split
  · exact h _
  · split
    · exact h _
    · split
      · exact h _
      · split
        · exact .inr ⟨.inr rfl, rfl⟩
        · split
          · exact h _
          · exact h _
theorem twoV_err (op : Int) (a b : V) : (twoV op a b).2 = 0 ∨ (((twoV op a b).2 = 1 ∨ (twoV op a b).2 = 3 ∨ (twoV op a b).2 = 9 ∨ (twoV op a b).2 = 40 ∨ (twoV op a b).2 = 62) ∧ (twoV op a b).1 = V0) := by
  unfold twoV
  split
  · exact .inr ⟨.inl rfl, rfl⟩
  · split
    · exact .inl rfl
    · split
      · exact .inl rfl
      · split
        · split
          · exact .inr ⟨.inr (.inr (.inr (.inl rfl))), rfl⟩
          · exact .inl rfl
        · split
          · exact .inr ⟨.inr (.inr (.inr (.inl rfl))), rfl⟩
          · split
            · exact .inl rfl
            · split
              · split
                · exact .inr ⟨.inr (.inl rfl), rfl⟩
                · exact .inl rfl
              · rcases numsV_err op a.n b.n with h | ⟨h | h, h2⟩
                · exact .inl h
                · exact .inr ⟨.inr (.inr (.inl h)), h2⟩
                · exact .inr ⟨.inr (.inr (.inr (.inr h))), h2⟩

/-! ### terms -/
/-- What one term does to the values that are there, the last one first; or what is wrong, and of which variable. -/
def stepG (get : ByteArray → Option V) (t : TM) (st : List V) : List V ⊕ (Int × List ByteArray) :=
  if t.op = 0 then .inl (t.v :: st)
  else if t.op = 1 then (match get t.nm with | some v => .inl (v :: st) | none => .inr (61, [t.nm]))
  else if t.op = 2 then .inl (truthV (get t.nm).isSome :: st)
  else if t.op < 6 then (match st with | a :: r => if (oneV t.op a).2 = 0 then .inl ((oneV t.op a).1 :: r) else .inr ((oneV t.op a).2, []) | [] => .inr (6, []))
  else (match st with | b :: a :: r => if (twoV t.op a b).2 = 0 then .inl ((twoV t.op a b).1 :: r) else .inr ((twoV t.op a b).2, []) | _ => .inr (6, []))
def runG (get : ByteArray → Option V) : List TM → List V → Nat → (List V ⊕ (Int × List ByteArray)) × Nat
  | [], st, f => (.inl st, f)
  | _ :: _, _, 0 => (.inr (60, []), 0)
  | t :: l, st, f + 1 => match stepG get t st with
    | .inl st' => runG get l st' f
    | .inr e => (.inr e, f)
/-- What terms come to: the value, the fuel that is left, the error and its places. -/
def ofG (get : ByteArray → Option V) (e : List TM) (f : Nat) : V × Nat × Int × List ByteArray :=
  if checkL e ≠ 0 then (V0, f, checkL e, []) else match runG get e [] f with
  | (.inl st, m) => (st.headD V0, m, 0, [])
  | (.inr (x, p), m) => (V0, m, x, p)

theorem run_append (get : ByteArray → Option V) (b : List TM) : ∀ (a : List TM) (st : List V) (f : Nat), runG get (a ++ b) st f = match runG get a st f with | (.inl st', f') => runG get b st' f' | (.inr e, f') => (.inr e, f')
  | [], st, f => by simp [runG]
  | t :: a, st, 0 => by simp [runG]
  | t :: a, st, f + 1 => by
    show runG get (t :: (a ++ b)) st (f + 1) = _
    simp only [runG]
    cases stepG get t st with
    | inl st' => exact run_append get b a st' f
    | inr e => rfl
theorem step_err {get : ByteArray → Option V} {t : TM} {st : List V} {e : Int} {p : List ByteArray} (h : stepG get t st = .inr (e, p)) : e ≠ 0 ∧ e ≠ 60 := by
  unfold stepG at h
  split at h
  · cases h
  · split at h
    · split at h
      · cases h
      · injection h with h; injection h with h _; subst h; decide
    · split at h
      · cases h
      · split at h
        · split at h
          · split at h
            · cases h
            · next a r hne =>
              injection h with h; injection h with h _
              rcases oneV_err t.op a with g | ⟨g | g | g, _⟩
              · exact absurd g hne
              all_goals omega
          · injection h with h; injection h with h _; subst h; decide
        · split at h
          · split at h
            · cases h
            · next b a r hne =>
              injection h with h; injection h with h _
              rcases twoV_err t.op a b with g | ⟨g | g | g | g | g, _⟩
              · exact absurd g hne
              all_goals omega
          · injection h with h; injection h with h _; subst h; decide
/-- With more fuel all is the same, but what is left. -/
theorem run_more (get : ByteArray → Option V) (k : Nat) : ∀ (l : List TM) (st : List V) (f : Nat), l.length ≤ f → runG get l st (f + k) = ((runG get l st f).1, (runG get l st f).2 + k)
  | [], st, f, _ => rfl
  | t :: l, st, 0, h => absurd h (by simp)
  | t :: l, st, f + 1, h => by
    rw [Nat.add_right_comm]
    simp only [runG]
    cases stepG get t st with
    | inl st' => exact run_more get k l st' f (by simpa using h)
    | inr e => rfl
/-- With as much fuel as there are terms none is left; and it is never for want of fuel. -/
theorem run_exact (get : ByteArray → Option V) : ∀ (l : List TM) (st : List V), (∃ st', runG get l st l.length = (.inl st', 0)) ∨ (∃ e p m, runG get l st l.length = (.inr (e, p), m) ∧ e ≠ 0 ∧ e ≠ 60)
  | [], st => .inl ⟨st, rfl⟩
  | t :: l, st => by
    rw [List.length_cons]
    simp only [runG]
    cases hs : stepG get t st with
    | inl st' => exact run_exact get l st'
    | inr e =>
      obtain ⟨e, p⟩ := e
      exact .inr ⟨e, p, l.length, rfl, step_err hs⟩
/-- With less fuel there is ErrFuel, or the same error. -/
theorem run_less (get : ByteArray → Option V) : ∀ (l : List TM) (st : List V) (f : Nat), f < l.length → (runG get l st f = (.inr (60, []), 0)) ∨ (∃ e p m k, runG get l st f = (.inr (e, p), m) ∧ runG get l st l.length = (.inr (e, p), k) ∧ e ≠ 0)
  | [], st, f, h => absurd h (by simp)
  | t :: l, st, 0, _ => .inl rfl
  | t :: l, st, f + 1, h => by
    rw [List.length_cons]
    simp only [runG]
    cases hs : stepG get t st with
    | inl st' => exact run_less get l st' f (by simpa using h)
    | inr e =>
      obtain ⟨e, p⟩ := e
      exact .inr ⟨e, p, f, l.length, rfl, rfl, (step_err hs).1⟩
/-- What lies below what is taken stays. -/
theorem step_frame (get : ByteArray → Option V) {t : TM} (ht : ownT t = 0) {s : List V} (hn : takesT t.op ≤ s.length) (st : List V) : stepG get t (s ++ st) = match stepG get t s with | .inl s' => .inl (s' ++ st) | .inr e => .inr e := by
  obtain ⟨h0, h18, _, _⟩ := own_op ht
  unfold stepG
  split
  · rfl
  · split
    · cases get t.nm <;> rfl
    · split
      · rfl
      · next e0 e1 e2 =>
        split
        · next e6 =>
          have h1 : takesT t.op = 1 := by unfold takesT; rw [if_neg (by omega), if_pos e6]
          rw [h1] at hn
          cases s with
          | nil => simp at hn
          | cons a r =>
            simp only [List.cons_append]
            split <;> rfl
        · next e6 =>
          have h2 : takesT t.op = 2 := by unfold takesT; rw [if_neg (by omega), if_neg e6]
          rw [h2] at hn
          match s, hn with
          | b :: a :: r, _ =>
            simp only [List.cons_append]
            split <;> rfl
theorem step_len {get : ByteArray → Option V} {t : TM} (ht : ownT t = 0) {s s' : List V} (hn : takesT t.op ≤ s.length) (h : stepG get t s = .inl s') : s'.length = s.length + 1 - takesT t.op := by
  obtain ⟨h0, h18, _, _⟩ := own_op ht
  unfold stepG at h
  by_cases e3 : t.op < 3
  · have hz : takesT t.op = 0 := if_pos e3
    rw [hz]
    split at h
    · injection h with h; subst h; simp
    · split at h
      · split at h
        · injection h with h; subst h; simp
        · cases h
      · rw [if_pos (by omega)] at h
        injection h with h; subst h; simp
  · rw [if_neg (by omega), if_neg (by omega), if_neg (by omega)] at h
    by_cases e6 : t.op < 6
    · have h1 : takesT t.op = 1 := by unfold takesT; rw [if_neg e3, if_pos e6]
      rw [if_pos e6] at h
      rw [h1] at hn ⊢
      cases s with
      | nil => simp at hn
      | cons a r =>
        simp only at h
        split at h
        · injection h with h; subst h; simp
        · cases h
    · have h2 : takesT t.op = 2 := by unfold takesT; rw [if_neg e3, if_neg e6]
      rw [if_neg e6] at h
      rw [h2] at hn ⊢
      match s, hn with
      | b :: a :: r, _ =>
        simp only at h
        split at h
        · injection h with h; subst h; simp
        · cases h
theorem run_frame (get : ByteArray → Option V) (st : List V) : ∀ (l : List TM) (s : List V) (f m : Nat), checkGo s.length l = (0, m) → runG get l (s ++ st) f = match runG get l s f with | (.inl s', f') => (.inl (s' ++ st), f') | (.inr e, f') => (.inr e, f')
  | [], s, f, m, _ => rfl
  | t :: l, s, 0, m, _ => rfl
  | t :: l, s, f + 1, m, h => by
    rw [checkGo] at h
    by_cases h1 : ownT t = 0
    · rw [if_neg (by simp [h1])] at h
      by_cases h2 : s.length < takesT t.op
      · rw [if_pos h2] at h; cases h
      · rw [if_neg h2] at h
        simp only [runG]
        rw [step_frame get h1 (by omega)]
        cases hs : stepG get t s with
        | inl s' =>
          have hl := step_len h1 (by omega) hs
          rw [← hl] at h
          exact run_frame get st l s' f m h
        | inr e => rfl
    · rw [if_pos h1] at h
      injection h with h _
      exact absurd h h1
theorem run_len (get : ByteArray → Option V) : ∀ (l : List TM) (s s' : List V) (f f' m : Nat), checkGo s.length l = (0, m) → runG get l s f = (.inl s', f') → s'.length = m
  | [], s, s', f, f', m, h, hr => by
    simp only [checkGo, Prod.mk.injEq, true_and] at h
    simp only [runG, Prod.mk.injEq, Sum.inl.injEq] at hr
    rw [← hr.1, h]
  | t :: l, s, s', 0, f', m, h, hr => by simp [runG] at hr
  | t :: l, s, s', f + 1, f', m, h, hr => by
    rw [checkGo] at h
    by_cases h1 : ownT t = 0
    · rw [if_neg (by simp [h1])] at h
      by_cases h2 : s.length < takesT t.op
      · rw [if_pos h2] at h; cases h
      · rw [if_neg h2] at h
        simp only [runG] at hr
        cases hs : stepG get t s with
        | inl s2 =>
          rw [hs] at hr
          have hl := step_len h1 (by omega) hs
          rw [← hl] at h
          exact run_len get l s2 s' f f' m h hr
        | inr e => rw [hs] at hr; simp at hr
    · rw [if_pos h1] at h
      injection h with h _
      exact absurd h h1
/-- Variables that are not named make no difference. -/
theorem run_other {get get' : ByteArray → Option V} : ∀ (l : List TM) (st : List V) (f : Nat), (∀ t ∈ l, t.op = 1 ∨ t.op = 2 → get t.nm = get' t.nm) → runG get l st f = runG get' l st f
  | [], _, _, _ => rfl
  | _ :: _, _, 0, _ => rfl
  | t :: l, st, f + 1, h => by
    have hs : stepG get t st = stepG get' t st := by
      unfold stepG
      by_cases e1 : t.op = 1
      · rw [h t (List.mem_cons_self ..) (.inl e1)]
      · by_cases e2 : t.op = 2
        · rw [h t (List.mem_cons_self ..) (.inr e2)]
        · rw [if_neg e1, if_neg e1, if_neg e2, if_neg e2]
    simp only [runG]
    rw [hs]
    cases stepG get' t st with
    | inl st' => exact run_other l st' f (fun t ht => h t (List.mem_cons_of_mem _ ht))
    | inr e => rfl
end Go.Proofs.YtidomoibhjgkjaaGreatDoor
