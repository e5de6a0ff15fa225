import Derived.Test.YtidomoibhjgkjaaGreatDoorZC12
/-
  Expressions in plain words: a parser that keeps what is open on a stack gives what tokens are parsed to.
-/
namespace Go.Proofs.YtidomoibhjgkjaaGreatDoor

def isTwo (op : Int) : Bool := decide (6 ≤ op) && decide (op ≤ 18)
/-- What must stand next (0: a value, 1: a sign, 2: the bracket of a call, 3: a name, 4: the bracket behind it), which call's bracket is wanted, what is open (the innermost first), terms. -/
structure ST where
  wants : Int
  call : Int
  st : List TM
  out : List TM
/-- How many are open, signs of two aside. -/
def ndeep : List TM → Nat
  | [] => 0
  | t :: S => if isTwo t.op = true then ndeep S else ndeep S + 1
def popTwo : List TM → List TM → List TM × List TM
  | [], o => ([], o)
  | t :: S, o => if isTwo t.op = true then popTwo S (o ++ [t]) else (t :: S, o)
def popOnes : List TM → List TM → List TM × List TM
  | [], o => ([], o)
  | t :: S, o => if t.op = 3 ∨ t.op = 4 then popOnes S (o ++ [t]) else (t :: S, o)
/-- What is as strong, or stronger, has all that it takes; none: it may not follow. -/
def popSign (k : Int) : List TM → List TM → Option (List TM × List TM)
  | [], o => some ([], o)
  | t :: S, o => if isTwo t.op = true ∧ strOf k ≤ strOf t.op then (if strOf k = 2 ∧ strOf t.op = 2 then none else popSign k S (o ++ [t])) else some (t :: S, o)
def wholeM (c : Int) (S o : List TM) : ST := ⟨1, c, (popOnes S o).1, (popOnes S o).2⟩
def beginM (s : ST) (op wants : Int) : ST ⊕ Int := if ndeep s.st = 12 then .inr 50 else .inl ⟨wants, s.call, opT op :: s.st, s.out⟩
def putM (x : TM) (o : List TM) : List TM := if x.op = -1 then o else o ++ [x]
def closeM (s : ST) : ST ⊕ Int :=
  match popTwo s.st s.out with
  | ([], _) => .inr 8
  | (x :: S, o) => .inl (wholeM s.call S (putM x o))
def valueM (s : ST) : Tok → ST ⊕ Int
  | .lit v => .inl (wholeM s.call s.st (s.out ++ [⟨0, v, mtS⟩]))
  | .word w => if w = hasW then .inl ⟨2, 2, s.st, s.out⟩ else if w = lenW then .inl ⟨2, 5, s.st, s.out⟩ else if reservedB w = true then .inr 8 else .inl (wholeM s.call s.st (s.out ++ [⟨1, V0, w⟩]))
  | .sg c => if c = 20 then beginM s (-1) 0 else if c = 10 then beginM s 3 0 else if c = 4 then beginM s 4 0 else .inr 8
def signM (s : ST) : Tok → ST ⊕ Int
  | .sg c => if c = 21 then closeM s else if isTwo c = true then (match popSign c s.st s.out with
      | none => .inr 8
      | some (S, o) => .inl ⟨0, s.call, opT c :: S, o⟩) else .inr 8
  | _ => .inr 8
def callM (s : ST) : Tok → ST ⊕ Int
  | .sg c => if c = 20 then (if s.call = 2 then beginM s 2 3 else beginM s s.call 0) else .inr 8
  | _ => .inr 8
def nameM (s : ST) : Tok → ST ⊕ Int
  | .word w => if reservedB w = true then .inr 8 else (match s.st with
      | [] => .inr 8
      | x :: S => .inl ⟨4, s.call, ⟨x.op, x.v, w⟩ :: S, s.out⟩)
  | _ => .inr 8
def shutM (s : ST) : Tok → ST ⊕ Int
  | .sg c => if c = 21 then closeM s else .inr 8
  | _ => .inr 8
def addM (s : ST) (t : Tok) : ST ⊕ Int :=
  if s.wants = 0 then valueM s t else if s.wants = 1 then signM s t else if s.wants = 2 then callM s t else if s.wants = 3 then nameM s t else shutM s t
def endM (s : ST) : List TM ⊕ Int :=
  if s.wants ≠ 1 then .inr 6 else match popTwo s.st s.out with
    | ([], o) => .inl o
    | _ => .inr 6
def runM (z : Int) (s : ST) : List Tok → List TM ⊕ Int
  | [] => if z ≠ 0 then .inr z else endM s
  | t :: l => match addM s t with
    | .inl s' => runM z s' l
    | .inr e => .inr e
termination_by l => l.length

theorem add0 (c : Int) (S o : List TM) (t : Tok) : addM ⟨0, c, S, o⟩ t = valueM ⟨0, c, S, o⟩ t := by simp [addM]
theorem add1 (c : Int) (S o : List TM) (t : Tok) : addM ⟨1, c, S, o⟩ t = signM ⟨1, c, S, o⟩ t := by simp [addM]
theorem add2 (c : Int) (S o : List TM) (t : Tok) : addM ⟨2, c, S, o⟩ t = callM ⟨2, c, S, o⟩ t := by simp [addM]
theorem add3 (c : Int) (S o : List TM) (t : Tok) : addM ⟨3, c, S, o⟩ t = nameM ⟨3, c, S, o⟩ t := by simp [addM]
theorem add4 (c : Int) (S o : List TM) (t : Tok) : addM ⟨4, c, S, o⟩ t = shutM ⟨4, c, S, o⟩ t := by simp [addM]
theorem run_err {z : Int} {s : ST} {t : Tok} {l : List Tok} {e : Int} (h : addM s t = .inr e) : runM z s (t :: l) = .inr e := by rw [runM, h]
theorem run_on {z : Int} {s s' : ST} {t : Tok} {l : List Tok} (h : addM s t = .inl s') : runM z s (t :: l) = runM z s' l := by rw [runM, h]
theorem run_nil {z : Int} {s : ST} : runM z s [] = if z ≠ 0 then .inr z else endM s := by rw [runM]

/-! ### what the stack gives -/
def Twos (P : List TM) : Prop := ∀ p ∈ P, isTwo p.op = true
def NoTwo : List TM → Prop
  | [] => True
  | t :: _ => isTwo t.op = false
theorem popTwo_of {S : List TM} (hS : NoTwo S) : ∀ (P o : List TM), Twos P → popTwo (P ++ S) o = (S, o ++ P)
  | [], o, _ => by
    rw [List.nil_append, List.append_nil]
    cases S with
    | nil => rfl
    | cons t S => rw [popTwo, if_neg (by rw [show isTwo t.op = false from hS]; simp)]
  | p :: P, o, h => by
    rw [List.cons_append, popTwo, if_pos (h p (List.mem_cons_self ..)), popTwo_of hS P _ fun q hq => h q (List.mem_cons_of_mem _ hq)]
    simp
theorem popSign_of {k : Int} {S : List TM} (hS : ∀ t S', S = t :: S' → isTwo t.op = true → strOf t.op < strOf k) : ∀ (P o : List TM), Twos P → (∀ p ∈ P, strOf k ≤ strOf p.op ∧ ¬ (strOf k = 2 ∧ strOf p.op = 2)) → popSign k (P ++ S) o = some (S, o ++ P)
  | [], o, _, _ => by
    rw [List.nil_append, List.append_nil]
    cases S with
    | nil => rfl
    | cons t S =>
      rw [popSign, if_neg]
      rintro ⟨h1, h2⟩
      have := hS t S rfl h1
      omega
  | p :: P, o, h, hk => by
    obtain ⟨h1, h2⟩ := hk p (List.mem_cons_self ..)
    rw [List.cons_append, popSign, if_pos ⟨h p (List.mem_cons_self ..), h1⟩, if_neg h2, popSign_of hS P _ (fun q hq => h q (List.mem_cons_of_mem _ hq)) fun q hq => hk q (List.mem_cons_of_mem _ hq)]
    simp
/-- What is open has one of the third strength, and stronger ones within. -/
def Third (P : List TM) : Prop := ∃ A c B, P = A ++ c :: B ∧ (∀ p ∈ A, isTwo p.op = true ∧ 3 ≤ strOf p.op) ∧ isTwo c.op = true ∧ strOf c.op = 2
theorem popSign_third {k : Int} (hk : strOf k = 2) {S : List TM} : ∀ {P : List TM} (o : List TM), Third P → popSign k (P ++ S) o = none := by
  rintro P o ⟨A, c, B, rfl, hA, hc1, hc2⟩
  induction A generalizing o with
  | nil => rw [List.nil_append, List.cons_append, popSign, if_pos ⟨hc1, by omega⟩, if_pos ⟨hk, hc2⟩]
  | cons p A ih =>
    obtain ⟨h1, h2⟩ := hA p (List.mem_cons_self ..)
    rw [List.cons_append, List.cons_append, popSign, if_pos ⟨h1, by omega⟩, if_neg (by omega)]
    exact ih _ fun q hq => hA q (List.mem_cons_of_mem _ hq)
theorem Third.more {P : List TM} (h : Third P) (Q : List TM) : Third (P ++ Q) := by
  obtain ⟨A, c, B, rfl, h1, h2, h3⟩ := h
  exact ⟨A, c, B ++ Q, by simp, h1, h2, h3⟩

def Base (least : Nat) : List TM → Prop
  | [] => True
  | t :: _ => t.op ≠ 3 ∧ t.op ≠ 4 ∧ (isTwo t.op = true → strOf t.op < least)
theorem Base.ones {least : Nat} {S : List TM} (h : Base least S) (o : List TM) : popOnes S o = (S, o) := by
  cases S with
  | nil => rfl
  | cons t S => rw [popOnes, if_neg (by have h1 := h.1; have h2 := h.2.1; omega)]
def Low (least most : Nat) (P : List TM) : Prop := ∀ p ∈ P, least ≤ strOf p.op ∧ most ≤ strOf p.op ∧ (strOf p.op = 2 → most ≤ 1)
def Head (most : Nat) (P : List TM) (l : List Tok) : Prop := ∀ k r, l = .sg k :: r → isTwo k = true → most < strOf k → strOf k = 2 ∧ Third P
def Stops (least : Nat) (P : List TM) (l : List Tok) : Prop := ∀ k r, l = .sg k :: r → isTwo k = true → strOf k < least ∨ (strOf k = 2 ∧ Third P)
def SimOk (z : Int) (least : Nat) (s : ST) (l : List Tok) (S T e : List TM) (r : List Tok) : Prop :=
  ∃ c P T', runM z s l = runM z ⟨1, c, P ++ S, T'⟩ r ∧ T' ++ P = T ++ e ∧ Twos P ∧ (∀ p ∈ P, least ≤ strOf p.op) ∧ Stops least P r
def Sim (z : Int) (m : Mode) (o : Nat) (l : List Tok) (x : Res) : Prop :=
  match m with
  | .one => ∀ S T c, ndeep S = o → (∀ e r, x = .ok e r → ∃ c', runM z ⟨0, c, S, T⟩ l = runM z ⟨1, c', (popOnes S (T ++ e)).1, (popOnes S (T ++ e)).2⟩ r) ∧ ∀ k, x = .err k → runM z ⟨0, c, S, T⟩ l = .inr k
  | .climb least => ∀ S T c, ndeep S = o → Base least S → (∀ e r, x = .ok e r → SimOk z least ⟨0, c, S, T⟩ l S T e r) ∧ ∀ k, x = .err k → runM z ⟨0, c, S, T⟩ l = .inr k
  | .loop least most e0 => ∀ S T c P T', ndeep S = o → Base least S → T' ++ P = T ++ e0 → Twos P → Low least most P → Head most P l →
      (∀ e r, x = .ok e r → SimOk z least ⟨1, c, P ++ S, T'⟩ l S T e r) ∧ ∀ k, x = .err k → runM z ⟨1, c, P ++ S, T'⟩ l = .inr k

/-- A token that can't follow. -/
theorem stuck {c : Int} {P S T : List TM} {t : Tok} {r : List Tok} (hs : Stops 0 P (t :: r)) (ht : t ≠ .sg 21) : addM ⟨1, c, P ++ S, T⟩ t = .inr 8 := by
  cases t with
  | lit v => rfl
  | word w => rfl
  | sg k =>
    have hk : k ≠ 21 := fun e => ht (by rw [e])
    show signM _ (.sg k) = _
    unfold signM
    simp only
    rw [if_neg hk]
    by_cases h2 : isTwo k = true
    · rw [if_pos h2]
      rcases hs k r rfl h2 with h | ⟨h, h3⟩
      · omega
      · rw [popSign_third h _ h3]
    · rw [if_neg h2]
theorem close_at {c : Int} {P S T : List TM} {x : TM} (hP : Twos P) (hx : isTwo x.op = false) : closeM ⟨1, c, P ++ x :: S, T⟩ = .inl (wholeM c S (putM x (T ++ P))) := by
  unfold closeM
  simp only
  rw [popTwo_of (S := x :: S) hx P T hP]
theorem end_open {z c : Int} {P S T : List TM} {x : TM} (hP : Twos P) (hx : isTwo x.op = false) : runM z ⟨1, c, P ++ x :: S, T⟩ [] = .inr (if z ≠ 0 then z else 6) := by
  rw [run_nil]
  split
  · rfl
  · unfold endM
    rw [if_neg (by simp)]
    simp only
    rw [popTwo_of (S := x :: S) hx P T hP]
theorem unfit_nil (z : Int) : unfit z [] = if z ≠ 0 then z else 6 := rfl
theorem unfit_cons (z : Int) (t : Tok) (l : List Tok) : unfit z (t :: l) = 8 := rfl
theorem run_begins {z : Int} {s : ST} {t : Tok} {op w : Int} {l : List Tok} (ht : addM s t = beginM s op w) (hd : ndeep s.st < 12) : runM z s (t :: l) = runM z ⟨w, s.call, opT op :: s.st, s.out⟩ l := by
  refine run_on (ht.trans ?_)
  unfold beginM
  rw [if_neg (by omega)]
theorem run_deep {z : Int} {s : ST} {t : Tok} {op w : Int} {l : List Tok} (ht : addM s t = beginM s op w) (hd : ndeep s.st = 12) : runM z s (t :: l) = .inr 50 := by
  refine run_err (ht.trans ?_)
  unfold beginM
  rw [if_pos hd]

/-- Behind what stands in brackets. -/
theorem sim_close {z : Int} {s : ST} {l : List Tok} {S T : List TM} {op : Int} {x : Res} (hop : op = -1 ∨ op = 5)
    (h : (∀ e r, x = .ok e r → SimOk z 0 s l (opT op :: S) T e r) ∧ ∀ k, x = .err k → runM z s l = .inr k) :
    (∀ e r, x.close z = .ok e r → ∃ c', runM z s l = runM z (wholeM c' S (putM (opT op) (T ++ e))) r) ∧ ∀ k, x.close z = .err k → runM z s l = .inr k := by
  have hx : isTwo (opT op).op = false := by
    show isTwo op = false
    rcases hop with rfl | rfl <;> decide
  cases x with
  | err k => exact ⟨fun e r he => (by cases he), fun k' hk => h.2 k' hk⟩
  | ok e r =>
    obtain ⟨c, P, T', h1, h2, h3, _, h5⟩ := h.1 e r rfl
    cases r with
    | nil =>
      refine ⟨fun e r he => (by cases he), fun k hk => ?_⟩
      have hk : Res.err (unfit z []) = .err k := hk
      injection hk with hk
      rw [h1, end_open h3 hx, ← hk]
      rfl
    | cons t r =>
      by_cases ht : t = .sg 21
      · subst ht
        refine ⟨fun e' r' he => ?_, fun k hk => by cases hk⟩
        have he : Res.ok e r = .ok e' r' := he
        injection he with e1 e2
        subst e1 e2
        refine ⟨c, h1.trans ?_⟩
        have hadd : addM ⟨1, c, P ++ opT op :: S, T'⟩ (.sg 21) = .inl (wholeM c S (putM (opT op) (T' ++ P))) := close_at h3 hx
        rw [run_on hadd, h2]
      · have hc : (Res.ok e (t :: r)).close z = .err 8 := by
          cases t with
          | lit v => rfl
          | word w => rfl
          | sg k =>
            have hk : k ≠ 21 := fun e => ht (by rw [e])
            unfold Res.close
            split
            · next heq => injection heq with _ h2; injection h2 with h2 _; injection h2 with h2; exact absurd h2 hk
            · next heq => injection heq with _ h2; subst h2; rfl
            · next heq => cases heq
        rw [hc]
        refine ⟨fun e r he => (by cases he), fun k hk => ?_⟩
        injection hk with hk
        rw [h1, run_err (stuck h5 ht), hk]

theorem has_len : hasW ≠ lenW := fun h => by
  have := congrArg (fun b : ByteArray => b.data.toList) h
  exact absurd this (by decide)
/-- What stands behind 'has'. -/
theorem sim_has {z : Int} {S T : List TM} (r : List Tok) (ho : ndeep S ≤ 12) :
    (∀ e r', hasRes z (ndeep S) r = .ok e r' → ∃ c', runM z ⟨2, 2, S, T⟩ r = runM z ⟨1, c', (popOnes S (T ++ e)).1, (popOnes S (T ++ e)).2⟩ r') ∧ ∀ k, hasRes z (ndeep S) r = .err k → runM z ⟨2, 2, S, T⟩ r = .inr k := by
  have wrong : ∀ (s : ST) (l : List Tok), s.wants ≠ 1 → (∀ t l', l = t :: l' → addM s t = .inr 8) → runM z s l = .inr (unfit z l) := by
    intro s l hw h
    cases l with
    | nil =>
      rw [run_nil, unfit_nil]
      split
      · rfl
      · unfold endM; rw [if_pos hw]
    | cons t l => rw [run_err (h t l rfl), unfit_cons]
  unfold hasRes
  split
  · next r1 =>
    have hb : addM ⟨2, 2, S, T⟩ (.sg 20) = beginM ⟨2, 2, S, T⟩ 2 3 := rfl
    split
    · refine ⟨fun e r he => (by cases he), fun k hk => ?_⟩
      injection hk with hk
      rw [run_deep hb (show ndeep S = 12 by omega), hk]
    · next h12 =>
      rw [run_begins hb (show ndeep S < 12 by omega)]
      split
      · next x r2 =>
        split
        · next hx =>
          refine ⟨fun e r he => (by cases he), fun k hk => ?_⟩
          injection hk with hk
          refine (run_err (e := 8) ?_).trans (by rw [hk])
          rw [add3]
          unfold nameM
          simp only
          rw [if_pos hx]
        · next hx =>
          have h1 : addM ⟨3, 2, opT 2 :: S, T⟩ (.word x) = .inl ⟨4, 2, ⟨2, V0, x⟩ :: S, T⟩ := by
            rw [add3]
            unfold nameM
            simp only
            rw [if_neg hx]
            rfl
          simp only
          rw [run_on h1]
          split
          · next r3 =>
            refine ⟨fun e r he => ?_, fun k hk => by cases hk⟩
            injection he with e1 e2
            subst e1 e2
            have h2 : addM ⟨4, 2, ⟨2, V0, x⟩ :: S, T⟩ (.sg 21) = .inl (wholeM 2 S (T ++ [⟨2, V0, x⟩])) := by
              rw [add4]
              unfold shutM
              simp only
              rw [if_true]
              unfold closeM
              simp only
              rw [popTwo, if_neg (by show ¬ isTwo 2 = true; decide)]
              simp only
              rfl
            exact ⟨2, run_on h2⟩
          · next l hl =>
            refine ⟨fun e r he => (by cases he), fun k hk => ?_⟩
            injection hk with hk
            rw [← hk]
            refine wrong _ _ (by show (_ : Int) ≠ 1; simp) fun t l' e => ?_
            rw [add4]
            unfold shutM
            split
            · next c =>
              rw [if_neg]
              rintro rfl
              exact hl l' e
            · rfl
      · next l hl =>
        refine ⟨fun e r he => (by cases he), fun k hk => ?_⟩
        injection hk with hk
        rw [← hk]
        refine wrong _ _ (by show (_ : Int) ≠ 1; simp) fun t l' e => ?_
        rw [add3]
        unfold nameM
        split
        · next w => exact absurd e (hl w l')
        · rfl
  · next l hl =>
    refine ⟨fun e r he => (by cases he), fun k hk => ?_⟩
    injection hk with hk
    rw [← hk]
    refine wrong _ _ (by show (_ : Int) ≠ 1; simp) fun t l' e => ?_
    rw [add2]
    unfold callM
    split
    · next c =>
      rw [if_neg]
      rintro rfl
      exact hl l' e
    · rfl

set_option maxHeartbeats 1000000 in
/-- What tokens are parsed to, the stack gives. -/
theorem sim {z : Int} {m : Mode} {o : Nat} {l : List Tok} {x : Res} (h : PP z m o l x) : o ≤ 12 → Sim z m o l x := by
  induction h with
  | signDeep o c r h12 hc =>
    intro ho S T c0 hS
    refine ⟨fun e r he => (by cases he), fun k hk => ?_⟩
    injection hk with hk
    subst hk
    rcases hc with rfl | rfl
    · exact run_deep (op := 4) (w := 0) rfl (show ndeep S = 12 by omega)
    · exact run_deep (op := 3) (w := 0) rfl (show ndeep S = 12 by omega)
  | sign o c r x ho hc h ih =>
    intro ho' S T c0 hS
    have key : ∀ op : Int, op = 3 ∨ op = 4 → runM z ⟨0, c0, S, T⟩ (.sg c :: r) = runM z ⟨0, c0, opT op :: S, T⟩ r → op = (if c = 4 then 4 else 3) →
        (∀ e r', (x.then_ (opT (if c = 4 then 4 else 3))) = .ok e r' → ∃ c', runM z ⟨0, c0, S, T⟩ (.sg c :: r) = runM z ⟨1, c', (popOnes S (T ++ e)).1, (popOnes S (T ++ e)).2⟩ r') ∧ ∀ k, (x.then_ (opT (if c = 4 then 4 else 3))) = .err k → runM z ⟨0, c0, S, T⟩ (.sg c :: r) = .inr k := by
      intro op hop hrun he
      rw [← he, hrun]
      have hn : ndeep (opT op :: S) = o + 1 := by
        rw [ndeep, if_neg (by show ¬ isTwo op = true; rcases hop with rfl | rfl <;> decide), hS]
      obtain ⟨h1, h2⟩ := ih (by omega) (opT op :: S) T c0 hn
      cases x with
      | err k => exact ⟨fun e r he => (by cases he), fun k' hk => h2 k' hk⟩
      | ok e r1 =>
        refine ⟨fun e' r' he' => ?_, fun k hk => by cases hk⟩
        have he' : Res.ok (e ++ [opT op]) r1 = .ok e' r' := he'
        injection he' with e1 e2
        subst e1 e2
        obtain ⟨c', hc'⟩ := h1 e r1 rfl
        refine ⟨c', hc'.trans ?_⟩
        have hp : popOnes (opT op :: S) (T ++ e) = popOnes S (T ++ (e ++ [opT op])) := by
          rw [popOnes, if_pos (show (opT op).op = 3 ∨ (opT op).op = 4 from hop), List.append_assoc]
        rw [hp]
    rcases hc with rfl | rfl
    · exact key 4 (.inr rfl) (run_begins (op := 4) (w := 0) rfl (show ndeep S < 12 by omega)) rfl
    · exact key 3 (.inl rfl) (run_begins (op := 3) (w := 0) rfl (show ndeep S < 12 by omega)) rfl
  | lit o v r =>
    intro ho S T c0 hS
    refine ⟨fun e r' he => ?_, fun k hk => by cases hk⟩
    injection he with e1 e2
    subst e1 e2
    exact ⟨c0, run_on rfl⟩
  | parDeep o r h12 =>
    intro ho S T c0 hS
    refine ⟨fun e r he => (by cases he), fun k hk => ?_⟩
    injection hk with hk
    subst hk
    exact run_deep (op := -1) (w := 0) rfl (show ndeep S = 12 by omega)
  | par o r x ho h ih =>
    intro ho' S T c0 hS
    have hrun : runM z ⟨0, c0, S, T⟩ (.sg 20 :: r) = runM z ⟨0, c0, opT (-1) :: S, T⟩ r := run_begins (op := -1) (w := 0) rfl (show ndeep S < 12 by omega)
    have hn : ndeep (opT (-1) :: S) = o + 1 := by rw [ndeep, if_neg (by decide), hS]
    obtain ⟨g1, g2⟩ := sim_close (.inl rfl) (ih (by omega) (opT (-1) :: S) T c0 hn ⟨by decide, by decide, by decide⟩)
    rw [hrun]
    refine ⟨fun e r' he => ?_, g2⟩
    obtain ⟨c', h⟩ := g1 e r' he
    exact ⟨c', h⟩
  | has o r =>
    intro ho S T c0 hS
    subst hS
    have hrun : runM z ⟨0, c0, S, T⟩ (.word hasW :: r) = runM z ⟨2, 2, S, T⟩ r := by
      refine run_on ?_
      rw [add0]
      unfold valueM
      simp
    rw [hrun]
    exact sim_has r ho
  | lenNone o r hn =>
    intro ho S T c0 hS
    refine ⟨fun e r he => (by cases he), fun k hk => ?_⟩
    injection hk with hk
    subst hk
    have hrun : runM z ⟨0, c0, S, T⟩ (.word lenW :: r) = runM z ⟨2, 5, S, T⟩ r := by
      refine run_on ?_
      rw [add0]
      unfold valueM
      simp [Ne.symm has_len]
    rw [hrun]
    cases r with
    | nil =>
      rw [run_nil, unfit_nil]
      split
      · rfl
      · unfold endM; rw [if_pos (by show (_ : Int) ≠ 1; simp)]
    | cons t r =>
      rw [unfit_cons]
      refine run_err ?_
      rw [add2]
      unfold callM
      split
      · next c =>
        rw [if_neg]
        rintro rfl
        exact hn r rfl
      · rfl
  | lenDeep o r h12 =>
    intro ho S T c0 hS
    refine ⟨fun e r he => (by cases he), fun k hk => ?_⟩
    injection hk with hk
    subst hk
    have hrun : runM z ⟨0, c0, S, T⟩ (.word lenW :: .sg 20 :: r) = runM z ⟨2, 5, S, T⟩ (.sg 20 :: r) := by
      refine run_on ?_
      rw [add0]
      unfold valueM
      simp [Ne.symm has_len]
    rw [hrun]
    exact run_deep (op := 5) (w := 0) rfl (show ndeep S = 12 by omega)
  | len o r x ho h ih =>
    intro ho' S T c0 hS
    have hrun : runM z ⟨0, c0, S, T⟩ (.word lenW :: .sg 20 :: r) = runM z ⟨2, 5, S, T⟩ (.sg 20 :: r) := by
      refine run_on ?_
      rw [add0]
      unfold valueM
      simp [Ne.symm has_len]
    have hrun2 : runM z ⟨2, 5, S, T⟩ (.sg 20 :: r) = runM z ⟨0, 5, opT 5 :: S, T⟩ r := run_begins (op := 5) (w := 0) rfl (show ndeep S < 12 by omega)
    have hn : ndeep (opT 5 :: S) = o + 1 := by rw [ndeep, if_neg (by decide), hS]
    obtain ⟨g1, g2⟩ := sim_close (.inr rfl) (ih (by omega) (opT 5 :: S) T 5 hn ⟨by decide, by decide, by decide⟩)
    rw [hrun, hrun2]
    cases hx : x.close z with
    | err k => exact ⟨fun e r he => (by cases he), fun k' hk => g2 k' (by rw [hx]; exact hk)⟩
    | ok e r1 =>
      refine ⟨fun e' r' he' => ?_, fun k hk => by cases hk⟩
      have he' : Res.ok (e ++ [opT 5]) r1 = .ok e' r' := he'
      injection he' with e1 e2
      subst e1 e2
      obtain ⟨c', h⟩ := g1 e r1 hx
      refine ⟨c', h.trans ?_⟩
      have hp : putM (opT 5) (T ++ e) = T ++ (e ++ [opT 5]) := by
        unfold putM
        rw [if_neg (by decide), List.append_assoc]
      rw [hp]
      rfl
  | var o w r h1 h2 =>
    intro ho S T c0 hS
    have hadd : addM ⟨0, c0, S, T⟩ (.word w) = if reservedB w = true then .inr 8 else .inl (wholeM c0 S (T ++ [⟨1, V0, w⟩])) := by
      rw [add0]
      unfold valueM
      simp only
      rw [if_neg h1, if_neg h2]
    split
    · next hr =>
      rw [if_pos hr] at hadd
      refine ⟨fun e r he => (by cases he), fun k hk => ?_⟩
      injection hk with hk
      rw [run_err hadd, hk]
    · next hr =>
      rw [if_neg hr] at hadd
      refine ⟨fun e r' he => ?_, fun k hk => by cases hk⟩
      injection he with e1 e2
      subst e1 e2
      exact ⟨c0, run_on hadd⟩
  | none o l hn =>
    intro ho S T c0 hS
    refine ⟨fun e r he => (by cases he), fun k hk => ?_⟩
    injection hk with hk
    subst hk
    cases l with
    | nil =>
      rw [run_nil, unfit_nil]
      split
      · rfl
      · unfold endM; rw [if_pos (by show (_ : Int) ≠ 1; simp)]
    | cons t r =>
      rw [unfit_cons]
      have ht := hn t r rfl
      refine run_err ?_
      cases t with
      | lit v => cases ht
      | word w => cases ht
      | sg c =>
        unfold begins at ht
        simp at ht
        show valueM _ (.sg c) = _
        unfold valueM
        simp only
        rw [if_neg ht.2, if_neg ht.1.2, if_neg ht.1.1]
  | climbNo o least l c h ih =>
    intro ho S T c0 hS hB
    refine ⟨fun e r he => (by cases he), fun k hk => ?_⟩
    exact (ih ho S T c0 hS).2 k hk
  | climb o least l r e x h1 h2 ih1 ih2 =>
    intro ho S T c0 hS hB
    obtain ⟨c', hc'⟩ := (ih1 ho S T c0 hS).1 e r rfl
    rw [hB.ones] at hc'
    obtain ⟨g1, g2⟩ := ih2 ho S T c' [] (T ++ e) hS hB (by simp) (fun _ h => by cases h) (fun _ h => by cases h) (fun k r' he h2 h9 => by
      have := strOf_two (op := k) (by unfold isTwo at h2; simpa using h2)
      omega)
    refine ⟨fun e' r' he => ?_, fun k hk => hc'.trans (g2 k hk)⟩
    obtain ⟨c2, P, T', i1, i2⟩ := g1 e' r' he
    exact ⟨c2, P, T', hc'.trans i1, i2⟩
  | loopEnd o least most e =>
    intro ho S T c P T' hS hB hT hP hL hH
    split
    · next hz =>
      refine ⟨fun e r he => (by cases he), fun k hk => ?_⟩
      injection hk with hk
      rw [run_nil, if_pos hz, hk]
    · refine ⟨fun e' r he => ?_, fun k hk => by cases hk⟩
      injection he with e1 e2
      subst e1 e2
      exact ⟨c, P, T', rfl, hT, hP, fun p hp => (hL p hp).1, fun k r h => by cases h⟩
  | loopStop o least most e t r hg =>
    intro ho S T c P T' hS hB hT hP hL hH
    refine ⟨fun e' r' he => ?_, fun k hk => by cases hk⟩
    injection he with e1 e2
    subst e1 e2
    refine ⟨c, P, T', rfl, hT, hP, fun p hp => (hL p hp).1, fun k r' h h2 => ?_⟩
    injection h with h _
    subst h
    by_cases hl : strOf k < least
    · exact .inl hl
    · refine .inr (hH k r rfl h2 ?_)
      unfold goesOn at hg
      unfold isTwo at h2
      simp at hg h2
      exact hg h2.1 h2.2 (by omega)
  | loopNo o least most e k r c hg h ih =>
    intro ho S T c0 P T' hS hB hT hP hL hH
    unfold goesOn at hg
    simp only [Bool.and_eq_true, decide_eq_true_eq] at hg
    obtain ⟨⟨⟨k6, k18⟩, hle⟩, hmo⟩ := hg
    have h2 : isTwo k = true := by unfold isTwo; simp [k6, k18]
    have hps : popSign k (P ++ S) T' = some (S, T' ++ P) := by
      refine popSign_of (fun t S' e h => ?_) P T' hP fun p hp => ?_
      · subst e
        have := hB.2.2 h
        omega
      · obtain ⟨_, p2, p3⟩ := hL p hp
        exact ⟨by omega, fun ⟨q1, q2⟩ => by have := p3 q2; omega⟩
    have hadd : addM ⟨1, c0, P ++ S, T'⟩ (.sg k) = .inl ⟨0, c0, opT k :: S, T ++ e⟩ := by
      show signM _ (.sg k) = _
      unfold signM
      simp only
      rw [if_neg (by omega), if_pos h2, hps, hT]
    refine ⟨fun e r he => (by cases he), fun k' hk => ?_⟩
    rw [run_on hadd]
    exact (ih ho (opT k :: S) (T ++ e) c0 (by rw [ndeep, if_pos (show isTwo (opT k).op = true from h2), hS]) ⟨by show k ≠ 3; omega, by show k ≠ 4; omega, fun _ => by show strOf k < _; omega⟩).2 k' hk
  | loopOn o least most e e2 k r r2 x hg h1 h2 ih1 ih2 =>
    intro ho S T c0 P T' hS hB hT hP hL hH
    unfold goesOn at hg
    simp only [Bool.and_eq_true, decide_eq_true_eq] at hg
    obtain ⟨⟨⟨k6, k18⟩, hle⟩, hmo⟩ := hg
    have h2 : isTwo k = true := by unfold isTwo; simp [k6, k18]
    have hps : popSign k (P ++ S) T' = some (S, T' ++ P) := by
      refine popSign_of (fun t S' e h => ?_) P T' hP fun p hp => ?_
      · subst e
        have := hB.2.2 h
        omega
      · obtain ⟨_, p2, p3⟩ := hL p hp
        exact ⟨by omega, fun ⟨q1, q2⟩ => by have := p3 q2; omega⟩
    have hadd : addM ⟨1, c0, P ++ S, T'⟩ (.sg k) = .inl ⟨0, c0, opT k :: S, T ++ e⟩ := by
      show signM _ (.sg k) = _
      unfold signM
      simp only
      rw [if_neg (by omega), if_pos h2, hps, hT]
    obtain ⟨c1, P2, T2, i1, i2, i3, i4, i5⟩ := (ih1 ho (opT k :: S) (T ++ e) c0 (by rw [ndeep, if_pos (show isTwo (opT k).op = true from h2), hS]) ⟨by show k ≠ 3; omega, by show k ≠ 4; omega, fun _ => by show strOf k < _; omega⟩).1 e2 r2 rfl
    have hrun : runM z ⟨1, c0, P ++ S, T'⟩ (.sg k :: r) = runM z ⟨1, c1, (P2 ++ [opT k]) ++ S, T2⟩ r2 := by
      rw [run_on hadd, i1, List.append_assoc]
      rfl
    obtain ⟨g1, g2⟩ := ih2 ho S T c1 (P2 ++ [opT k]) T2 hS hB (by rw [← List.append_assoc, i2]; simp) (fun p hp => by
        rcases List.mem_append.1 hp with hp | hp
        · exact i3 p hp
        · rw [List.mem_singleton] at hp; subst hp; exact h2)
      (fun p hp => by
        rcases List.mem_append.1 hp with hp | hp
        · have := i4 p hp
          refine ⟨by omega, by split <;> omega, fun h => ?_⟩
          split <;> omega
        · rw [List.mem_singleton] at hp
          subst hp
          show least ≤ strOf k ∧ _ ≤ strOf k ∧ (strOf k = 2 → _)
          refine ⟨hle, by split <;> omega, fun h => ?_⟩
          rw [if_pos h]
          exact Nat.le_refl _)
      (fun k' r' he hk2 hm => by
        rcases i5 k' r' he hk2 with h | ⟨h, h3⟩
        · have hk2' : strOf k = 2 := by
            by_cases h0 : strOf k = 2
            · exact h0
            · rw [if_neg h0] at hm; omega
          rw [if_pos hk2'] at hm
          have hke : strOf k' = 2 := by omega
          refine ⟨hke, P2, opT k, [], rfl, fun p hp => ⟨i3 p hp, ?_⟩, h2, hk2'⟩
          have := i4 p hp
          omega
        · exact ⟨h, h3.more _⟩)
    refine ⟨fun e' r' he => ?_, fun k' hk => hrun.trans (g2 k' hk)⟩
    obtain ⟨c3, P3, T3, j1, j2⟩ := g1 e' r' he
    exact ⟨c3, P3, T3, hrun.trans j1, j2⟩

/-- What a whole text's tokens come to. -/
def outM (z : Int) : Res → List TM ⊕ Int
  | .err c => .inr c
  | .ok e [] => if z ≠ 0 then .inr z else .inl e
  | .ok _ (_ :: _) => .inr 8
theorem sim_whole {z : Int} {l : List Tok} {x : Res} (h : PP z (.climb 0) 0 l x) : runM z ⟨0, 0, [], []⟩ l = outM z x := by
  obtain ⟨g1, g2⟩ := sim h (by omega) [] [] 0 rfl trivial
  cases x with
  | err c => exact g2 c rfl
  | ok e r =>
    obtain ⟨c, P, T', h1, h2, h3, _, h5⟩ := g1 e r rfl
    rw [h1]
    cases r with
    | nil =>
      rw [run_nil]
      show _ = if z ≠ 0 then _ else _
      split
      · rfl
      · unfold endM
        rw [if_neg (by simp)]
        simp only
        rw [popTwo_of (S := []) trivial P T' h3, h2]
        rfl
    | cons t r =>
      show _ = Sum.inr 8
      refine run_err ?_
      by_cases ht : t = .sg 21
      · subst ht
        show closeM _ = _
        unfold closeM
        simp only
        rw [popTwo_of (S := []) trivial P T' h3]
      · exact stuck h5 ht
end Go.Proofs.YtidomoibhjgkjaaGreatDoor
