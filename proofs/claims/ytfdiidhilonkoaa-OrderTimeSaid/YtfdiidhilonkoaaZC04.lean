import Derived.Test.YtfdiidhilonkoaaZC00
import Derived.Test.YtfdiidhilonkoaaZC03
set_option linter.unusedVariables false
/-
  Texts as lists of bytes.
-/
namespace Go.Proofs.Ytfdiidhilonkoaa

/-- A text of these bytes. -/
def bs (k : List UInt8) : ByteArray := ⟨k.toArray⟩
theorem bs_list (k : List UInt8) : (bs k).toList = k := by rw [ByteArray.toList_eq]; rfl
theorem bs_size (k : List UInt8) : (bs k).size = k.length := by simp [bs, ByteArray.size]
theorem bs_of (s : ByteArray) : s = bs s.data.toList := by cases s; simp [bs]
theorem bs_less (a b : List UInt8) : Op.bytesLess (bs a).toList (bs b).toList = blt a b := by rw [bs_list, bs_list]
theorem bs_same (a b : List UInt8) : ((bs a).toList == (bs b).toList) = (a == b) := by rw [bs_list, bs_list]
theorem bs_nil : bs [] = ⟨#[]⟩ := rfl
/-! ### comparisons as the model makes them -/
theorem sp_less (a b : List UInt8) (t : TypeId) : binOp .lss t (.string (bs a)) (.string (bs b)) = pure (.bool (blt a b)) := by
  have h : binOp .lss t (.string (bs a)) (.string (bs b)) = pure (.bool (Op.bytesLess (bs a).toList (bs b).toList)) := by simp [binOp, Op.stringOp]
  rw [h, bs_less]
theorem sp_geq (a b : List UInt8) (t : TypeId) : binOp .geq t (.string (bs a)) (.string (bs b)) = pure (.bool !(blt a b)) := by
  have h : binOp .geq t (.string (bs a)) (.string (bs b)) = pure (.bool !(Op.bytesLess (bs a).toList (bs b).toList)) := by simp [binOp, Op.stringOp]
  rw [h, bs_less]
theorem sp_gtr (a b : List UInt8) (t : TypeId) : binOp .gtr t (.string (bs a)) (.string (bs b)) = pure (.bool (blt b a)) := by
  have h : binOp .gtr t (.string (bs a)) (.string (bs b)) = pure (.bool !(Op.bytesLess (bs a).toList (bs b).toList || (bs a).toList == (bs b).toList)) := by simp [binOp, Op.stringOp]
  rw [h, bs_less, bs_same]
  rcases blt_tri a b with g | g | g
  · have g2 := blt_asymm g
    rw [g2, show blt a b = true from g]
    rfl
  · subst g
    rw [blt_self]
    simp
  · have g2 := blt_asymm g
    have g3 : (a == b) = false := by
      rw [beq_eq_false_iff_ne]
      rintro rfl
      rw [blt_self] at g
      cases g
    rw [g, g2, g3]
    rfl
theorem sp_leq (a b : List UInt8) (t : TypeId) : binOp .leq t (.string (bs a)) (.string (bs b)) = pure (.bool !(blt b a)) := by
  have h : binOp .leq t (.string (bs a)) (.string (bs b)) = pure (.bool (Op.bytesLess (bs a).toList (bs b).toList || (bs a).toList == (bs b).toList)) := by simp [binOp, Op.stringOp]
  rw [h, bs_less, bs_same]
  rcases blt_tri a b with g | g | g
  · have g2 := blt_asymm g
    rw [g2, show blt a b = true from g]
    rfl
  · subst g
    rw [blt_self]
    simp
  · have g2 := blt_asymm g
    have g3 : (a == b) = false := by
      rw [beq_eq_false_iff_ne]
      rintro rfl
      rw [blt_self] at g
      cases g
    rw [g, g2, g3]
    rfl
end Go.Proofs.Ytfdiidhilonkoaa

/-
  Values in plain words: which are right, which of two is ahead, and variables: got, set, and in order.
-/
namespace Go.Proofs.Ytfdiidhilonkoaa

theorem blt_trans : ∀ {a b c : List UInt8}, blt a b = true → blt b c = true → blt a c = true
  | _, [], _, h, _ => by rw [blt_nil] at h; cases h
  | _, _ :: _, [], _, h => by rw [blt_nil] at h; cases h
  | [], _ :: _, _ :: _, _, _ => rfl
  | a :: x, b :: y, c :: z, h, g => by
    rcases u8_tri a b with e | rfl | e
    · rcases u8_tri b c with f | rfl | f
      · exact blt_lt (UInt8.lt_trans e f)
      · exact blt_lt e
      · rw [blt_gt f] at g; cases g
    · rcases u8_tri a c with f | rfl | f
      · exact blt_lt f
      · rw [blt_eq] at h g ⊢
        exact blt_trans h g
      · rw [blt_gt f] at g; cases g
    · rw [blt_gt e] at h; cases h

/-! ### values -/
/-- A value: its kind, its number, its text. -/
structure V where
  k : Int
  n : Int
  s : ByteArray
def V0 : V := ⟨0, 0, ⟨#[]⟩⟩
def V.val (v : V) : Value := .agg #[.int .i64 v.k, .int .i64 v.n, .string v.s]

def rightV (v : V) : Int :=
  if v.k < 1 ∨ 3 < v.k then 40
  else if v.k = 3 ∧ 64 < v.s.size then 3
  else if (v.k = 3 ∧ v.n ≠ 0) ∨ (v.k ≠ 3 ∧ v.s.size ≠ 0) ∨ (v.k = 2 ∧ v.n ≠ 0 ∧ v.n ≠ 1) then 1
  else 0
theorem right_int (n : Int) : rightV ⟨1, n, ⟨#[]⟩⟩ = 0 := by
  unfold rightV
  rw [if_neg (by simp), if_neg (by simp), if_neg (by simp [ByteArray.size])]

/-- An order in three: -1, 0, 1. -/
structure Ord3 {α : Type} (c : α → α → Int) : Prop where
  neg : ∀ a b, c b a = - c a b
  rng : ∀ a b, c a b = -1 ∨ c a b = 0 ∨ c a b = 1
  trans : ∀ a b d, c a b ≤ 0 → c b d ≤ 0 → c a d ≤ 0 ∧ (c a b + c b d ≠ 0 → c a d < 0)
def then3 (c d : Int) : Int := if c = 0 then d else c
theorem then3_zero (d : Int) : then3 0 d = d := if_pos rfl
theorem then3_ne {c : Int} (h : c ≠ 0) (d : Int) : then3 c d = c := if_neg h
theorem Ord3.lex {α : Type} {c d : α → α → Int} (h : Ord3 c) (g : Ord3 d) : Ord3 fun a b => then3 (c a b) (d a b) := by
  refine ⟨fun a b => ?_, fun a b => ?_, fun a b e h1 h2 => ?_⟩
  · have hn := h.neg a b
    by_cases h0 : c a b = 0
    · rw [hn, h0, show (-0 : Int) = 0 from rfl, then3_zero, then3_zero, g.neg a b]
    · rw [then3_ne h0, then3_ne (by omega), hn]
  · by_cases h0 : c a b = 0
    · rw [h0, then3_zero]; exact g.rng a b
    · rw [then3_ne h0]; exact h.rng a b
  · by_cases p : c a b = 0
    · by_cases q : c b e = 0
      · have t1 := h.trans a b e (by omega) (by omega)
        have t2 := h.trans e b a (by rw [h.neg b e]; omega) (by rw [h.neg a b]; omega)
        have t3 := h.neg a e
        have r : c a e = 0 := by omega
        rw [p, then3_zero] at h1 ⊢
        rw [q, then3_zero] at h2 ⊢
        rw [r, then3_zero]
        exact g.trans a b e h1 h2
      · rw [then3_ne q] at h2
        have t1 := h.trans a b e (by omega) h2
        have r : c a e < 0 := t1.2 (by omega)
        rw [then3_ne (by omega : c a e ≠ 0)]
        exact ⟨by omega, fun _ => r⟩
    · rw [then3_ne p] at h1
      have hq : c b e ≤ 0 := by
        by_cases q : c b e = 0
        · omega
        · rw [then3_ne q] at h2; exact h2
      have t1 := h.trans a b e h1 hq
      have r : c a e < 0 := t1.2 (by omega)
      rw [then3_ne (by omega : c a e ≠ 0)]
      exact ⟨by omega, fun _ => r⟩

def cmpI (a b : Int) : Int := if a < b then -1 else if b < a then 1 else 0
theorem cmpI_ord {α : Type} (f : α → Int) : Ord3 fun a b => cmpI (f a) (f b) := by
  refine ⟨fun a b => ?_, fun a b => ?_, fun a b e h1 h2 => ?_⟩
  · unfold cmpI; split <;> split <;> omega
  · unfold cmpI; split
    · exact .inl rfl
    · split
      · exact .inr (.inr rfl)
      · exact .inr (.inl rfl)
  · unfold cmpI at *
    split at h1 <;> split at h2 <;> (try split at h1) <;> (try split at h2) <;> (split <;> (try split) <;> omega)
theorem cmpI_zero (a b : Int) : cmpI a b = 0 ↔ a = b := by
  unfold cmpI; split
  · omega
  · split <;> omega
def cmpS (a b : List UInt8) : Int := if blt a b = true then -1 else if blt b a = true then 1 else 0
theorem cmpS_lt {a b : List UInt8} (h : blt a b = true) : cmpS a b = -1 := if_pos h
theorem cmpS_gt {a b : List UInt8} (h : blt b a = true) : cmpS a b = 1 := by
  unfold cmpS
  rw [if_neg (by rw [blt_asymm h]; simp), if_pos h]
theorem cmpS_self (a : List UInt8) : cmpS a a = 0 := by
  unfold cmpS
  rw [blt_self]; rfl
theorem cmpS_zero (a b : List UInt8) : cmpS a b = 0 ↔ a = b := by
  rcases blt_tri a b with h | rfl | h
  · rw [cmpS_lt h]
    constructor
    · intro h; cases h
    · rintro rfl; rw [blt_self] at h; cases h
  · simp [cmpS_self]
  · rw [cmpS_gt h]
    constructor
    · intro h; cases h
    · rintro rfl; rw [blt_self] at h; cases h
theorem cmpS_le {a b : List UInt8} (h : cmpS a b ≤ 0) : blt a b = true ∨ a = b := by
  rcases blt_tri a b with g | g | g
  · exact .inl g
  · exact .inr g
  · rw [cmpS_gt g] at h; omega
theorem cmpS_ord {α : Type} (f : α → List UInt8) : Ord3 fun a b => cmpS (f a) (f b) := by
  refine ⟨fun a b => ?_, fun a b => ?_, fun a b e h1 h2 => ?_⟩
  · rcases blt_tri (f a) (f b) with h | h | h
    · rw [cmpS_lt h, cmpS_gt h]; rfl
    · rw [h, cmpS_self]; rfl
    · rw [cmpS_lt h, cmpS_gt h]
  · rcases blt_tri (f a) (f b) with h | h | h
    · exact .inl (cmpS_lt h)
    · rw [h, cmpS_self]; exact .inr (.inl rfl)
    · exact .inr (.inr (cmpS_gt h))
  · rcases cmpS_le h1 with g1 | g1
    · rcases cmpS_le h2 with g2 | g2
      · rw [cmpS_lt (blt_trans g1 g2)]; exact ⟨by omega, fun _ => by omega⟩
      · rw [← g2, cmpS_lt g1]; exact ⟨by omega, fun _ => by omega⟩
    · rw [g1, cmpS_self]
      exact ⟨h2, fun h => by omega⟩

/-- Which of two values is ahead. -/
def cmpV (a b : V) : Int := then3 (cmpI a.k b.k) (then3 (cmpI a.n b.n) (cmpS a.s.data.toList b.s.data.toList))
theorem cmpV_ord : Ord3 cmpV := (cmpI_ord V.k).lex ((cmpI_ord V.n).lex (cmpS_ord fun v : V => v.s.data.toList))
theorem ba_list {a b : ByteArray} (h : a.data.toList = b.data.toList) : a = b := ByteArray.ext (Array.toList_inj.1 h)
theorem cmpV_zero (a b : V) : cmpV a b = 0 ↔ a = b := by
  obtain ⟨k, n, s⟩ := a
  obtain ⟨k', n', s'⟩ := b
  unfold cmpV
  constructor
  · intro h
    by_cases h1 : cmpI k k' = 0
    · simp only [h1, then3_zero] at h
      by_cases h2 : cmpI n n' = 0
      · simp only [h2, then3_zero] at h
        rw [(cmpI_zero _ _).1 h1, (cmpI_zero _ _).1 h2, ba_list ((cmpS_zero _ _).1 h)]
      · simp only [then3_ne h2] at h
        exact absurd h h2
    · simp only [then3_ne h1] at h
      exact absurd h h1
  · intro h
    injection h with h1 h2 h3
    subst h1 h2 h3
    simp [(cmpI_zero _ _).2 rfl, cmpS_self, then3_zero]

section
variable {k k' n n' : Int} {s s' : ByteArray}
theorem cmp_k_lt (h : k < k') : cmpV ⟨k, n, s⟩ ⟨k', n', s'⟩ = -1 := by simp [cmpV, cmpI, then3, h]
theorem cmp_k_gt (h : k' < k) : cmpV ⟨k, n, s⟩ ⟨k', n', s'⟩ = 1 := by simp [cmpV, cmpI, then3, h, show ¬ k < k' by omega]
theorem cmp_n_lt (h : n < n') : cmpV ⟨k, n, s⟩ ⟨k, n', s'⟩ = -1 := by simp [cmpV, cmpI, then3, h]
theorem cmp_n_gt (h : n' < n) : cmpV ⟨k, n, s⟩ ⟨k, n', s'⟩ = 1 := by simp [cmpV, cmpI, then3, h, show ¬ n < n' by omega]
theorem cmp_s (k n : Int) (s s' : ByteArray) : cmpV ⟨k, n, s⟩ ⟨k, n, s'⟩ = cmpS s.data.toList s'.data.toList := by simp [cmpV, cmpI, then3]
end

/-! ### variables -/
abbrev VN := ByteArray × V
def hasL (l : List VN) (name : ByteArray) : Bool := l.any fun y => decide (y.1 = name)
def getL : List VN → ByteArray → Option V
  | [], _ => none
  | y :: l, name => if y.1 = name then some y.2 else getL l name
def putL : List VN → VN → List VN
  | [], _ => []
  | y :: l, x => if y.1 = x.1 then x :: l else y :: putL l x
def insL : List VN → VN → List VN
  | [], x => [x]
  | y :: l, x => if blt x.1.data.toList y.1.data.toList = true then x :: y :: l else y :: insL l x
def setL (l : List VN) (x : VN) : List VN := if hasL l x.1 = true then putL l x else insL l x

theorem get_put_same : ∀ (l : List VN) (x : VN), hasL l x.1 = true → getL (putL l x) x.1 = some x.2
  | [], x, h => by cases h
  | y :: l, x, h => by
    unfold putL
    split
    · simp [getL]
    · next hne =>
      have : hasL l x.1 = true := by simpa [hasL, hne] using h
      simp [getL, hne, get_put_same l x this]
theorem get_put_other : ∀ (l : List VN) (x : VN) {name : ByteArray}, name ≠ x.1 → getL (putL l x) name = getL l name
  | [], _, _, _ => rfl
  | y :: l, x, name, h => by
    unfold putL
    split
    · next he =>
      have h1 : ¬ y.1 = name := fun e => h (by rw [← e, he])
      simp [getL, Ne.symm h, h1]
    · simp [getL, get_put_other l x h]
theorem get_ins_same : ∀ (l : List VN) (x : VN), hasL l x.1 = false → getL (insL l x) x.1 = some x.2
  | [], x, _ => by simp [insL, getL]
  | y :: l, x, h => by
    have hne : ¬ y.1 = x.1 := by
      intro e
      simp [hasL, e] at h
    have hl : hasL l x.1 = false := by simpa [hasL, hne] using h
    unfold insL
    split
    · simp [getL]
    · simp [getL, hne, get_ins_same l x hl]
theorem get_ins_other : ∀ (l : List VN) (x : VN) {name : ByteArray}, name ≠ x.1 → getL (insL l x) name = getL l name
  | [], x, _, h => by simp [insL, getL, Ne.symm h]
  | y :: l, x, name, h => by
    unfold insL
    split
    · simp [getL, Ne.symm h]
    · simp [getL, get_ins_other l x h]
theorem get_set_same (l : List VN) (x : VN) : getL (setL l x) x.1 = some x.2 := by
  unfold setL
  split
  · next h => exact get_put_same l x h
  · next h => exact get_ins_same l x (by simpa using h)
theorem get_set_other (l : List VN) (x : VN) {name : ByteArray} (h : name ≠ x.1) : getL (setL l x) name = getL l name := by
  unfold setL
  split
  · exact get_put_other l x h
  · exact get_ins_other l x h
theorem set_len (l : List VN) (x : VN) : (setL l x).length ≤ l.length + 1 := by
  have h1 : ∀ l : List VN, (putL l x).length = l.length := by
    intro l
    induction l with
    | nil => rfl
    | cons y l ih =>
      unfold putL
      split
      · simp
      · simp [ih]
  have h2 : ∀ l : List VN, (insL l x).length = l.length + 1 := by
    intro l
    induction l with
    | nil => rfl
    | cons y l ih =>
      unfold insL
      split
      · simp
      · simp [ih]
  unfold setL
  split
  · rw [h1]; omega
  · rw [h2]; exact Nat.le_refl _
theorem mem_set {l : List VN} {x y : VN} (h : y ∈ setL l x) : y = x ∨ y ∈ l := by
  have h1 : ∀ l : List VN, y ∈ putL l x → y = x ∨ y ∈ l := by
    intro l
    induction l with
    | nil => intro h; cases h
    | cons z l ih =>
      unfold putL
      split
      · intro h
        rcases List.mem_cons.1 h with h | h
        · exact .inl h
        · exact .inr (List.mem_cons_of_mem _ h)
      · intro h
        rcases List.mem_cons.1 h with h | h
        · exact .inr (by rw [h]; exact List.mem_cons_self ..)
        · rcases ih h with h | h
          · exact .inl h
          · exact .inr (List.mem_cons_of_mem _ h)
  have h2 : ∀ l : List VN, y ∈ insL l x → y = x ∨ y ∈ l := by
    intro l
    induction l with
    | nil => intro h; exact .inl (by simpa [insL] using h)
    | cons z l ih =>
      unfold insL
      split
      · intro h
        rcases List.mem_cons.1 h with h | h
        · exact .inl h
        · exact .inr h
      · intro h
        rcases List.mem_cons.1 h with h | h
        · exact .inr (by rw [h]; exact List.mem_cons_self ..)
        · rcases ih h with h | h
          · exact .inl h
          · exact .inr (List.mem_cons_of_mem _ h)
  unfold setL at h
  split at h
  · exact h1 l h
  · exact h2 l h

/-- What is wrong with variables, one by one; ok: which names may be. -/
def varsGo (ok : ByteArray → Bool) : Option ByteArray → List VN → Int
  | _, [] => 0
  | p, x :: l =>
    if ok x.1 = false then 30
    else if (match p with | none => false | some y => !blt y.data.toList x.1.data.toList) = true then 8
    else if rightV x.2 ≠ 0 then rightV x.2
    else varsGo ok (some x.1) l
def varsL (ok : ByteArray → Bool) (l : List VN) : Int := if 8 < l.length then 3 else varsGo ok none l
def Rising (ok : ByteArray → Bool) : Option ByteArray → List VN → Prop
  | _, [] => True
  | p, x :: l => ok x.1 = true ∧ (∀ y, p = some y → blt y.data.toList x.1.data.toList = true) ∧ rightV x.2 = 0 ∧ Rising ok (some x.1) l
theorem vars_rising (ok : ByteArray → Bool) : ∀ (p : Option ByteArray) (l : List VN), varsGo ok p l = 0 ↔ Rising ok p l
  | _, [] => by simp [varsGo, Rising]
  | p, x :: l => by
    unfold varsGo Rising
    rw [← vars_rising ok (some x.1) l]
    cases hok : ok x.1
    · simp
    · cases p with
      | none =>
        by_cases hr : rightV x.2 = 0
        · simp [hr]
        · simp [hr]
      | some y =>
        cases hb : blt y.data.toList x.1.data.toList
        · simp [hb]
        · by_cases hr : rightV x.2 = 0
          · simp [hb, hr]
          · simp [hb, hr]
theorem rising_put {ok : ByteArray → Bool} {x : VN} (h1 : ok x.1 = true) (h2 : rightV x.2 = 0) : ∀ {p : Option ByteArray} {l : List VN}, Rising ok p l → Rising ok p (putL l x)
  | _, [], _ => trivial
  | p, y :: l, ⟨a, b, c, d⟩ => by
    unfold putL
    split
    · next he => exact ⟨h1, fun z hz => by rw [← he]; exact b z hz, h2, by rw [← he]; exact d⟩
    · exact ⟨a, b, c, rising_put h1 h2 d⟩
theorem rising_ins {ok : ByteArray → Bool} {x : VN} (h1 : ok x.1 = true) (h2 : rightV x.2 = 0) : ∀ {p : Option ByteArray} {l : List VN}, hasL l x.1 = false → (∀ y, p = some y → blt y.data.toList x.1.data.toList = true) → Rising ok p l → Rising ok p (insL l x)
  | _, [], _, hp, _ => ⟨h1, hp, h2, trivial⟩
  | p, y :: l, hn, hp, ⟨a, b, c, d⟩ => by
    have hne : ¬ y.1 = x.1 := by
      intro e
      simp [hasL, e] at hn
    have hl : hasL l x.1 = false := by simpa [hasL, hne] using hn
    unfold insL
    split
    · next hb => exact ⟨h1, hp, h2, a, fun z hz => by injection hz with hz; rw [← hz]; exact hb, c, d⟩
    · next hb =>
      refine ⟨a, b, c, rising_ins h1 h2 hl (fun z hz => ?_) d⟩
      injection hz with hz
      rw [← hz]
      rcases blt_tri y.1.data.toList x.1.data.toList with g | g | g
      · exact g
      · exact absurd (ba_list g) hne
      · exact absurd g hb
theorem vars_set {ok : ByteArray → Bool} {l : List VN} {x : VN} (h : varsL ok l = 0) (hx : varsL ok [x] = 0) : varsL ok (setL l x) = 0 ∨ varsL ok (setL l x) = 3 ∧ 8 < (setL l x).length := by
  have hl : ¬ 8 < l.length := by
    intro h8
    rw [varsL, if_pos h8] at h
    cases h
  rw [varsL, if_neg hl, vars_rising] at h
  rw [varsL, if_neg (by simp), vars_rising] at hx
  obtain ⟨h1, _, h2, _⟩ := hx
  by_cases h8 : 8 < (setL l x).length
  · exact .inr ⟨by rw [varsL, if_pos h8], h8⟩
  · left
    rw [varsL, if_neg h8, vars_rising]
    unfold setL
    split
    · exact rising_put h1 h2 h
    · next hh => exact rising_ins h1 h2 (by simpa using hh) (fun _ hy => by cases hy) h
end Go.Proofs.Ytfdiidhilonkoaa
