import Derived.WalkKit
set_option linter.unusedVariables false
/-
  Keys in plain words: the bytes of parts, parts of bytes, their order, what lies under some parts, what stands behind all that begin with a text, and sixteen digits of a number.
-/
namespace Go.Proofs.Ytfdiidhilonkoaa

/-! ### the order of texts -/
abbrev blt (a b : List UInt8) : Bool := Op.bytesLess a b

theorem blt_nil (a : List UInt8) : blt a [] = false := by cases a <;> rfl
theorem blt_cons (a b : UInt8) (x y : List UInt8) : blt (a :: x) (b :: y) = (decide (a < b) || (a == b && blt x y)) := rfl
theorem blt_self (a : List UInt8) : blt a a = false := by
  induction a with
  | nil => rfl
  | cons c a ih => simp [blt_cons, ih]
theorem blt_lt {a b : UInt8} {x y : List UInt8} (h : a < b) : blt (a :: x) (b :: y) = true := by simp [blt_cons, h]
theorem blt_gt {a b : UInt8} {x y : List UInt8} (h : b < a) : blt (a :: x) (b :: y) = false := by
  have h1 : ¬ a < b := UInt8.lt_asymm h
  have h2 : (a == b) = false := by
    rw [beq_eq_false_iff_ne]
    intro e
    subst e
    exact UInt8.lt_irrefl _ h
  simp [blt_cons, h1, h2]
theorem blt_eq (a : UInt8) (x y : List UInt8) : blt (a :: x) (a :: y) = blt x y := by simp [blt_cons]
theorem blt_append (p x y : List UInt8) : blt (p ++ x) (p ++ y) = blt x y := by
  induction p with
  | nil => rfl
  | cons c p ih => rw [List.cons_append, List.cons_append, blt_eq, ih]
theorem u8_tri (a b : UInt8) : a < b ∨ a = b ∨ b < a := by
  rcases Nat.lt_trichotomy a.toNat b.toNat with h | h | h
  · exact .inl (UInt8.lt_iff_toNat_lt.2 h)
  · exact .inr (.inl (UInt8.toNat_inj.1 h))
  · exact .inr (.inr (UInt8.lt_iff_toNat_lt.2 h))
theorem blt_tri : ∀ a b : List UInt8, blt a b = true ∨ a = b ∨ blt b a = true
  | [], [] => .inr (.inl rfl)
  | [], _ :: _ => .inl rfl
  | _ :: _, [] => .inr (.inr rfl)
  | a :: x, b :: y => by
    rcases u8_tri a b with h | rfl | h
    · exact .inl (blt_lt h)
    · rw [blt_eq, blt_eq]
      rcases blt_tri x y with h | rfl | h
      · exact .inl h
      · exact .inr (.inl rfl)
      · exact .inr (.inr h)
    · exact .inr (.inr (blt_lt h))
theorem blt_asymm : ∀ {a b : List UInt8}, blt a b = true → blt b a = false
  | _, [], h => by rw [blt_nil] at h; cases h
  | [], _ :: _, _ => rfl
  | a :: x, b :: y, h => by
    rcases u8_tri a b with g | rfl | g
    · exact blt_gt g
    · rw [blt_eq] at h ⊢
      exact blt_asymm h
    · rw [blt_gt g] at h
      cases h

/-! ### parts, and their bytes -/
def encB (c : UInt8) : List UInt8 := if c = 0 then [0, 255] else [c]
def encL (l : List UInt8) : List UInt8 := l.flatMap encB
def encP (l : List UInt8) : List UInt8 := encL l ++ [0, 1]
def encAll (ps : List (List UInt8)) : List UInt8 := ps.flatMap encP
theorem encL_cons (c : UInt8) (l : List UInt8) : encL (c :: l) = encB c ++ encL l := by simp [encL]
theorem encL_snoc (l : List UInt8) (c : UInt8) : encL (l ++ [c]) = encL l ++ encB c := by simp [encL]
theorem encAll_cons (p : List UInt8) (ps : List (List UInt8)) : encAll (p :: ps) = encP p ++ encAll ps := by simp [encAll]
theorem encAll_nil : encAll [] = [] := rfl
theorem encAll_snoc (ps : List (List UInt8)) (p : List UInt8) : encAll (ps ++ [p]) = encAll ps ++ encP p := by simp [encAll]
theorem encP_ne (p r : List UInt8) : encP p ++ r ≠ [] := by simp [encP]
theorem encL_len (l : List UInt8) : (encL l).length ≤ 2 * l.length := by
  induction l with
  | nil => simp [encL]
  | cons c l ih =>
    rw [encL_cons, List.length_append, List.length_cons]
    unfold encB
    split <;> simp <;> omega
theorem encP_len (l : List UInt8) : (encP l).length ≤ 2 * l.length + 2 := by
  have := encL_len l
  simp [encP]
  omega

/-- Two parts that are not the same decide, whatever follows. -/
theorem enc_lt : ∀ {x y : List UInt8} (r s : List UInt8), blt x y = true → blt (encP x ++ r) (encP y ++ s) = true
  | _, [], _, _, h => by rw [blt_nil] at h; cases h
  | [], c :: y, r, s, _ => by
    have e : encP [] ++ r = 0 :: 1 :: r := rfl
    rw [e, encP, encL_cons, encB]
    by_cases hc : c = 0
    · rw [if_pos hc]
      show blt (0 :: 1 :: r) (0 :: 255 :: _) = true
      rw [blt_eq]
      exact blt_lt (by decide)
    · rw [if_neg hc]
      refine blt_lt ?_
      rw [UInt8.lt_iff_toNat_lt]
      have : c.toNat ≠ 0 := fun h => hc (UInt8.toNat_inj.1 h)
      show 0 < c.toNat
      omega
  | a :: x, b :: y, r, s, h => by
    rcases u8_tri a b with g | rfl | g
    · rw [encP, encP, encL_cons, encL_cons]
      have hb : b ≠ 0 := by
        rintro rfl
        rw [UInt8.lt_iff_toNat_lt] at g
        exact absurd g (by show ¬ a.toNat < 0; omega)
      rw [show encB b = [b] from if_neg hb]
      by_cases ha : a = 0
      · rw [show encB a = [0, 255] from if_pos ha]
        subst ha
        exact blt_lt g
      · rw [show encB a = [a] from if_neg ha]
        exact blt_lt g
    · rw [blt_eq] at h
      have := enc_lt r s h
      rw [encP, encP] at this
      rw [encP, encP, encL_cons, encL_cons, List.append_assoc, List.append_assoc, List.append_assoc, List.append_assoc, blt_append]
      rw [List.append_assoc, List.append_assoc] at this
      exact this
    · rw [blt_gt g] at h
      cases h

/-- Which list of parts is ahead: -1 the first one, 1 the second one, 0: they are the same. -/
def aheadL : List (List UInt8) → List (List UInt8) → Int
  | [], [] => 0
  | [], _ :: _ => -1
  | _ :: _, [] => 1
  | x :: a, y :: b => if blt x y = true then -1 else if blt y x = true then 1 else aheadL a b

theorem ahead_eq : ∀ {a b : List (List UInt8)}, aheadL a b = 0 → a = b
  | [], [], _ => rfl
  | [], _ :: _, h => by cases h
  | _ :: _, [], h => by cases h
  | x :: a, y :: b, h => by
    unfold aheadL at h
    split at h
    · cases h
    · split at h
      · cases h
      · next h1 h2 =>
        rcases blt_tri x y with g | rfl | g
        · exact absurd g h1
        · rw [ahead_eq h]
        · exact absurd g h2
theorem ahead_lt : ∀ {a b : List (List UInt8)}, aheadL a b = -1 → blt (encAll a) (encAll b) = true
  | [], [], h => by cases h
  | [], y :: b, _ => by
    rw [encAll_cons, encP]
    generalize encL y = e
    cases e <;> rfl
  | _ :: _, [], h => by cases h
  | x :: a, y :: b, h => by
    unfold aheadL at h
    rw [encAll_cons, encAll_cons]
    split at h
    · next h1 => exact enc_lt _ _ h1
    · split at h
      · cases h
      · next h1 h2 =>
        rcases blt_tri x y with g | rfl | g
        · exact absurd g h1
        · rw [blt_append]
          exact ahead_lt h
        · exact absurd g h2
theorem ahead_gt : ∀ {a b : List (List UInt8)}, aheadL a b = 1 → blt (encAll b) (encAll a) = true
  | [], [], h => by cases h
  | [], _ :: _, h => by cases h
  | x :: a, [], _ => by
    rw [encAll_cons, encP]
    generalize encL x = e
    cases e <;> rfl
  | x :: a, y :: b, h => by
    unfold aheadL at h
    rw [encAll_cons, encAll_cons]
    split at h
    · cases h
    · split at h
      · next h1 h2 => exact enc_lt _ _ h2
      · next h1 h2 =>
        rcases blt_tri x y with g | rfl | g
        · exact absurd g h1
        · rw [blt_append]
          exact ahead_gt h
        · exact absurd g h2
theorem ahead_three : ∀ a b : List (List UInt8), aheadL a b = -1 ∨ aheadL a b = 0 ∨ aheadL a b = 1
  | [], [] => .inr (.inl rfl)
  | [], _ :: _ => .inl rfl
  | _ :: _, [] => .inr (.inr rfl)
  | x :: a, y :: b => by
    unfold aheadL
    split
    · exact .inl rfl
    · split
      · exact .inr (.inr rfl)
      · exact ahead_three a b

/-! ### the parts of bytes -/
/-- The first part, and what stands behind. -/
def firstL : List UInt8 → Option (List UInt8 × List UInt8)
  | [] => none
  | [_] => none
  | a :: b :: t => if a = 0 then (if b = 1 then some ([], t) else if b = 255 then (firstL t).map fun x => (0 :: x.1, x.2) else none) else (firstL (b :: t)).map fun x => (a :: x.1, x.2)

theorem first_zero (t : List UInt8) : firstL (0 :: 1 :: t) = some ([], t) := by simp [firstL]
theorem first_ff (t : List UInt8) : firstL (0 :: 255 :: t) = (firstL t).map fun x => (0 :: x.1, x.2) := by simp [firstL]
theorem first_ne {a : UInt8} (h : a ≠ 0) (t : List UInt8) : firstL (a :: t) = (firstL t).map fun x => (a :: x.1, x.2) := by
  cases t with
  | nil => simp [firstL]
  | cons b t => simp [firstL, h]
theorem first_enc (x r : List UInt8) : firstL (encP x ++ r) = some (x, r) := by
  induction x with
  | nil => exact first_zero r
  | cons c x ih =>
    rw [encP, encL_cons, List.append_assoc, List.append_assoc]
    rw [encP, List.append_assoc] at ih
    by_cases hc : c = 0
    · subst hc
      show firstL (0 :: 255 :: (encL x ++ ([0, 1] ++ r))) = _
      rw [first_ff, ih]
      rfl
    · rw [show encB c = [c] from if_neg hc]
      show firstL (c :: (encL x ++ ([0, 1] ++ r))) = _
      rw [first_ne hc, ih]
      rfl
theorem first_some : ∀ (n : Nat) {s x r : List UInt8}, s.length ≤ n → firstL s = some (x, r) → s = encP x ++ r
  | 0, s, _, _, hn, h => by
    obtain rfl : s = [] := List.eq_nil_of_length_eq_zero (by omega)
    cases h
  | _ + 1, [], _, _, _, h => by cases h
  | _ + 1, [_], _, _, _, h => by cases h
  | n + 1, a :: b :: t, x, r, hn, h => by
    by_cases ha : a = 0
    · subst ha
      by_cases h1 : b = 1
      · subst h1
        rw [first_zero] at h
        injection h with h
        injection h with e1 e2
        subst e1 e2
        rfl
      · by_cases h2 : b = 255
        · subst h2
          rw [first_ff] at h
          obtain ⟨⟨o, q⟩, ho, he⟩ := Option.map_eq_some_iff.1 h
          injection he with e1 e2
          subst e1 e2
          rw [first_some n (by simp at hn; omega) ho, encP, encP, encL_cons]
          simp [encB]
        · simp [firstL, h1, h2] at h
    · rw [first_ne ha] at h
      obtain ⟨⟨o, q⟩, ho, he⟩ := Option.map_eq_some_iff.1 h
      injection he with e1 e2
      subst e1 e2
      rw [first_some n (by simp at hn ⊢; omega) ho, encP, encP, encL_cons, show encB a = [a] from if_neg ha]
      simp
theorem first_len {s x r : List UInt8} (h : firstL s = some (x, r)) : r.length < s.length := by
  rw [first_some s.length (Nat.le_refl _) h]
  simp [encP]
  omega

/-- All parts. -/
def partsL : Nat → List UInt8 → Option (List (List UInt8))
  | _, [] => some []
  | 0, _ :: _ => none
  | n + 1, c :: s => (firstL (c :: s)).bind fun x => (partsL n x.2).map fun l => x.1 :: l

theorem parts_enc : ∀ (n : Nat) (ps : List (List UInt8)), (encAll ps).length ≤ n → partsL n (encAll ps) = some ps
  | 0, ps, h => by
    cases ps with
    | nil => rfl
    | cons p ps =>
      rw [encAll_cons, encP] at h
      simp at h
  | n + 1, [], _ => rfl
  | n + 1, p :: ps, h => by
    rw [encAll_cons] at h ⊢
    have hf := first_enc p (encAll ps)
    have hl := first_len hf
    cases hs : encP p ++ encAll ps with
    | nil => exact absurd hs (encP_ne _ _)
    | cons c s =>
      rw [hs] at hf hl h
      show (firstL (c :: s)).bind _ = _
      rw [hf]
      show (partsL n (encAll ps)).map _ = _
      rw [parts_enc n ps (by omega)]
      rfl
theorem parts_some : ∀ (n : Nat) {s : List UInt8} {ps : List (List UInt8)}, partsL n s = some ps → s = encAll ps
  | _, [], ps, h => by
    obtain rfl : ps = [] := by
      unfold partsL at h
      injection h with h
      exact h.symm
    rfl
  | 0, _ :: _, _, h => by cases h
  | n + 1, c :: s, ps, h => by
    change (firstL (c :: s)).bind _ = _ at h
    obtain ⟨⟨x, r⟩, hx, h2⟩ := Option.bind_eq_some_iff.1 h
    obtain ⟨l, hl, rfl⟩ := Option.map_eq_some_iff.1 h2
    rw [encAll_cons, ← parts_some n hl]
    exact first_some _ (Nat.le_refl _) hx
theorem parts_fuel (n : Nat) {s : List UInt8} (h : s.length ≤ n) : partsL n s = partsL s.length s := by
  cases hp : partsL s.length s with
  | some ps =>
    have := parts_some _ hp
    subst this
    exact parts_enc n ps h
  | none =>
    cases hq : partsL n s with
    | none => rfl
    | some ps =>
      have := parts_some _ hq
      subst this
      rw [parts_enc _ ps (Nat.le_refl _)] at hp
      cases hp

theorem enc_inj {a b : List (List UInt8)} (h : encAll a = encAll b) : a = b := by
  have h1 := parts_enc _ a (Nat.le_refl _)
  rw [h, parts_enc _ b (Nat.le_refl _)] at h1
  injection h1 with h1
  exact h1.symm

/-- A key begins with another one's bytes just if its parts begin with the other one's. -/
theorem enc_prefix : ∀ (a b : List (List UInt8)), encAll a <+: encAll b ↔ a <+: b
  | [], b => by simp [encAll_nil]
  | x :: a, [] => by
    rw [encAll_cons, encAll_nil, encP]
    simp
  | x :: a, y :: b => by
    rw [encAll_cons, encAll_cons]
    constructor
    · rintro ⟨t, ht⟩
      have h1 := first_enc x (encAll a ++ t)
      rw [← List.append_assoc, ht, first_enc] at h1
      injection h1 with h1
      injection h1 with e1 e2
      subst e1
      have : a <+: b := (enc_prefix a b).1 ⟨t, e2.symm⟩
      exact List.cons_prefix_cons.2 ⟨rfl, this⟩
    · intro h
      obtain ⟨rfl, h'⟩ := List.cons_prefix_cons.1 h
      obtain ⟨t, ht⟩ := (enc_prefix a b).2 h'
      exact ⟨t, by rw [List.append_assoc, ht]⟩

/-! ### behind all that begin with a text -/
def afterL : List UInt8 → List UInt8
  | [] => []
  | c :: p => if afterL p ≠ [] then c :: afterL p else if c = 255 then [] else [c + 1]

theorem u8_succ {c : UInt8} (h : c ≠ 255) : (c + 1).toNat = c.toNat + 1 := by
  have h1 : c.toNat ≠ 255 := fun e => h (UInt8.toNat_inj.1 e)
  have h2 := c.toNat_lt
  rw [UInt8.toNat_add]
  show (c.toNat + 1) % 256 = _
  omega

/-- From p on, up to ahead of the one behind, lie just the texts that begin with p. -/
theorem after_iff : ∀ (p s : List UInt8), (blt s p = false ∧ (afterL p = [] ∨ blt s (afterL p) = true)) ↔ p <+: s
  | [], s => by simp [blt_nil, afterL]
  | c :: p, [] => by simp [Op.bytesLess]
  | c :: p, d :: s => by
    have ih := after_iff p s
    rw [List.cons_prefix_cons]
    rcases u8_tri d c with h | rfl | h
    · rw [blt_lt h]
      have : c ≠ d := by rintro rfl; exact UInt8.lt_irrefl _ h
      simp [this]
    · rw [blt_eq]
      unfold afterL
      by_cases ha : afterL p = []
      · rw [if_neg (by simpa using ha)]
        rw [ha] at ih
        by_cases hd : d = 255
        · rw [if_pos hd]
          simpa using ih
        · rw [if_neg hd]
          have hlt : d < d + 1 := by
            rw [UInt8.lt_iff_toNat_lt, u8_succ hd]
            omega
          rw [blt_lt hlt]
          simpa using ih
      · rw [if_pos ha, blt_eq]
        simpa [ha] using ih
    · rw [blt_gt h]
      have hne : c ≠ d := by rintro rfl; exact UInt8.lt_irrefl _ h
      unfold afterL
      by_cases ha : afterL p = []
      · rw [if_neg (by simpa using ha)]
        by_cases hc : c = 255
        · subst hc
          rw [UInt8.lt_iff_toNat_lt] at h
          have := d.toNat_lt
          exact absurd h (by show ¬ 255 < d.toNat; omega)
        · rw [if_neg hc]
          have hb : blt (d :: s) [c + 1] = false := by
            rcases u8_tri d (c + 1) with g | rfl | g
            · rw [UInt8.lt_iff_toNat_lt] at g h
              rw [u8_succ hc] at g
              omega
            · rw [blt_eq, blt_nil]
            · exact blt_gt g
          simp [hb, hne]
      · rw [if_pos ha, blt_gt h]
        simp [hne]

/-- As the text is gone over from its end: a last byte that is 255 is left off, another one is raised. -/
theorem after_snoc (p : List UInt8) (c : UInt8) : afterL (p ++ [c]) = if c = 255 then afterL p else p ++ [c + 1] := by
  induction p with
  | nil =>
    by_cases h : c = 255 <;> simp [afterL, h]
  | cons d p ih =>
    rw [List.cons_append]
    unfold afterL
    rw [ih]
    by_cases h : c = 255
    · simp [h]
    · simp [h]

/-! ### sixteen digits -/
def digB (d : Nat) : UInt8 := if d < 10 then UInt8.ofNat (48 + d) else UInt8.ofNat (87 + d)
def hexN : Nat → Nat → List UInt8
  | 0, _ => []
  | k + 1, n => hexN k (n / 16) ++ [digB (n % 16)]

theorem hex_len (k n : Nat) : (hexN k n).length = k := by
  induction k generalizing n with
  | zero => rfl
  | succ k ih => simp [hexN, ih]
theorem digB_lt {a b : Nat} (hb : b < 16) (h : a < b) : digB a < digB b := by
  have : ∀ b : Fin 16, ∀ a : Fin 16, a < b → digB a.val < digB b.val := by decide
  exact this ⟨b, hb⟩ ⟨a, by omega⟩ h
theorem blt_snoc : ∀ (a b : List UInt8) (x y : UInt8), a.length = b.length → blt (a ++ [x]) (b ++ [y]) = (blt a b || (a == b && decide (x < y)))
  | [], [], x, y, _ => by simp [Op.bytesLess]
  | [], _ :: _, _, _, h => by cases h
  | _ :: _, [], _, _, h => by cases h
  | c :: a, d :: b, x, y, h => by
    have ih := blt_snoc a b x y (by simpa using h)
    rw [List.cons_append, List.cons_append, blt_cons, blt_cons, ih]
    rcases u8_tri c d with g | rfl | g
    · simp [g]
    · simp
    · have h1 : ¬ c < d := UInt8.lt_asymm g
      have h2 : (c == d) = false := by
        rw [beq_eq_false_iff_ne]
        rintro rfl
        exact UInt8.lt_irrefl _ g
      simp [h1, h2]
theorem hex_order (k : Nat) : ∀ m n : Nat, m < 16 ^ k → n < 16 ^ k → blt (hexN k m) (hexN k n) = decide (m < n) := by
  induction k with
  | zero =>
    intro m n hm hn
    simp at hm hn
    subst hm hn
    rfl
  | succ k ih =>
    intro m n hm hn
    rw [Nat.pow_succ] at hm hn
    have h1 : m / 16 < 16 ^ k := by omega
    have h2 : n / 16 < 16 ^ k := by omega
    rw [hexN, hexN, blt_snoc _ _ _ _ (by rw [hex_len, hex_len]), ih _ _ h1 h2]
    by_cases e : m / 16 = n / 16
    · rw [e]
      by_cases g : m % 16 < n % 16
      · have : digB (m % 16) < digB (n % 16) := digB_lt (by omega) g
        have hmn : m < n := by omega
        simp [this, hmn]
      · have hmn : ¬ m < n := by omega
        have : ¬ digB (m % 16) < digB (n % 16) := by
          rcases Nat.lt_or_ge (n % 16) (m % 16) with g2 | g2
          · exact UInt8.lt_asymm (digB_lt (by omega) g2)
          · have : m % 16 = n % 16 := by omega
            rw [this]
            exact UInt8.lt_irrefl _
        simp [this, hmn]
    · have hne : (hexN k (m / 16) == hexN k (n / 16)) = false := by
        rw [beq_eq_false_iff_ne]
        intro heq
        have a1 := ih _ _ h1 h2
        have a2 := ih _ _ h2 h1
        rw [heq, blt_self] at a1 a2
        have b1 : ¬ m / 16 < n / 16 := by simpa using a1.symm
        have b2 : ¬ n / 16 < m / 16 := by simpa using a2.symm
        omega
      rw [hne]
      simp
      omega
end Go.Proofs.Ytfdiidhilonkoaa
