import Derived.Test.YtidomoibhjgkjaaDoorZC02
import Derived.Test.YtidomoibhjgkjaaDoorZC01
/-
  There and back, one form, and cut off: what is read of what was written, over lists of bytes alone.
-/
namespace Go.Proofs.YtidomoibhjgkjaaDoor

theorem toNat_ofNat_small {m : Nat} (h : m < 256) : (UInt8.ofNat m).toNat = m := by simp; omega

theorem pow_step (i : Nat) : (2 : Nat) ^ (7 * (i + 1)) = 128 * 2 ^ (7 * i) := by
  rw [Nat.mul_add, Nat.pow_add, Nat.mul_comm]

theorem div_pow (m q : Nat) : m % 128 * q + m / 128 * (128 * q) = m * q := by
  have h : m = m % 128 + m / 128 * 128 := by omega
  conv => rhs; rw [h]
  rw [Nat.add_mul, Nat.mul_assoc]

theorem pow_one_le (i : Nat) : 1 ≤ (2 : Nat) ^ (7 * i) := Nat.one_le_two_pow

theorem le_mul_pow (m i : Nat) : m ≤ m * 2 ^ (7 * i) := Nat.le_mul_of_pos_right _ (pow_one_le i)

/-- At the tenth byte there is one bit left. -/
theorem ninth {m : Nat} (h : m * 2 ^ (7 * 9) < 18446744073709551616) : m ≤ 1 := by
  simp only [Nat.reduceMul, Nat.reducePow] at h; omega

theorem nums_un (most : Nat) (r : List UInt8) : ∀ (k m i N : Nat), m ≤ k → i ≤ 9 → m * 2 ^ (7 * i) < 18446744073709551616 → (i = 0 ∨ 0 < m) →
    nums most (un m ++ r) i N = if most < N + m * 2 ^ (7 * i) then (0, 0, 3) else (N + m * 2 ^ (7 * i), i + (un m).length, 0) := by
  intro k
  induction k with
  | zero =>
    intro m i N hk hi hm h0
    have hm0 : m = 0 := by omega
    subst hm0
    have hi0 : i = 0 := by omega
    subst hi0
    rw [un_small (by omega)]
    simp [nums]
  | succ k ih =>
    intro m i N hk hi hm h0
    rcases Nat.lt_or_ge m 128 with h | h
    · rw [un_small h]
      have e : (UInt8.ofNat m).toNat = m := toNat_ofNat_small (by omega)
      rw [List.cons_append, nums, e]
      rw [if_neg (by rintro ⟨rfl, h1⟩; have := ninth hm; omega), if_neg (by omega), if_neg (by omega), Nat.mod_eq_of_lt h]
      rfl
    · rw [un_big h]
      have e : (UInt8.ofNat (m % 128 + 128)).toNat = m % 128 + 128 := toNat_ofNat_small (by omega)
      have h9 : i ≠ 9 := by rintro rfl; have := ninth hm; omega
      rw [List.cons_append, nums, e]
      rw [if_neg (by omega), if_pos (by omega)]
      have hd := div_pow m (2 ^ (7 * i))
      rw [ih (m / 128) (i + 1) _ (by omega) (by omega) (by rw [pow_step]; omega) (by omega), pow_step]
      have e2 : N + (m % 128 + 128) % 128 * 2 ^ (7 * i) + m / 128 * (128 * 2 ^ (7 * i)) = N + m * 2 ^ (7 * i) := by
        rw [show (m % 128 + 128) % 128 = m % 128 from by omega]; omega
      rw [e2, List.length_cons, show i + 1 + (un (m / 128)).length = i + ((un (m / 128)).length + 1) from by omega]

/-- What was written is read again, whatever follows. -/
theorem numOf_un (n most : Nat) (r : List UInt8) (h : n < 18446744073709551616) (hm : n ≤ most) : numOf (un n ++ r) most = (n, (un n).length, 0) := by
  unfold numOf
  rw [nums_un most r n n 0 0 (Nat.le_refl _) (by omega) (by simpa using h) (.inl rfl)]
  simp only [Nat.mul_zero, Nat.pow_zero, Nat.mul_one, Nat.zero_add]
  rw [if_neg (by omega)]

/-- Cut off, it is not. -/
theorem nums_cut (most : Nat) : ∀ (k m i N j : Nat), m ≤ k → i ≤ 9 → m * 2 ^ (7 * i) < 18446744073709551616 → j < (un m).length →
    nums most ((un m).take j) i N = (0, 0, 6) := by
  intro k
  induction k with
  | zero =>
    intro m i N j hk hi hm hj
    have hm0 : m = 0 := by omega
    subst hm0
    rw [un_small (by omega)] at hj ⊢
    have : j = 0 := by simpa using hj
    subst this
    rfl
  | succ k ih =>
    intro m i N j hk hi hm hj
    rcases Nat.lt_or_ge m 128 with h | h
    · rw [un_small h] at hj ⊢
      have : j = 0 := by simpa using hj
      subst this
      rfl
    · rw [un_big h] at hj ⊢
      rcases j with _ | j
      · rfl
      · have e : (UInt8.ofNat (m % 128 + 128)).toNat = m % 128 + 128 := toNat_ofNat_small (by omega)
        have h9 : i ≠ 9 := by rintro rfl; have := ninth hm; omega
        have hd := div_pow m (2 ^ (7 * i))
        rw [List.take_succ_cons, nums, e, if_neg (by omega), if_pos (by omega)]
        exact ih (m / 128) (i + 1) _ j (by omega) (by omega) (by rw [pow_step]; omega) (by simpa using hj)

theorem numOf_cut (n most j : Nat) (h : n < 18446744073709551616) (hj : j < (un n).length) : numOf ((un n).take j) most = (0, 0, 6) :=
  nums_cut most n n 0 0 j (Nat.le_refl _) (by omega) (by simpa using h) hj

/-- What is read as a number is written so. -/
theorem nums_form (most : Nat) : ∀ (l : List UInt8) (i N n s : Nat), nums most l i N = (n, s, 0) → ∃ m, n = N + m * 2 ^ (7 * i) ∧ un m = l.take (s - i) ∧ (0 < i → 0 < m)
  | [], i, N, n, s, h => by simp [nums] at h
  | c :: l, i, N, n, s, h => by
    have hc := c.toNat_lt
    have hs := nums_ok most _ i N n s h
    rw [nums] at h
    split at h
    · simp at h
    · split at h
      · next h128 =>
        obtain ⟨m, h1, h2, h3⟩ := nums_form most l (i + 1) _ n s h
        have hm := h3 (by omega)
        have hs2 := nums_ok most _ _ _ n s h
        refine ⟨c.toNat % 128 + 128 * m, ?_, ?_, by omega⟩
        · rw [h1, pow_step, Nat.add_mul, Nat.add_assoc]
          congr 2
          rw [← Nat.mul_assoc, Nat.mul_comm m 128]
        · rw [un_big (by omega), show (c.toNat % 128 + 128 * m) / 128 = m from by omega, show (c.toNat % 128 + 128 * m) % 128 + 128 = c.toNat from by omega, h2,
            show s - i = (s - (i + 1)) + 1 from by omega, List.take_succ_cons, UInt8.ofNat_toNat]
      · next h128 =>
        split at h
        · simp at h
        · next h0 =>
          split at h
          · simp at h
          · simp only [Prod.mk.injEq, and_true] at h
            obtain ⟨h1, h2⟩ := h
            refine ⟨c.toNat, by rw [← h1, Nat.mod_eq_of_lt (by omega)], ?_, by omega⟩
            rw [un_small (by omega), ← h2, show i + 1 - i = 0 + 1 from by omega, List.take_succ_cons, UInt8.ofNat_toNat]
            rfl

theorem numOf_form (l : List UInt8) (most n s : Nat) (h : numOf l most = (n, s, 0)) : un n = l.take s := by
  obtain ⟨m, h1, h2, _⟩ := nums_form most l 0 0 n s h
  simp only [Nat.mul_zero, Nat.pow_zero, Nat.mul_one, Nat.zero_add] at h1
  rw [h1]
  simpa using h2

end Go.Proofs.YtidomoibhjgkjaaDoor

/-
  There and back, one form, and cut off, for numbers with a sign and for texts, as a Reader tells them.
-/
namespace Go.Proofs.YtidomoibhjgkjaaDoor

theorem zag_zig (n : Int) : zag (zig n) = n := by unfold zag zig; split <;> split <;> omega
theorem zig_zag (m : Nat) : zig (zag m) = m := by unfold zag zig; split <;> split <;> omega
theorem zig_lt (n : Int) (h0 : -9223372036854775808 ≤ n) (h1 : n ≤ 9223372036854775807) : zig n < 18446744073709551616 := by unfold zig; split <;> omega

/-- A number that was written, whatever follows. -/
theorem uintOf_back (n most : Nat) (r : List UInt8) (h : n < 18446744073709551616) (hm : n ≤ most) : uintOf (un n ++ r) 0 most = (n, r, 0) := by
  simp [uintOf, numOf_un n most r h hm]

/-- A text that was written, whatever follows. -/
theorem textOf_back (s r : List UInt8) (h : s.length < 18446744073709551616) : textOf (unText s ++ r) s.length = (s, (unText s).length, 0) := by
  have hq : numOf (unText s ++ r) (s.length : Int).toNat = (s.length, (un s.length).length, 0) := by
    rw [Int.toNat_natCast, unText, List.append_assoc]; exact numOf_un _ _ _ h (Nat.le_refl _)
  unfold textOf
  simp only [hq]
  rw [if_neg (by omega), if_neg (by omega), if_neg (by simp only [unText, List.length_append]; omega)]
  simp [unText]

theorem textOfR_back (s r : List UInt8) (h : s.length < 18446744073709551616) : textOfR (unText s ++ r) 0 s.length = (s, r, 0) := by
  simp [textOfR, textOf_back s r h]

/-- Cut off, it is not read. -/
theorem textOf_cut (s : List UInt8) (k : Nat) (h : s.length < 18446744073709551616) (hk : k < (unText s).length) : textOf ((unText s).take k) s.length = ([], 0, 6) := by
  unfold textOf
  rw [Int.toNat_natCast]
  rcases Nat.lt_or_ge k (un s.length).length with h1 | h1
  · have e : (unText s).take k = (un s.length).take k := by rw [unText, List.take_append_of_le_length (by omega)]
    simp only [e, numOf_cut s.length s.length k h h1]
    rw [if_pos (by omega)]
  · have e : (unText s).take k = un s.length ++ s.take (k - (un s.length).length) := by
      rw [unText, List.take_append, List.take_of_length_le h1]
    have hk2 : k - (un s.length).length < s.length := by simp only [unText, List.length_append] at hk; omega
    simp only [e, numOf_un s.length s.length _ h (Nat.le_refl _)]
    rw [if_neg (by omega), if_neg (by omega), if_pos (by simp only [List.length_append, List.length_take]; omega)]

/-- A number and a text, cut off: reading both ends with what is missing. -/
theorem both_cut (n : Nat) (s : List UInt8) (k : Nat) (hn : n < 18446744073709551616) (h : s.length < 18446744073709551616) (hk : k < (un n ++ unText s).length) :
    (textOfR (uintOf ((un n ++ unText s).take k) 0 n).2.1 (uintOf ((un n ++ unText s).take k) 0 n).2.2 s.length).2.2 = 6 := by
  rcases Nat.lt_or_ge k (un n).length with h1 | h1
  · have e : (un n ++ unText s).take k = (un n).take k := by rw [List.take_append_of_le_length (by omega)]
    rw [e]
    simp [uintOf, numOf_cut n n k hn h1, textOfR]
  · have e : (un n ++ unText s).take k = un n ++ (unText s).take (k - (un n).length) := by rw [List.take_append, List.take_of_length_le h1]
    have hk2 : k - (un n).length < (unText s).length := by simp only [List.length_append] at hk; omega
    rw [e, uintOf_back n n _ hn (Nat.le_refl _)]
    simp [textOfR, textOf_cut s _ h hk2]

/-- What is read as a text is written so. -/
theorem textOf_form (l m : List UInt8) (most : Int) (t : Nat) (h : textOf l most = (m, t, 0)) : unText m = l.take t ∧ 0 < t ∧ t ≤ l.length := by
  obtain ⟨n, s, e, hq, hbad, hok⟩ := numOf_nat l most.toNat
  unfold textOf at h
  simp only [hq] at h
  split at h
  · simp only [Prod.mk.injEq] at h; omega
  · next he =>
    have he0 : e = 0 := by omega
    subst he0
    obtain ⟨b1, b2, b3⟩ := hok rfl
    split at h
    · simp at h
    · split at h
      · simp at h
      · next hl =>
        simp only [Prod.mk.injEq, and_true] at h
        obtain ⟨h1, h2⟩ := h
        have hlen : m.length = n := by rw [← h1, List.length_take, List.length_drop]; omega
        refine ⟨?_, by omega, by omega⟩
        rw [unText, hlen, numOf_form l most.toNat n s hq, ← h1, ← h2, List.take_add]

end Go.Proofs.YtidomoibhjgkjaaDoor

/-
  The bytes of values in plain words, and there and back.
-/
namespace Go.Proofs.YtidomoibhjgkjaaDoor

/-- A value's bytes. -/
def putV (v : V) : List UInt8 := if rightV v ≠ 0 then [] else if v.k = 3 then 3 :: unText v.s.data.toList else UInt8.ofNat v.k.toNat :: unInt v.n
/-- The value that bytes begin with, how many they are, and the error. -/
def endV (v : V) (e : Nat) (n : Nat) : V × Nat × Int := if e ≠ 0 then (V0, 0, (e : Int)) else if rightV v ≠ 0 then (V0, 0, 1) else (v, n, 0)
def takeNum (c : UInt8) (t : List UInt8) : V × Nat × Int := endV ⟨c.toNat, zag (uintOf t 0 maxU).1, ⟨#[]⟩⟩ (uintOf t 0 maxU).2.2 (t.length + 1 - (uintOf t 0 maxU).2.1.length)
def takeText (t : List UInt8) : V × Nat × Int := endV ⟨3, 0, ⟨(textOfR t 0 64).1.toArray⟩⟩ (textOfR t 0 64).2.2 (t.length + 1 - (textOfR t 0 64).2.1.length)
def takeV : List UInt8 → V × Nat × Int
  | [] => (V0, 0, 6)
  | c :: t => if c = 1 ∨ c = 2 then takeNum c t else if c = 3 then takeText t else (V0, 0, 40)

theorem takeV_cons (c : UInt8) (t : List UInt8) : takeV (c :: t) = if c = 1 ∨ c = 2 then takeNum c t else if c = 3 then takeText t else (V0, 0, 40) := rfl

theorem right_kind {v : V} (h : rightV v = 0) : v.k = 1 ∨ v.k = 2 ∨ v.k = 3 := by
  unfold rightV at h
  split at h
  · cases h
  · omega
theorem right_text {v : V} (h : rightV v = 0) (hk : v.k = 3) : v.s.size ≤ 64 ∧ v.n = 0 := by
  unfold rightV at h
  split at h
  · cases h
  · split at h
    · cases h
    · split at h
      · cases h
      · omega
theorem right_empty {v : V} (h : rightV v = 0) (hk : v.k ≠ 3) : v.s.size = 0 := by
  unfold rightV at h
  split at h
  · cases h
  · split at h
    · cases h
    · split at h
      · cases h
      · omega
theorem ba_empty {s : ByteArray} (h : s.size = 0) : s = ⟨#[]⟩ := ba_list (List.eq_nil_of_length_eq_zero h)
theorem put_right {v : V} (h : rightV v = 0) : putV v = if v.k = 3 then 3 :: unText v.s.data.toList else UInt8.ofNat v.k.toNat :: unInt v.n := by
  unfold putV
  rw [if_neg (by simp [h])]
theorem put_wrong {v : V} (h : rightV v ≠ 0) : putV v = [] := if_pos h

theorem textOf_most {s r : List UInt8} (h : s.length ≤ 64) : textOfR (unText s ++ r) 0 64 = (s, r, 0) := by
  have hq : numOf (unText s ++ r) (64 : Int).toNat = (s.length, (un s.length).length, 0) := by
    rw [unText, List.append_assoc]; exact numOf_un _ _ _ (by omega) h
  have e : textOf (unText s ++ r) 64 = (s, (unText s).length, 0) := by
    unfold textOf
    simp only [hq]
    rw [if_neg (by omega), if_neg (by omega), if_neg (by simp only [unText, List.length_append]; omega)]
    simp [unText]
  simp [textOfR, e]

theorem take_put {v : V} (h : rightV v = 0) (h0 : -9223372036854775808 ≤ v.n) (h1 : v.n ≤ 9223372036854775807) (more : List UInt8) : takeV (putV v ++ more) = (v, (putV v).length, 0) := by
  rw [put_right h]
  by_cases hk : v.k = 3
  · rw [if_pos hk]
    obtain ⟨hs, hn⟩ := right_text h hk
    have ht : textOfR (unText v.s.data.toList ++ more) 0 64 = (v.s.data.toList, more, 0) := textOf_most hs
    show takeText (unText v.s.data.toList ++ more) = _
    unfold takeText endV
    rw [ht]
    have e : (⟨3, 0, ⟨v.s.data.toList.toArray⟩⟩ : V) = v := by
      obtain ⟨k, n, s⟩ := v
      simp only at hk hn
      subst hk hn
      rfl
    rw [if_neg (by simp), e, if_neg (by simp [h])]
    simp
    omega
  · rw [if_neg hk]
    have hs := ba_empty (right_empty h hk)
    have hk2 : v.k = 1 ∨ v.k = 2 := by rcases right_kind h with e | e | e <;> omega
    have hu : uintOf (unInt v.n ++ more) 0 maxU = (zig v.n, more, 0) := uintOf_back _ _ _ (zig_lt _ h0 h1) (by have := zig_lt _ h0 h1; unfold maxU; omega)
    have hc : UInt8.ofNat v.k.toNat = 1 ∨ UInt8.ofNat v.k.toNat = 2 := by rcases hk2 with e | e <;> simp [e]
    have hcn : ((UInt8.ofNat v.k.toNat).toNat : Int) = v.k := by rcases hk2 with e | e <;> simp [e]
    rw [List.cons_append, takeV_cons, if_pos hc]
    unfold takeNum endV
    rw [hu, zag_zig, hcn]
    have e : (⟨v.k, v.n, ⟨#[]⟩⟩ : V) = v := by rw [← hs]
    rw [if_neg (by simp), e, if_neg (by simp [h])]
    simp
    omega

theorem endV_ok {v x : V} {e n m : Nat} (h : endV v e n = (x, m, 0)) : e = 0 ∧ rightV v = 0 ∧ x = v ∧ m = n := by
  unfold endV at h
  split at h
  · simp only [Prod.mk.injEq] at h; omega
  · next h1 =>
    split at h
    · simp at h
    · next h2 =>
      simp only [Prod.mk.injEq, and_true] at h
      exact ⟨by omega, by simpa using h2, h.1.symm, h.2.symm⟩
theorem take_form {b : List UInt8} {x : V} {n : Nat} (h : takeV b = (x, n, 0)) : rightV x = 0 ∧ n ≤ b.length ∧ putV x = b.take n := by
  cases b with
  | nil => simp [takeV] at h
  | cons c t =>
    rw [takeV_cons] at h
    split at h
    · next hc =>
      obtain ⟨he, hr, rfl, rfl⟩ := endV_ok h
      obtain ⟨m, s, e, hq, hbad, hok⟩ := numOf_nat t maxU
      have hu : uintOf t 0 maxU = (m, t.drop s, e) := by simp [uintOf, hq]
      rw [hu] at he hr ⊢
      simp only at he hr ⊢
      subst he
      obtain ⟨b1, b2, b3⟩ := hok rfl
      have hl : t.length + 1 - (t.drop s).length = s + 1 := by rw [List.length_drop]; omega
      refine ⟨hr, by rw [hl, List.length_cons]; omega, ?_⟩
      rw [put_right hr, hl, List.take_succ_cons]
      have hk : ¬ ((c.toNat : Int) = 3) := by rcases hc with rfl | rfl <;> decide
      simp only [if_neg hk]
      rw [unInt, zig_zag, numOf_form t maxU m s hq]
      simp
    · split at h
      · next hc3 =>
        subst hc3
        obtain ⟨he, hr, rfl, rfl⟩ := endV_ok h
        obtain ⟨m, s, e, hq⟩ : ∃ m s e, textOf t 64 = (m, s, e) := ⟨_, _, _, rfl⟩
        have hu : textOfR t 0 64 = (m, t.drop s, e) := by simp [textOfR, hq]
        rw [hu] at he hr ⊢
        simp only at he hr ⊢
        subst he
        obtain ⟨b1, b2, b3⟩ := textOf_form t m 64 s hq
        have hl : t.length + 1 - (t.drop s).length = s + 1 := by rw [List.length_drop]; omega
        refine ⟨hr, by rw [hl, List.length_cons]; omega, ?_⟩
        rw [put_right hr, hl, List.take_succ_cons]
        simp only [if_true]
        rw [b1]
      · simp at h
end Go.Proofs.YtidomoibhjgkjaaDoor
