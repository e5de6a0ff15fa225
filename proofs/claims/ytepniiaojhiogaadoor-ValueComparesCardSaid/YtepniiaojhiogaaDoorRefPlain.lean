/-
  A number is cut off first, and reckoned from its end: the document's own way comes to what package pack reads.
-/
import Derived.Test.YtepniiaojhiogaaDoorPlain2
namespace Go.Proofs.YtepniiaojhiogaaDoor

/-- How many bytes a number has, from place i on, or what is wrong with it. -/
def cuts : List UInt8 → Nat → Nat × Nat
  | [], _ => (0, 6)
  | c :: l, i => if i = 9 ∧ 1 < c.toNat then (0, 9) else if 128 ≤ c.toNat then cuts l (i + 1) else if c.toNat = 0 ∧ 0 < i then (0, 8) else (i + 1, 0)

/-- The number of its bytes. -/
def val : List UInt8 → Nat
  | [] => 0
  | c :: l => c.toNat % 128 + 128 * val l

theorem cuts_ok : ∀ (l : List UInt8) (i s : Nat), cuts l i = (s, 0) → i < s ∧ s ≤ i + l.length
  | [], i, s, h => by simp [cuts] at h
  | c :: l, i, s, h => by
    rw [cuts] at h
    split at h
    · simp at h
    · split at h
      · have := cuts_ok l (i + 1) s h
        simp only [List.length_cons]; omega
      · split at h
        · simp at h
        · simp only [Prod.mk.injEq, and_true] at h
          simp only [List.length_cons]; omega

theorem cuts_bad : ∀ (l : List UInt8) (i s e : Nat), cuts l i = (s, e) → e ≠ 0 → s = 0
  | [], i, s, e, h, he => by simp [cuts] at h; omega
  | c :: l, i, s, e, h, he => by
    rw [cuts] at h
    split at h
    · simp at h; omega
    · split at h
      · exact cuts_bad l (i + 1) s e h he
      · split at h
        · simp at h; omega
        · simp only [Prod.mk.injEq] at h; omega

theorem nums_cuts_bad (most : Nat) : ∀ (l : List UInt8) (i N s e : Nat), cuts l i = (s, e) → e ≠ 0 → nums most l i N = (0, 0, e)
  | [], i, N, s, e, h, he => by simp [cuts] at h; simp [nums, ← h.2]
  | c :: l, i, N, s, e, h, he => by
    rw [cuts] at h
    rw [nums]
    split at h
    · next h1 => rw [if_pos h1]; simp at h; simp [← h.2]
    · next h1 =>
      rw [if_neg h1]
      split at h
      · next h2 => rw [if_pos h2]; exact nums_cuts_bad most l (i + 1) _ s e h he
      · next h2 =>
        rw [if_neg h2]
        split at h
        · next h3 => rw [if_pos ⟨h3.2, h3.1⟩]; simp at h; simp [← h.2]
        · simp only [Prod.mk.injEq] at h; omega

theorem nums_cuts (most : Nat) : ∀ (l : List UInt8) (i N s : Nat), cuts l i = (s, 0) →
    nums most l i N = if most < N + val (l.take (s - i)) * 2 ^ (7 * i) then (0, 0, 3) else (N + val (l.take (s - i)) * 2 ^ (7 * i), s, 0)
  | [], i, N, s, h => by simp [cuts] at h
  | c :: l, i, N, s, h => by
    have hc := c.toNat_lt
    have hk := cuts_ok _ i s h
    rw [cuts] at h
    rw [nums]
    split at h
    · simp at h
    · next h1 =>
      rw [if_neg h1]
      split at h
      · next h2 =>
        have hk2 := cuts_ok _ _ s h
        rw [if_pos h2, nums_cuts most l (i + 1) _ s h]
        have e1 : (c :: l).take (s - i) = c :: l.take (s - (i + 1)) := by rw [show s - i = (s - (i + 1)) + 1 from by omega, List.take_succ_cons]
        have e2 : N + c.toNat % 128 * 2 ^ (7 * i) + val (l.take (s - (i + 1))) * 2 ^ (7 * (i + 1)) = N + val (c :: l.take (s - (i + 1))) * 2 ^ (7 * i) := by
          rw [pow_step, val, Nat.add_mul, Nat.add_assoc]
          congr 2
          rw [← Nat.mul_assoc, Nat.mul_comm (val _) 128]
        rw [e1, e2]
      · next h2 =>
        rw [if_neg h2]
        split at h
        · simp at h
        · next h3 =>
          rw [if_neg (by omega)]
          simp only [Prod.mk.injEq, and_true] at h
          have e1 : (c :: l).take (s - i) = [c] := by rw [← h, show i + 1 - i = 0 + 1 from by omega, List.take_succ_cons]; rfl
          have e2 : val [c] = c.toNat % 128 := by simp [val]
          rw [e1, e2, h]

theorem cuts_val : ∀ (l : List UInt8) (i s : Nat), i ≤ 9 → cuts l i = (s, 0) → val (l.take (s - i)) < 2 ^ (64 - 7 * i)
  | [], i, s, _, h => by simp [cuts] at h
  | c :: l, i, s, h9, h => by
    have hc := c.toNat_lt
    have hk := cuts_ok _ i s h
    rw [cuts] at h
    split at h
    · simp at h
    · next h1 =>
      split at h
      · next h2 =>
        have h8 : i ≤ 8 := by omega
        have hk2 := cuts_ok _ _ s h
        have ih := cuts_val l (i + 1) s (by omega) h
        rw [show s - i = (s - (i + 1)) + 1 from by omega, List.take_succ_cons, val]
        have e1 : (2 : Nat) ^ (64 - 7 * i) = 128 * 2 ^ (64 - 7 * (i + 1)) := by
          rw [show 64 - 7 * i = 7 + (64 - 7 * (i + 1)) from by omega, Nat.pow_add]
        rw [e1]
        have := Nat.mod_lt c.toNat (show 0 < 128 from by omega)
        omega
      · next h2 =>
        split at h
        · simp at h
        · simp only [Prod.mk.injEq, and_true] at h
          rw [← h, show i + 1 - i = 0 + 1 from by omega, List.take_succ_cons]
          have e2 : val (c :: l.take 0) = c.toNat % 128 := by simp [val]
          rw [e2]
          rcases Nat.lt_or_ge i 9 with h8 | h8
          · have : (2 : Nat) ^ 8 ≤ 2 ^ (64 - 7 * i) := Nat.pow_le_pow_right (by omega) (by omega)
            omega
          · have : i = 9 := by omega
            subst this
            simp only [Nat.reduceMul, Nat.reduceSub, Nat.reducePow]
            omega

theorem val_take (l : List UInt8) (s : Nat) (h : cuts l 0 = (s, 0)) : val (l.take s) < 18446744073709551616 := by
  have := cuts_val l 0 s (by omega) h
  simpa using this

/-- What is read up to most, by what is cut off. -/
theorem numOf_cuts (l : List UInt8) (most s e : Nat) (h : cuts l 0 = (s, e)) : numOf l most = if e ≠ 0 then (0, 0, e) else if most < val (l.take s) then (0, 0, 3) else (val (l.take s), s, 0) := by
  unfold numOf
  by_cases he : e = 0
  · subst he
    rw [nums_cuts most l 0 0 s h]
    simp
  · rw [nums_cuts_bad most l 0 0 s e h he, if_pos he]

end Go.Proofs.YtepniiaojhiogaaDoor
