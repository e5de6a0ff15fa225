/-
  The plain functions of package pack, over numbers and lists of bytes: what is written, and what is read. Nothing of Go stands here.
-/
namespace Go.Proofs.Ytnfmgcgjinonnaa

/-- A number in seven bits a byte. -/
def un (n : Nat) : List UInt8 := if n < 128 then [UInt8.ofNat n] else UInt8.ofNat (n % 128 + 128) :: un (n / 128)
  termination_by n
  decreasing_by omega

theorem un_small {n : Nat} (h : n < 128) : un n = [UInt8.ofNat n] := by rw [un, if_pos h]
theorem un_big {n : Nat} (h : 128 ≤ n) : un n = UInt8.ofNat (n % 128 + 128) :: un (n / 128) := by rw [un, if_neg (by omega)]

theorem un_pos (n : Nat) : 0 < (un n).length := by
  rcases Nat.lt_or_ge n 128 with h | h
  · rw [un_small h]; simp
  · rw [un_big h]; simp

/-- A number below 128^k has at most k bytes, from k = 1 on. -/
theorem un_le (k : Nat) : ∀ n, n < 128 ^ (k + 1) → (un n).length ≤ k + 1 := by
  induction k with
  | zero => intro n h; rw [un_small (by simpa using h)]; simp
  | succ k ih =>
    intro n h
    rcases Nat.lt_or_ge n 128 with h1 | h1
    · rw [un_small h1]; simp
    · rw [un_big h1]
      have := ih (n / 128) (by rw [Nat.div_lt_iff_lt_mul (by omega), ← Nat.pow_succ]; exact h)
      simp only [List.length_cons]; omega

theorem un_ten {n : Nat} (h : n < 18446744073709551616) : (un n).length ≤ 10 :=
  un_le 9 n (Nat.lt_of_lt_of_le h (by decide))

/-- A number has more than k bytes just from 128^k on. -/
theorem un_gt (k : Nat) : ∀ n, k + 1 < (un n).length ↔ 128 ^ (k + 1) ≤ n := by
  induction k with
  | zero =>
    intro n
    rcases Nat.lt_or_ge n 128 with h | h
    · rw [un_small h]; simp; omega
    · rw [un_big h]
      have := un_pos (n / 128)
      simp only [List.length_cons]
      omega
  | succ k ih =>
    intro n
    rcases Nat.lt_or_ge n 128 with h | h
    · rw [un_small h]
      have h2 : 128 ^ 1 ≤ 128 ^ (k + 1 + 1) := Nat.pow_le_pow_right (by omega) (by omega)
      simp; omega
    · rw [un_big h, List.length_cons]
      have := ih (n / 128)
      rw [Nat.le_div_iff_mul_le (by omega), ← Nat.pow_succ] at this
      omega

theorem un_mono {a b : Nat} (h : a ≤ b) : (un a).length ≤ (un b).length := by
  have hp := un_pos a
  have hq := un_pos b
  rcases Nat.lt_or_ge 1 (un a).length with h1 | h1
  · obtain ⟨k, hk⟩ : ∃ k, (un a).length = k + 1 + 1 := ⟨(un a).length - 2, by omega⟩
    have := (un_gt k a).1 (by omega)
    have := (un_gt k b).2 (by omega)
    omega
  · omega

/-- A number with a sign, as one without. -/
def zig (n : Int) : Nat := if n < 0 then (2 * (-1 - n) + 1).toNat else (2 * n).toNat
def unInt (n : Int) : List UInt8 := un (zig n)
def unText (s : List UInt8) : List UInt8 := un s.length ++ s

/-- The number at the front of a list, from place i on: the number, how many bytes it has, and an error. -/
def nums (most : Nat) : List UInt8 → Nat → Nat → Nat × Nat × Nat
  | [], _, _ => (0, 0, 6)
  | c :: l, i, n =>
    if i = 9 ∧ 1 < c.toNat then (0, 0, 9)
    else if 128 ≤ c.toNat then nums most l (i + 1) (n + c.toNat % 128 * 2 ^ (7 * i))
    else if 0 < i ∧ c.toNat = 0 then (0, 0, 8)
    else if most < n + c.toNat % 128 * 2 ^ (7 * i) then (0, 0, 3)
    else (n + c.toNat % 128 * 2 ^ (7 * i), i + 1, 0)

def numOf (l : List UInt8) (most : Nat) : Nat × Nat × Nat := nums most l 0 0

theorem nums_ok (most : Nat) : ∀ (l : List UInt8) (i N n s : Nat), nums most l i N = (n, s, 0) → i < s ∧ s ≤ i + l.length ∧ n ≤ most
  | [], i, N, n, s, h => by simp [nums] at h
  | c :: l, i, N, n, s, h => by
    rw [nums] at h
    split at h
    · simp at h
    · split at h
      · have := nums_ok most l (i + 1) _ n s h
        simp only [List.length_cons]; omega
      · split at h
        · simp at h
        · split at h
          · simp at h
          · simp only [Prod.mk.injEq, and_true] at h
            simp only [List.length_cons]; omega

theorem nums_bad (most : Nat) : ∀ (l : List UInt8) (i N n s e : Nat), nums most l i N = (n, s, e) → e ≠ 0 → n = 0 ∧ s = 0
  | [], i, N, n, s, e, h, he => by simp [nums] at h; omega
  | c :: l, i, N, n, s, e, h, he => by
    rw [nums] at h
    split at h
    · simp at h; omega
    · split at h
      · exact nums_bad most l (i + 1) _ n s e h he
      · split at h
        · simp at h; omega
        · split at h
          · simp at h; omega
          · simp only [Prod.mk.injEq] at h; omega

/-- The text at the front of a list. -/
def textOf (l : List UInt8) (most : Int) : List UInt8 × Nat × Nat :=
  let r := numOf l most.toNat
  if r.2.2 ≠ 0 then ([], 0, r.2.2)
  else if most < 0 then ([], 0, 3)
  else if l.length - r.2.1 < r.1 then ([], 0, 6)
  else ((l.drop r.2.1).take r.1, r.2.1 + r.1, 0)

end Go.Proofs.Ytnfmgcgjinonnaa
