import Derived.Test.YtooegjdppeiccaaZC00
/-
  The plain functions of package pack, over numbers and lists of bytes: what is written, and what is read. Nothing of Go stands here.
-/
namespace Go.Proofs.Ytooegjdppeiccaa

/-- A number in seven bits a byte. -/
def un (n : Nat) : List UInt8 := if n < 128 then [UInt8.ofNat n] else UInt8.ofNat (n % 128 + 128) :: un (n / 128)
  termination_by n
  decreasing_by omega

theorem un_small {n : Nat} (h : n < 128) : un n = [UInt8.ofNat n] := by rw [un, if_pos h]
theorem un_big {n : Nat} (h : 128 ≤ n) : un n = UInt8.ofNat (n % 128 + 128) :: un (n / 128) := by rw [un, if_neg (by omega)]

theorem un_pos (n : Nat) : 0 < (un n).length := by
  rcases Nat.lt_or_ge n 128 with h | h
  · rw [un_small h]; simp
  · rw [un_big h]; simp

/-- A number below 128^k has at most k bytes, from k = 1 on. -/
theorem un_le (k : Nat) : ∀ n, n < 128 ^ (k + 1) → (un n).length ≤ k + 1 := by
  induction k with
  | zero => intro n h; rw [un_small (by simpa using h)]; simp
  | succ k ih =>
    intro n h
    rcases Nat.lt_or_ge n 128 with h1 | h1
    · rw [un_small h1]; simp
    · rw [un_big h1]
      have := ih (n / 128) (by rw [Nat.div_lt_iff_lt_mul (by omega), ← Nat.pow_succ]; exact h)
      simp only [List.length_cons]; omega

theorem un_ten {n : Nat} (h : n < 18446744073709551616) : (un n).length ≤ 10 :=
  un_le 9 n (Nat.lt_of_lt_of_le h (by decide))

/-- A number has more than k bytes just from 128^k on. -/
theorem un_gt (k : Nat) : ∀ n, k + 1 < (un n).length ↔ 128 ^ (k + 1) ≤ n := by
  induction k with
  | zero =>
    intro n
    rcases Nat.lt_or_ge n 128 with h | h
    · rw [un_small h]; simp; omega
    · rw [un_big h]
      have := un_pos (n / 128)
      simp only [List.length_cons]
      omega
  | succ k ih =>
    intro n
    rcases Nat.lt_or_ge n 128 with h | h
    · rw [un_small h]
      have h2 : 128 ^ 1 ≤ 128 ^ (k + 1 + 1) := Nat.pow_le_pow_right (by omega) (by omega)
      simp; omega
    · rw [un_big h, List.length_cons]
      have := ih (n / 128)
      rw [Nat.le_div_iff_mul_le (by omega), ← Nat.pow_succ] at this
      omega

theorem un_mono {a b : Nat} (h : a ≤ b) : (un a).length ≤ (un b).length := by
  have hp := un_pos a
  have hq := un_pos b
  rcases Nat.lt_or_ge 1 (un a).length with h1 | h1
  · obtain ⟨k, hk⟩ : ∃ k, (un a).length = k + 1 + 1 := ⟨(un a).length - 2, by omega⟩
    have := (un_gt k a).1 (by omega)
    have := (un_gt k b).2 (by omega)
    omega
  · omega

/-- A number with a sign, as one without. -/
def zig (n : Int) : Nat := if n < 0 then (2 * (-1 - n) + 1).toNat else (2 * n).toNat
def unInt (n : Int) : List UInt8 := un (zig n)
def unText (s : List UInt8) : List UInt8 := un s.length ++ s

/-- The number at the front of a list, from place i on: the number, how many bytes it has, and an error. -/
def nums (most : Nat) : List UInt8 → Nat → Nat → Nat × Nat × Nat
  | [], _, _ => (0, 0, 6)
  | c :: l, i, n =>
    if i = 9 ∧ 1 < c.toNat then (0, 0, 9)
    else if 128 ≤ c.toNat then nums most l (i + 1) (n + c.toNat % 128 * 2 ^ (7 * i))
    else if 0 < i ∧ c.toNat = 0 then (0, 0, 8)
    else if most < n + c.toNat % 128 * 2 ^ (7 * i) then (0, 0, 3)
    else (n + c.toNat % 128 * 2 ^ (7 * i), i + 1, 0)

def numOf (l : List UInt8) (most : Nat) : Nat × Nat × Nat := nums most l 0 0

theorem nums_ok (most : Nat) : ∀ (l : List UInt8) (i N n s : Nat), nums most l i N = (n, s, 0) → i < s ∧ s ≤ i + l.length ∧ n ≤ most
  | [], i, N, n, s, h => by simp [nums] at h
  | c :: l, i, N, n, s, h => by
    rw [nums] at h
    split at h
    · simp at h
    · split at h
      · have := nums_ok most l (i + 1) _ n s h
        simp only [List.length_cons]; omega
      · split at h
        · simp at h
        · split at h
          · simp at h
          · simp only [Prod.mk.injEq, and_true] at h
            simp only [List.length_cons]; omega

theorem nums_bad (most : Nat) : ∀ (l : List UInt8) (i N n s e : Nat), nums most l i N = (n, s, e) → e ≠ 0 → n = 0 ∧ s = 0
  | [], i, N, n, s, e, h, he => by simp [nums] at h; omega
  | c :: l, i, N, n, s, e, h, he => by
    rw [nums] at h
    split at h
    · simp at h; omega
    · split at h
      · exact nums_bad most l (i + 1) _ n s e h he
      · split at h
        · simp at h; omega
        · split at h
          · simp at h; omega
          · simp only [Prod.mk.injEq] at h; omega

/-- The text at the front of a list. -/
def textOf (l : List UInt8) (most : Int) : List UInt8 × Nat × Nat :=
  let r := numOf l most.toNat
  if r.2.2 ≠ 0 then ([], 0, r.2.2)
  else if most < 0 then ([], 0, 3)
  else if l.length - r.2.1 < r.1 then ([], 0, 6)
  else ((l.drop r.2.1).take r.1, r.2.1 + r.1, 0)

end Go.Proofs.Ytooegjdppeiccaa

/-
  What package pack writes: Uint, Int, Join, Text, each by a contract over lists of bytes.
-/
namespace Go.Proofs.Ytooegjdppeiccaa
open Go.RowKit

theorem info_byte : (Try.prog.info? 5).map (fun i => (i.zero, i.size, i.bytes)) = some (some (.int .u8 0), 1, 1) := by kernel_rfl

theorem byte_nat (m : Nat) (h : m < 256) : ((UInt8.ofNat m).toNat : Int) = (m : Int) := by
  have : (UInt8.ofNat m).toNat = m := by simp; omega
  omega

end Go.Proofs.Ytooegjdppeiccaa

/-
  The number at the front of a slice of bytes: pack's inner function number, by a contract over lists of bytes.
-/
namespace Go.Proofs.Ytooegjdppeiccaa
open Go.RowKit

theorem number_at (l : List UInt8) (k : Nat) (h : k < l.length) : l.drop k = l[k] :: l.drop (k + 1) := List.drop_eq_getElem_cons h

/-- Seven bits more: nothing runs over ahead of the tenth byte, nor at it, where that is at most 1. -/
theorem shift_sum (k N x : Nat) (h9 : k ≤ 9) (hN : N < 2 ^ (7 * k)) (hx : k = 9 → x ≤ 1) :
    IntKind.u64.wrap ((N : Int) + IntKind.u64.wrap ((x : Int) % 128 * 2 ^ (7 * k))) = ((N + x % 128 * 2 ^ (7 * k) : Nat) : Int) ∧ (k ≤ 8 → N + x % 128 * 2 ^ (7 * k) < 2 ^ (7 * (k + 1))) := by
  have hx2 : k < 9 ∨ x ≤ 1 := by
    rcases Nat.lt_or_ge k 9 with h | h
    · exact .inl h
    · exact .inr (hx (by omega))
  clear hx
  rcases (show k = 0 ∨ k = 1 ∨ k = 2 ∨ k = 3 ∨ k = 4 ∨ k = 5 ∨ k = 6 ∨ k = 7 ∨ k = 8 ∨ k = 9 from by omega) with rfl | rfl | rfl | rfl | rfl | rfl | rfl | rfl | rfl | rfl
  all_goals
    simp only [Nat.reduceMul, Nat.reduceAdd, Nat.reducePow, Int.reducePow] at hN ⊢
    rw [IntWalk.u64_in ((x : Int) % 128 * _) ⟨by omega, by omega⟩, IntWalk.u64_in _ ⟨by omega, by omega⟩]
    exact ⟨by omega, by omega⟩

theorem nums_step (most : Nat) (l : List UInt8) (k N : Nat) (h : k < l.length) :
    nums most (l.drop k) k N = if k = 9 ∧ 1 < l[k].toNat then (0, 0, 9) else if 128 ≤ l[k].toNat then nums most (l.drop (k + 1)) (k + 1) (N + l[k].toNat % 128 * 2 ^ (7 * k)) else
      if 0 < k ∧ l[k].toNat = 0 then (0, 0, 8) else if most < N + l[k].toNat % 128 * 2 ^ (7 * k) then (0, 0, 3) else (N + l[k].toNat % 128 * 2 ^ (7 * k), k + 1, 0) := by
  rw [number_at l k h, nums]

theorem ret3 {a a' b b' c c' : Int} (h1 : a = a') (h2 : b = b') (h3 : c = c') : Ending.returned (.tuple #[.int .u64 a, .int .i64 b, .int .i64 c]) = .returned (.tuple #[.int .u64 a', .int .i64 b', .int .i64 c']) := by rw [h1, h2, h3]

end Go.Proofs.Ytooegjdppeiccaa

/-
  What package pack reads: a Reader in memory, and each call on it, by contracts over lists of bytes.
-/
namespace Go.Proofs.Ytooegjdppeiccaa
open Go.RowKit

/-- What End tells. -/
def endOf (l : List UInt8) (e : Nat) : Nat := if e = 0 ∧ 0 < l.length then 10 else e

theorem numOf_nat (l : List UInt8) (most : Nat) : ∃ n s e, numOf l most = (n, s, e) ∧ (e ≠ 0 → n = 0 ∧ s = 0) ∧ (e = 0 → 0 < s ∧ s ≤ l.length ∧ n ≤ most) := by
  obtain ⟨n, s, e, h⟩ : ∃ n s e, numOf l most = (n, s, e) := ⟨_, _, _, rfl⟩
  refine ⟨n, s, e, h, nums_bad most l 0 0 n s e h, fun he => ?_⟩
  subst he
  have := nums_ok most l 0 0 n s h
  omega

/-- What text tells. -/
def TextRet (r : List UInt8 × Nat × Nat) (w : World) (e : Ending) (w' : World) : Prop :=
  e = .returned (.tuple #[.string ⟨r.1.toArray⟩, .int .i64 r.2.1, .int .i64 r.2.2]) ∧ w = w'

theorem grown_refl (w : World) (row : Option Nat) : w.grownBy w row := ⟨rfl, rfl, rfl, Nat.le_refl _, fun _ _ _ => rfl⟩

/-- What Uint of a Reader tells, what is left, and its error. -/
def uintOf (l : List UInt8) (e most : Nat) : Nat × List UInt8 × Nat :=
  if e ≠ 0 then (0, l, e) else ((numOf l most).1, l.drop (numOf l most).2.1, (numOf l most).2.2)

/-- The greatest number without a sign. -/
def maxU : Nat := 18446744073709551615
theorem maxU_eq : maxU = 18446744073709551615 := rfl

theorem uintOf_le (l : List UInt8) (e most : Nat) : (uintOf l e most).1 ≤ most := by
  unfold uintOf
  split
  · exact Nat.zero_le _
  · obtain ⟨n, s, e', hq, hbad, hok⟩ := numOf_nat l most
    rw [hq]
    by_cases he : e' = 0
    · exact (hok he).2.2
    · show n ≤ most
      have := (hbad he).1; omega

/-- The number with a sign of one without. -/
def zag (n : Nat) : Int := if n % 2 = 1 then -1 - ((n / 2 : Nat) : Int) else ((n / 2 : Nat) : Int)

/-- What Byte tells, what is left, and its error. -/
def byteOf (l : List UInt8) (e : Nat) : Nat × List UInt8 × Nat :=
  if e ≠ 0 then (0, l, e) else match l with
    | [] => (0, [], 6)
    | b :: r => (b.toNat, r, 0)

/-- What Text of a Reader tells, what is left, and its error. -/
def textOfR (l : List UInt8) (e : Nat) (most : Int) : List UInt8 × List UInt8 × Nat :=
  if e ≠ 0 then ([], l, e) else ((textOf l most).1, l.drop (textOf l most).2.1, (textOf l most).2.2)

theorem textOf_nat (l : List UInt8) (most : Int) : (textOf l most).2.1 ≤ l.length := by
  unfold textOf
  obtain ⟨n, s, e, hq, hbad, hok⟩ := numOf_nat l most.toNat
  simp only [hq]
  split
  · simp
  · split
    · simp
    · split
      · simp
      · next h1 _ h2 => have := (hok (by omega)).2.1; simp only []; omega

end Go.Proofs.Ytooegjdppeiccaa

/-
  The chapter's examples: the law's own function live answers true, and changes nothing that was there.
-/
namespace Go.Proofs.Ytooegjdppeiccaa
open Go.RowKit

theorem un_300 : un 300 = [172, 2] := by
  rw [un_big (by omega), un_small (by omega)]; rfl
theorem unInt_m1 : unInt (-1) = [1] := by
  have : zig (-1) = 1 := by decide
  rw [unInt, this, un_small (by omega)]; rfl
theorem unText_ab : unText [97, 98] = [2, 97, 98] := by
  rw [unText, show ([97, 98] : List UInt8).length = 2 from rfl, un_small (by omega)]; rfl

theorem uintOf_80 : uintOf [128, 0] 0 maxU = (0, [128, 0], 8) := by
  simp [uintOf, numOf, nums]

/-- Two bytes that were built. -/
theorem Rd.twoL (w : World) (e : TypeId) (a b : UInt8) : Rd (w.alloc (.cells #[.int .u8 a.toNat, .int .u8 b.toNat] e)) w.heap.size (w.heap.size + 1) (some ⟨w.heap.size, 0, none⟩) [a, b] := fun _ => by
  refine ⟨w.heap.size, 0, rfl, Nat.le_refl _, by omega, fun j hj => ?_⟩
  rw [cell_of_row _ w.heap.size _ _ e (0, 0) (heap_alloc_new w _)]
  match j, hj with
  | 0, _ => rfl
  | 1, _ => rfl

/-- 'string(b)' of what was just written. -/
theorem conv_ret {w : World} {lo hi c n : Nat} {A : Option Addr} {m : List UInt8} (hn : n = m.length) (hr : Rd w lo hi A m) : (convert 41 9 (.slice A n c)).run Try.prog w = .ok (.string ⟨m.toArray⟩) w :=
  conv_rd 41 9 5 Try.underlying41 Try.underlying5 Try.underlying9 hn hr

end Go.Proofs.Ytooegjdppeiccaa
