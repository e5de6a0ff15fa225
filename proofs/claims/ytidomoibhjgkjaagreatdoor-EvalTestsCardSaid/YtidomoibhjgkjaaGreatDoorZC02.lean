import Derived.Test.YtidomoibhjgkjaaGreatDoorZC01
import Derived.Laws.NewBlocks
import Derived.Laws.Cover1
/-
  The document's own answers on values: Right, Compare of conductorref04.
-/
namespace Go.Proofs.YtidomoibhjgkjaaGreatDoor
open Go.RowKit

theorem empty_yes {s : ByteArray} (h : s.size = 0) : (!s.toList.isEmpty) = false := by
  rw [ByteArray.toList_eq, List.eq_nil_of_length_eq_zero (show s.data.toList.length = 0 from h)]
  rfl
theorem empty_no {s : ByteArray} (h : s.size ≠ 0) : (!s.toList.isEmpty) = true := by
  rw [ByteArray.toList_eq]
  cases he : s.data.toList with
  | nil => exact absurd (show s.data.toList.length = 0 by rw [he]; rfl) h
  | cons c t => rfl
theorem ret_i64 {a b : Int} (h : a = b) : Ending.returned (.int .i64 a) = .returned (.int .i64 b) := by rw [h]
theorem box_below (w : World) (cs : Array Value) (t : TypeId) : Below w.heap.size w (w.alloc (.cells cs t)) := (Below.refl _ w).alloc (Nat.le_refl _) _

set_option maxHeartbeats 1000000 in
theorem fRight_any (v : V) (w : World) : Calls Tryz.prog 76 #[v.val] w fun r w' => r = .returned (.int .i64 (rightV v)) ∧ Below w.heap.size w w' := by
  obtain ⟨k, n, s⟩ := v
  show Calls Tryz.prog 76 #[.agg #[.int .i64 k, .int .i64 n, .string s]] w _
  by_cases h1 : k < 1
  · have b1 : decide (k < 1) = true := by simpa using h1
    have HV := Lib.hid (show rightV ⟨k, n, s⟩ = 40 from if_pos (.inl h1))
    go_enter Tryz.func76, Tryz.ntmps76
    go_wp2
    go_ret
    rw [HV.out]
    exact ⟨rfl, box_below _ _ _⟩
  · have b1 : decide (k < 1) = false := by simpa using h1
    by_cases h2 : 3 < k
    · have b2 : decide (3 < k) = true := by simpa using h2
      have HV := Lib.hid (show rightV ⟨k, n, s⟩ = 40 from if_pos (.inr h2))
      go_enter Tryz.func76, Tryz.ntmps76
      go_wp2
      go_ret
      rw [HV.out]
      exact ⟨rfl, box_below _ _ _⟩
    · have hk : k = 1 ∨ k = 2 ∨ k = 3 := by omega
      clear h1 h2 b1
      rcases hk with rfl | rfl | rfl
      · by_cases h0 : s.size = 0
        · have b0 := empty_yes h0
          have HV := Lib.hid (show rightV ⟨1, n, s⟩ = 0 by simp [rightV, h0])
          clear h0
          go_enter Tryz.func76, Tryz.ntmps76
          go_wp2
          go_ret
          rw [HV.out]
          exact ⟨rfl, box_below _ _ _⟩
        · have b0 := empty_no h0
          have HV := Lib.hid (show rightV ⟨1, n, s⟩ = 1 by simp [rightV, h0])
          clear h0
          go_enter Tryz.func76, Tryz.ntmps76
          go_wp2
          go_ret
          rw [HV.out]
          exact ⟨rfl, box_below _ _ _⟩
      · by_cases h0 : s.size = 0
        · have b0 := empty_yes h0
          by_cases n0 : n = 0
          · have HV := Lib.hid (show rightV ⟨2, n, s⟩ = 0 by simp [rightV, h0, n0])
            have c0 : (n != 0) = false := by simp [n0]
            clear h0 n0
            go_enter Tryz.func76, Tryz.ntmps76
            go_wp2
            go_ret
            rw [HV.out]
            exact ⟨rfl, box_below _ _ _⟩
          · have c0 : (n != 0) = true := by simp [n0]
            by_cases n1 : n = 1
            · have HV := Lib.hid (show rightV ⟨2, n, s⟩ = 0 by simp [rightV, h0, n1])
              have c1 : (n != 1) = false := by simp [n1]
              clear h0 n0 n1
              go_enter Tryz.func76, Tryz.ntmps76
              go_wp2
              go_ret
              rw [HV.out]
              exact ⟨rfl, box_below _ _ _⟩
            · have HV := Lib.hid (show rightV ⟨2, n, s⟩ = 1 by simp [rightV, h0, n0, n1])
              have c1 : (n != 1) = true := by simp [n1]
              clear h0 n0 n1
              go_enter Tryz.func76, Tryz.ntmps76
              go_wp2
              go_ret
              rw [HV.out]
              exact ⟨rfl, box_below _ _ _⟩
        · have b0 := empty_no h0
          have HV := Lib.hid (show rightV ⟨2, n, s⟩ = 1 by simp [rightV, h0])
          clear h0
          go_enter Tryz.func76, Tryz.ntmps76
          go_wp2
          go_ret
          rw [HV.out]
          exact ⟨rfl, box_below _ _ _⟩
      · by_cases h6 : 64 < s.size
        · have b6 : decide (64 < (s.size : Int)) = true := by rw [decide_eq_true_iff]; omega
          have HV := Lib.hid (show rightV ⟨3, n, s⟩ = 3 by simp [rightV, h6])
          clear h6
          go_enter Tryz.func76, Tryz.ntmps76
          go_wp2
          go_ret
          rw [HV.out]
          exact ⟨rfl, box_below _ _ _⟩
        · have b6 : decide (64 < (s.size : Int)) = false := by rw [decide_eq_false_iff_not]; omega
          by_cases n0 : n = 0
          · have HV := Lib.hid (show rightV ⟨3, n, s⟩ = 0 by simp [rightV, h6, n0])
            have c0 : (n != 0) = false := by simp [n0]
            clear h6 n0
            go_enter Tryz.func76, Tryz.ntmps76
            go_wp2
            go_ret
            rw [HV.out]
            exact ⟨rfl, box_below _ _ _⟩
          · have HV := Lib.hid (show rightV ⟨3, n, s⟩ = 1 by simp [rightV, h6, n0])
            have c0 : (n != 0) = true := by simp [n0]
            clear h6 n0
            go_enter Tryz.func76, Tryz.ntmps76
            go_wp2
            go_ret
            rw [HV.out]
            exact ⟨rfl, box_below _ _ _⟩

end Go.Proofs.YtidomoibhjgkjaaGreatDoor

/-
  The plain functions of package pack, over numbers and lists of bytes: what is written, and what is read. Nothing of Go stands here.
-/
namespace Go.Proofs.YtidomoibhjgkjaaGreatDoor

/-- A number in seven bits a byte. -/
def un (n : Nat) : List UInt8 := if n < 128 then [UInt8.ofNat n] else UInt8.ofNat (n % 128 + 128) :: un (n / 128)
  termination_by n
  decreasing_by omega

theorem un_small {n : Nat} (h : n < 128) : un n = [UInt8.ofNat n] := by rw [un, if_pos h]
theorem un_big {n : Nat} (h : 128 ≤ n) : un n = UInt8.ofNat (n % 128 + 128) :: un (n / 128) := by rw [un, if_neg (by omega)]

theorem un_pos (n : Nat) : 0 < (un n).length := by
  rcases Nat.lt_or_ge n 128 with h | h
  · rw [un_small h]; simp
  · rw [un_big h]; simp

/-- A number below 128^k has at most k bytes, from k = 1 on. -/
theorem un_le (k : Nat) : ∀ n, n < 128 ^ (k + 1) → (un n).length ≤ k + 1 := by
  induction k with
  | zero => intro n h; rw [un_small (by simpa using h)]; simp
  | succ k ih =>
    intro n h
    rcases Nat.lt_or_ge n 128 with h1 | h1
    · rw [un_small h1]; simp
    · rw [un_big h1]
      have := ih (n / 128) (by rw [Nat.div_lt_iff_lt_mul (by omega), ← Nat.pow_succ]; exact h)
      simp only [List.length_cons]; omega

theorem un_ten {n : Nat} (h : n < 18446744073709551616) : (un n).length ≤ 10 :=
  un_le 9 n (Nat.lt_of_lt_of_le h (by decide))

/-- A number has more than k bytes just from 128^k on. -/
theorem un_gt (k : Nat) : ∀ n, k + 1 < (un n).length ↔ 128 ^ (k + 1) ≤ n := by
  induction k with
  | zero =>
    intro n
    rcases Nat.lt_or_ge n 128 with h | h
    · rw [un_small h]; simp; omega
    · rw [un_big h]
      have := un_pos (n / 128)
      simp only [List.length_cons]
      omega
  | succ k ih =>
    intro n
    rcases Nat.lt_or_ge n 128 with h | h
    · rw [un_small h]
      have h2 : 128 ^ 1 ≤ 128 ^ (k + 1 + 1) := Nat.pow_le_pow_right (by omega) (by omega)
      simp; omega
    · rw [un_big h, List.length_cons]
      have := ih (n / 128)
      rw [Nat.le_div_iff_mul_le (by omega), ← Nat.pow_succ] at this
      omega

theorem un_mono {a b : Nat} (h : a ≤ b) : (un a).length ≤ (un b).length := by
  have hp := un_pos a
  have hq := un_pos b
  rcases Nat.lt_or_ge 1 (un a).length with h1 | h1
  · obtain ⟨k, hk⟩ : ∃ k, (un a).length = k + 1 + 1 := ⟨(un a).length - 2, by omega⟩
    have := (un_gt k a).1 (by omega)
    have := (un_gt k b).2 (by omega)
    omega
  · omega

/-- A number with a sign, as one without. -/
def zig (n : Int) : Nat := if n < 0 then (2 * (-1 - n) + 1).toNat else (2 * n).toNat
def unInt (n : Int) : List UInt8 := un (zig n)
def unText (s : List UInt8) : List UInt8 := un s.length ++ s

/-- The number at the front of a list, from place i on: the number, how many bytes it has, and an error. -/
def nums (most : Nat) : List UInt8 → Nat → Nat → Nat × Nat × Nat
  | [], _, _ => (0, 0, 6)
  | c :: l, i, n =>
    if i = 9 ∧ 1 < c.toNat then (0, 0, 9)
    else if 128 ≤ c.toNat then nums most l (i + 1) (n + c.toNat % 128 * 2 ^ (7 * i))
    else if 0 < i ∧ c.toNat = 0 then (0, 0, 8)
    else if most < n + c.toNat % 128 * 2 ^ (7 * i) then (0, 0, 3)
    else (n + c.toNat % 128 * 2 ^ (7 * i), i + 1, 0)

def numOf (l : List UInt8) (most : Nat) : Nat × Nat × Nat := nums most l 0 0

theorem nums_ok (most : Nat) : ∀ (l : List UInt8) (i N n s : Nat), nums most l i N = (n, s, 0) → i < s ∧ s ≤ i + l.length ∧ n ≤ most
  | [], i, N, n, s, h => by simp [nums] at h
  | c :: l, i, N, n, s, h => by
    rw [nums] at h
    split at h
    · simp at h
    · split at h
      · have := nums_ok most l (i + 1) _ n s h
        simp only [List.length_cons]; omega
      · split at h
        · simp at h
        · split at h
          · simp at h
          · simp only [Prod.mk.injEq, and_true] at h
            simp only [List.length_cons]; omega

theorem nums_bad (most : Nat) : ∀ (l : List UInt8) (i N n s e : Nat), nums most l i N = (n, s, e) → e ≠ 0 → n = 0 ∧ s = 0
  | [], i, N, n, s, e, h, he => by simp [nums] at h; omega
  | c :: l, i, N, n, s, e, h, he => by
    rw [nums] at h
    split at h
    · simp at h; omega
    · split at h
      · exact nums_bad most l (i + 1) _ n s e h he
      · split at h
        · simp at h; omega
        · split at h
          · simp at h; omega
          · simp only [Prod.mk.injEq] at h; omega

/-- The text at the front of a list. -/
def textOf (l : List UInt8) (most : Int) : List UInt8 × Nat × Nat :=
  let r := numOf l most.toNat
  if r.2.2 ≠ 0 then ([], 0, r.2.2)
  else if most < 0 then ([], 0, 3)
  else if l.length - r.2.1 < r.1 then ([], 0, 6)
  else ((l.drop r.2.1).take r.1, r.2.1 + r.1, 0)

end Go.Proofs.YtidomoibhjgkjaaGreatDoor

/-
  What package pack writes: Uint, Int, Join, Text, each by a contract over lists of bytes.
-/
namespace Go.Proofs.YtidomoibhjgkjaaGreatDoor
open Go.RowKit

theorem info_byte : (Tryz.prog.info? 5).map (fun i => (i.zero, i.size, i.bytes)) = some (some (.int .u8 0), 1, 1) := by kernel_rfl

theorem byte_nat (m : Nat) (h : m < 256) : ((UInt8.ofNat m).toNat : Int) = (m : Int) := by
  have : (UInt8.ofNat m).toNat = m := by simp; omega
  omega

end Go.Proofs.YtidomoibhjgkjaaGreatDoor

/-
  The number at the front of a slice of bytes: pack's inner function number, by a contract over lists of bytes.
-/
namespace Go.Proofs.YtidomoibhjgkjaaGreatDoor
open Go.RowKit

theorem number_at (l : List UInt8) (k : Nat) (h : k < l.length) : l.drop k = l[k] :: l.drop (k + 1) := List.drop_eq_getElem_cons h

/-- Seven bits more: nothing runs over ahead of the tenth byte, nor at it, where that is at most 1. -/
theorem shift_sum (k N x : Nat) (h9 : k ≤ 9) (hN : N < 2 ^ (7 * k)) (hx : k = 9 → x ≤ 1) :
    IntKind.u64.wrap ((N : Int) + IntKind.u64.wrap ((x : Int) % 128 * 2 ^ (7 * k))) = ((N + x % 128 * 2 ^ (7 * k) : Nat) : Int) ∧ (k ≤ 8 → N + x % 128 * 2 ^ (7 * k) < 2 ^ (7 * (k + 1))) := by
  have hx2 : k < 9 ∨ x ≤ 1 := by
    rcases Nat.lt_or_ge k 9 with h | h
    · exact .inl h
    · exact .inr (hx (by omega))
  clear hx
  rcases (show k = 0 ∨ k = 1 ∨ k = 2 ∨ k = 3 ∨ k = 4 ∨ k = 5 ∨ k = 6 ∨ k = 7 ∨ k = 8 ∨ k = 9 from by omega) with rfl | rfl | rfl | rfl | rfl | rfl | rfl | rfl | rfl | rfl
  all_goals
    simp only [Nat.reduceMul, Nat.reduceAdd, Nat.reducePow, Int.reducePow] at hN ⊢
    rw [IntWalk.u64_in ((x : Int) % 128 * _) ⟨by omega, by omega⟩, IntWalk.u64_in _ ⟨by omega, by omega⟩]
    exact ⟨by omega, by omega⟩

theorem nums_step (most : Nat) (l : List UInt8) (k N : Nat) (h : k < l.length) :
    nums most (l.drop k) k N = if k = 9 ∧ 1 < l[k].toNat then (0, 0, 9) else if 128 ≤ l[k].toNat then nums most (l.drop (k + 1)) (k + 1) (N + l[k].toNat % 128 * 2 ^ (7 * k)) else
      if 0 < k ∧ l[k].toNat = 0 then (0, 0, 8) else if most < N + l[k].toNat % 128 * 2 ^ (7 * k) then (0, 0, 3) else (N + l[k].toNat % 128 * 2 ^ (7 * k), k + 1, 0) := by
  rw [number_at l k h, nums]

theorem ret3 {a a' b b' c c' : Int} (h1 : a = a') (h2 : b = b') (h3 : c = c') : Ending.returned (.tuple #[.int .u64 a, .int .i64 b, .int .i64 c]) = .returned (.tuple #[.int .u64 a', .int .i64 b', .int .i64 c']) := by rw [h1, h2, h3]

end Go.Proofs.YtidomoibhjgkjaaGreatDoor

/-
  What package pack reads: a Reader in memory, and each call on it, by contracts over lists of bytes.
-/
namespace Go.Proofs.YtidomoibhjgkjaaGreatDoor
open Go.RowKit

/-- What End tells. -/
def endOf (l : List UInt8) (e : Nat) : Nat := if e = 0 ∧ 0 < l.length then 10 else e

theorem numOf_nat (l : List UInt8) (most : Nat) : ∃ n s e, numOf l most = (n, s, e) ∧ (e ≠ 0 → n = 0 ∧ s = 0) ∧ (e = 0 → 0 < s ∧ s ≤ l.length ∧ n ≤ most) := by
  obtain ⟨n, s, e, h⟩ : ∃ n s e, numOf l most = (n, s, e) := ⟨_, _, _, rfl⟩
  refine ⟨n, s, e, h, nums_bad most l 0 0 n s e h, fun he => ?_⟩
  subst he
  have := nums_ok most l 0 0 n s h
  omega

/-- What text tells. -/
def TextRet (r : List UInt8 × Nat × Nat) (w : World) (e : Ending) (w' : World) : Prop :=
  e = .returned (.tuple #[.string ⟨r.1.toArray⟩, .int .i64 r.2.1, .int .i64 r.2.2]) ∧ w = w'

theorem grown_refl (w : World) (row : Option Nat) : w.grownBy w row := ⟨rfl, rfl, rfl, Nat.le_refl _, fun _ _ _ => rfl⟩

/-- What Uint of a Reader tells, what is left, and its error. -/
def uintOf (l : List UInt8) (e most : Nat) : Nat × List UInt8 × Nat :=
  if e ≠ 0 then (0, l, e) else ((numOf l most).1, l.drop (numOf l most).2.1, (numOf l most).2.2)

/-- The greatest number without a sign. -/
def maxU : Nat := 18446744073709551615
theorem maxU_eq : maxU = 18446744073709551615 := rfl

theorem uintOf_le (l : List UInt8) (e most : Nat) : (uintOf l e most).1 ≤ most := by
  unfold uintOf
  split
  · exact Nat.zero_le _
  · obtain ⟨n, s, e', hq, hbad, hok⟩ := numOf_nat l most
    rw [hq]
    by_cases he : e' = 0
    · exact (hok he).2.2
    · show n ≤ most
      have := (hbad he).1; omega

/-- The number with a sign of one without. -/
def zag (n : Nat) : Int := if n % 2 = 1 then -1 - ((n / 2 : Nat) : Int) else ((n / 2 : Nat) : Int)

/-- What Byte tells, what is left, and its error. -/
def byteOf (l : List UInt8) (e : Nat) : Nat × List UInt8 × Nat :=
  if e ≠ 0 then (0, l, e) else match l with
    | [] => (0, [], 6)
    | b :: r => (b.toNat, r, 0)

/-- What Text of a Reader tells, what is left, and its error. -/
def textOfR (l : List UInt8) (e : Nat) (most : Int) : List UInt8 × List UInt8 × Nat :=
  if e ≠ 0 then ([], l, e) else ((textOf l most).1, l.drop (textOf l most).2.1, (textOf l most).2.2)

theorem textOf_nat (l : List UInt8) (most : Int) : (textOf l most).2.1 ≤ l.length := by
  unfold textOf
  obtain ⟨n, s, e, hq, hbad, hok⟩ := numOf_nat l most.toNat
  simp only [hq]
  split
  · simp
  · split
    · simp
    · split
      · simp
      · next h1 _ h2 => have := (hok (by omega)).2.1; simp only []; omega

end Go.Proofs.YtidomoibhjgkjaaGreatDoor

/-
  There and back, one form, and cut off: what is read of what was written, over lists of bytes alone.
-/
namespace Go.Proofs.YtidomoibhjgkjaaGreatDoor

theorem toNat_ofNat_small {m : Nat} (h : m < 256) : (UInt8.ofNat m).toNat = m := by simp; omega

theorem pow_step (i : Nat) : (2 : Nat) ^ (7 * (i + 1)) = 128 * 2 ^ (7 * i) := by
  rw [Nat.mul_add, Nat.pow_add, Nat.mul_comm]

theorem div_pow (m q : Nat) : m % 128 * q + m / 128 * (128 * q) = m * q := by
  have h : m = m % 128 + m / 128 * 128 := by omega
  conv => rhs; rw [h]
  rw [Nat.add_mul, Nat.mul_assoc]

theorem pow_one_le (i : Nat) : 1 ≤ (2 : Nat) ^ (7 * i) := Nat.one_le_two_pow

theorem le_mul_pow (m i : Nat) : m ≤ m * 2 ^ (7 * i) := Nat.le_mul_of_pos_right _ (pow_one_le i)

/-- At the tenth byte there is one bit left. -/
theorem ninth {m : Nat} (h : m * 2 ^ (7 * 9) < 18446744073709551616) : m ≤ 1 := by
  simp only [Nat.reduceMul, Nat.reducePow] at h; omega

theorem nums_un (most : Nat) (r : List UInt8) : ∀ (k m i N : Nat), m ≤ k → i ≤ 9 → m * 2 ^ (7 * i) < 18446744073709551616 → (i = 0 ∨ 0 < m) →
    nums most (un m ++ r) i N = if most < N + m * 2 ^ (7 * i) then (0, 0, 3) else (N + m * 2 ^ (7 * i), i + (un m).length, 0) := by
  intro k
  induction k with
  | zero =>
    intro m i N hk hi hm h0
    have hm0 : m = 0 := by omega
    subst hm0
    have hi0 : i = 0 := by omega
    subst hi0
    rw [un_small (by omega)]
    simp [nums]
  | succ k ih =>
    intro m i N hk hi hm h0
    rcases Nat.lt_or_ge m 128 with h | h
    · rw [un_small h]
      have e : (UInt8.ofNat m).toNat = m := toNat_ofNat_small (by omega)
      rw [List.cons_append, nums, e]
      rw [if_neg (by rintro ⟨rfl, h1⟩; have := ninth hm; omega), if_neg (by omega), if_neg (by omega), Nat.mod_eq_of_lt h]
      rfl
    · rw [un_big h]
      have e : (UInt8.ofNat (m % 128 + 128)).toNat = m % 128 + 128 := toNat_ofNat_small (by omega)
      have h9 : i ≠ 9 := by rintro rfl; have := ninth hm; omega
      rw [List.cons_append, nums, e]
      rw [if_neg (by omega), if_pos (by omega)]
      have hd := div_pow m (2 ^ (7 * i))
      rw [ih (m / 128) (i + 1) _ (by omega) (by omega) (by rw [pow_step]; omega) (by omega), pow_step]
      have e2 : N + (m % 128 + 128) % 128 * 2 ^ (7 * i) + m / 128 * (128 * 2 ^ (7 * i)) = N + m * 2 ^ (7 * i) := by
        rw [show (m % 128 + 128) % 128 = m % 128 from by omega]; omega
      rw [e2, List.length_cons, show i + 1 + (un (m / 128)).length = i + ((un (m / 128)).length + 1) from by omega]

/-- What was written is read again, whatever follows. -/
theorem numOf_un (n most : Nat) (r : List UInt8) (h : n < 18446744073709551616) (hm : n ≤ most) : numOf (un n ++ r) most = (n, (un n).length, 0) := by
  unfold numOf
  rw [nums_un most r n n 0 0 (Nat.le_refl _) (by omega) (by simpa using h) (.inl rfl)]
  simp only [Nat.mul_zero, Nat.pow_zero, Nat.mul_one, Nat.zero_add]
  rw [if_neg (by omega)]

/-- Cut off, it is not. -/
theorem nums_cut (most : Nat) : ∀ (k m i N j : Nat), m ≤ k → i ≤ 9 → m * 2 ^ (7 * i) < 18446744073709551616 → j < (un m).length →
    nums most ((un m).take j) i N = (0, 0, 6) := by
  intro k
  induction k with
  | zero =>
    intro m i N j hk hi hm hj
    have hm0 : m = 0 := by omega
    subst hm0
    rw [un_small (by omega)] at hj ⊢
    have : j = 0 := by simpa using hj
    subst this
    rfl
  | succ k ih =>
    intro m i N j hk hi hm hj
    rcases Nat.lt_or_ge m 128 with h | h
    · rw [un_small h] at hj ⊢
      have : j = 0 := by simpa using hj
      subst this
      rfl
    · rw [un_big h] at hj ⊢
      rcases j with _ | j
      · rfl
      · have e : (UInt8.ofNat (m % 128 + 128)).toNat = m % 128 + 128 := toNat_ofNat_small (by omega)
        have h9 : i ≠ 9 := by rintro rfl; have := ninth hm; omega
        have hd := div_pow m (2 ^ (7 * i))
        rw [List.take_succ_cons, nums, e, if_neg (by omega), if_pos (by omega)]
        exact ih (m / 128) (i + 1) _ j (by omega) (by omega) (by rw [pow_step]; omega) (by simpa using hj)

theorem numOf_cut (n most j : Nat) (h : n < 18446744073709551616) (hj : j < (un n).length) : numOf ((un n).take j) most = (0, 0, 6) :=
  nums_cut most n n 0 0 j (Nat.le_refl _) (by omega) (by simpa using h) hj

/-- What is read as a number is written so. -/
theorem nums_form (most : Nat) : ∀ (l : List UInt8) (i N n s : Nat), nums most l i N = (n, s, 0) → ∃ m, n = N + m * 2 ^ (7 * i) ∧ un m = l.take (s - i) ∧ (0 < i → 0 < m)
  | [], i, N, n, s, h => by simp [nums] at h
  | c :: l, i, N, n, s, h => by
    have hc := c.toNat_lt
    have hs := nums_ok most _ i N n s h
    rw [nums] at h
    split at h
    · simp at h
    · split at h
      · next h128 =>
        obtain ⟨m, h1, h2, h3⟩ := nums_form most l (i + 1) _ n s h
        have hm := h3 (by omega)
        have hs2 := nums_ok most _ _ _ n s h
        refine ⟨c.toNat % 128 + 128 * m, ?_, ?_, by omega⟩
        · rw [h1, pow_step, Nat.add_mul, Nat.add_assoc]
          congr 2
          rw [← Nat.mul_assoc, Nat.mul_comm m 128]
        · rw [un_big (by omega), show (c.toNat % 128 + 128 * m) / 128 = m from by omega, show (c.toNat % 128 + 128 * m) % 128 + 128 = c.toNat from by omega, h2,
            show s - i = (s - (i + 1)) + 1 from by omega, List.take_succ_cons, UInt8.ofNat_toNat]
      · next h128 =>
        split at h
        · simp at h
        · next h0 =>
          split at h
          · simp at h
          · simp only [Prod.mk.injEq, and_true] at h
            obtain ⟨h1, h2⟩ := h
            refine ⟨c.toNat, by rw [← h1, Nat.mod_eq_of_lt (by omega)], ?_, by omega⟩
            rw [un_small (by omega), ← h2, show i + 1 - i = 0 + 1 from by omega, List.take_succ_cons, UInt8.ofNat_toNat]
            rfl

theorem numOf_form (l : List UInt8) (most n s : Nat) (h : numOf l most = (n, s, 0)) : un n = l.take s := by
  obtain ⟨m, h1, h2, _⟩ := nums_form most l 0 0 n s h
  simp only [Nat.mul_zero, Nat.pow_zero, Nat.mul_one, Nat.zero_add] at h1
  rw [h1]
  simpa using h2

end Go.Proofs.YtidomoibhjgkjaaGreatDoor

/-
  There and back, one form, and cut off, for numbers with a sign and for texts, as a Reader tells them.
-/
namespace Go.Proofs.YtidomoibhjgkjaaGreatDoor

theorem zag_zig (n : Int) : zag (zig n) = n := by unfold zag zig; split <;> split <;> omega
theorem zig_zag (m : Nat) : zig (zag m) = m := by unfold zag zig; split <;> split <;> omega
theorem zig_lt (n : Int) (h0 : -9223372036854775808 ≤ n) (h1 : n ≤ 9223372036854775807) : zig n < 18446744073709551616 := by unfold zig; split <;> omega

/-- A number that was written, whatever follows. -/
theorem uintOf_back (n most : Nat) (r : List UInt8) (h : n < 18446744073709551616) (hm : n ≤ most) : uintOf (un n ++ r) 0 most = (n, r, 0) := by
  simp [uintOf, numOf_un n most r h hm]

/-- A text that was written, whatever follows. -/
theorem textOf_back (s r : List UInt8) (h : s.length < 18446744073709551616) : textOf (unText s ++ r) s.length = (s, (unText s).length, 0) := by
  have hq : numOf (unText s ++ r) (s.length : Int).toNat = (s.length, (un s.length).length, 0) := by
    rw [Int.toNat_natCast, unText, List.append_assoc]; exact numOf_un _ _ _ h (Nat.le_refl _)
  unfold textOf
  simp only [hq]
  rw [if_neg (by omega), if_neg (by omega), if_neg (by simp only [unText, List.length_append]; omega)]
  simp [unText]

theorem textOfR_back (s r : List UInt8) (h : s.length < 18446744073709551616) : textOfR (unText s ++ r) 0 s.length = (s, r, 0) := by
  simp [textOfR, textOf_back s r h]

/-- Cut off, it is not read. -/
theorem textOf_cut (s : List UInt8) (k : Nat) (h : s.length < 18446744073709551616) (hk : k < (unText s).length) : textOf ((unText s).take k) s.length = ([], 0, 6) := by
  unfold textOf
  rw [Int.toNat_natCast]
  rcases Nat.lt_or_ge k (un s.length).length with h1 | h1
  · have e : (unText s).take k = (un s.length).take k := by rw [unText, List.take_append_of_le_length (by omega)]
    simp only [e, numOf_cut s.length s.length k h h1]
    rw [if_pos (by omega)]
  · have e : (unText s).take k = un s.length ++ s.take (k - (un s.length).length) := by
      rw [unText, List.take_append, List.take_of_length_le h1]
    have hk2 : k - (un s.length).length < s.length := by simp only [unText, List.length_append] at hk; omega
    simp only [e, numOf_un s.length s.length _ h (Nat.le_refl _)]
    rw [if_neg (by omega), if_neg (by omega), if_pos (by simp only [List.length_append, List.length_take]; omega)]

/-- A number and a text, cut off: reading both ends with what is missing. -/
theorem both_cut (n : Nat) (s : List UInt8) (k : Nat) (hn : n < 18446744073709551616) (h : s.length < 18446744073709551616) (hk : k < (un n ++ unText s).length) :
    (textOfR (uintOf ((un n ++ unText s).take k) 0 n).2.1 (uintOf ((un n ++ unText s).take k) 0 n).2.2 s.length).2.2 = 6 := by
  rcases Nat.lt_or_ge k (un n).length with h1 | h1
  · have e : (un n ++ unText s).take k = (un n).take k := by rw [List.take_append_of_le_length (by omega)]
    rw [e]
    simp [uintOf, numOf_cut n n k hn h1, textOfR]
  · have e : (un n ++ unText s).take k = un n ++ (unText s).take (k - (un n).length) := by rw [List.take_append, List.take_of_length_le h1]
    have hk2 : k - (un n).length < (unText s).length := by simp only [List.length_append] at hk; omega
    rw [e, uintOf_back n n _ hn (Nat.le_refl _)]
    simp [textOfR, textOf_cut s _ h hk2]

/-- What is read as a text is written so. -/
theorem textOf_form (l m : List UInt8) (most : Int) (t : Nat) (h : textOf l most = (m, t, 0)) : unText m = l.take t ∧ 0 < t ∧ t ≤ l.length := by
  obtain ⟨n, s, e, hq, hbad, hok⟩ := numOf_nat l most.toNat
  unfold textOf at h
  simp only [hq] at h
  split at h
  · simp only [Prod.mk.injEq] at h; omega
  · next he =>
    have he0 : e = 0 := by omega
    subst he0
    obtain ⟨b1, b2, b3⟩ := hok rfl
    split at h
    · simp at h
    · split at h
      · simp at h
      · next hl =>
        simp only [Prod.mk.injEq, and_true] at h
        obtain ⟨h1, h2⟩ := h
        have hlen : m.length = n := by rw [← h1, List.length_take, List.length_drop]; omega
        refine ⟨?_, by omega, by omega⟩
        rw [unText, hlen, numOf_form l most.toNat n s hq, ← h1, ← h2, List.take_add]

end Go.Proofs.YtidomoibhjgkjaaGreatDoor

/-
  The bytes of values in plain words, and there and back.
-/
namespace Go.Proofs.YtidomoibhjgkjaaGreatDoor

/-- A value's bytes. -/
def putV (v : V) : List UInt8 := if rightV v ≠ 0 then [] else if v.k = 3 then 3 :: unText v.s.data.toList else UInt8.ofNat v.k.toNat :: unInt v.n
/-- The value that bytes begin with, how many they are, and the error. -/
def endV (v : V) (e : Nat) (n : Nat) : V × Nat × Int := if e ≠ 0 then (V0, 0, (e : Int)) else if rightV v ≠ 0 then (V0, 0, 1) else (v, n, 0)
def takeNum (c : UInt8) (t : List UInt8) : V × Nat × Int := endV ⟨c.toNat, zag (uintOf t 0 maxU).1, ⟨#[]⟩⟩ (uintOf t 0 maxU).2.2 (t.length + 1 - (uintOf t 0 maxU).2.1.length)
def takeText (t : List UInt8) : V × Nat × Int := endV ⟨3, 0, ⟨(textOfR t 0 64).1.toArray⟩⟩ (textOfR t 0 64).2.2 (t.length + 1 - (textOfR t 0 64).2.1.length)
def takeV : List UInt8 → V × Nat × Int
  | [] => (V0, 0, 6)
  | c :: t => if c = 1 ∨ c = 2 then takeNum c t else if c = 3 then takeText t else (V0, 0, 40)

theorem takeV_cons (c : UInt8) (t : List UInt8) : takeV (c :: t) = if c = 1 ∨ c = 2 then takeNum c t else if c = 3 then takeText t else (V0, 0, 40) := rfl

theorem right_kind {v : V} (h : rightV v = 0) : v.k = 1 ∨ v.k = 2 ∨ v.k = 3 := by
  unfold rightV at h
  split at h
  · cases h
  · omega
theorem right_text {v : V} (h : rightV v = 0) (hk : v.k = 3) : v.s.size ≤ 64 ∧ v.n = 0 := by
  unfold rightV at h
  split at h
  · cases h
  · split at h
    · cases h
    · split at h
      · cases h
      · omega
theorem right_empty {v : V} (h : rightV v = 0) (hk : v.k ≠ 3) : v.s.size = 0 := by
  unfold rightV at h
  split at h
  · cases h
  · split at h
    · cases h
    · split at h
      · cases h
      · omega
theorem ba_empty {s : ByteArray} (h : s.size = 0) : s = ⟨#[]⟩ := ba_list (List.eq_nil_of_length_eq_zero h)
theorem put_right {v : V} (h : rightV v = 0) : putV v = if v.k = 3 then 3 :: unText v.s.data.toList else UInt8.ofNat v.k.toNat :: unInt v.n := by
  unfold putV
  rw [if_neg (by simp [h])]
theorem put_wrong {v : V} (h : rightV v ≠ 0) : putV v = [] := if_pos h

theorem textOf_most {s r : List UInt8} (h : s.length ≤ 64) : textOfR (unText s ++ r) 0 64 = (s, r, 0) := by
  have hq : numOf (unText s ++ r) (64 : Int).toNat = (s.length, (un s.length).length, 0) := by
    rw [unText, List.append_assoc]; exact numOf_un _ _ _ (by omega) h
  have e : textOf (unText s ++ r) 64 = (s, (unText s).length, 0) := by
    unfold textOf
    simp only [hq]
    rw [if_neg (by omega), if_neg (by omega), if_neg (by simp only [unText, List.length_append]; omega)]
    simp [unText]
  simp [textOfR, e]

theorem take_put {v : V} (h : rightV v = 0) (h0 : -9223372036854775808 ≤ v.n) (h1 : v.n ≤ 9223372036854775807) (more : List UInt8) : takeV (putV v ++ more) = (v, (putV v).length, 0) := by
  rw [put_right h]
  by_cases hk : v.k = 3
  · rw [if_pos hk]
    obtain ⟨hs, hn⟩ := right_text h hk
    have ht : textOfR (unText v.s.data.toList ++ more) 0 64 = (v.s.data.toList, more, 0) := textOf_most hs
    show takeText (unText v.s.data.toList ++ more) = _
    unfold takeText endV
    rw [ht]
    have e : (⟨3, 0, ⟨v.s.data.toList.toArray⟩⟩ : V) = v := by
      obtain ⟨k, n, s⟩ := v
      simp only at hk hn
      subst hk hn
      rfl
    rw [if_neg (by simp), e, if_neg (by simp [h])]
    simp
    omega
  · rw [if_neg hk]
    have hs := ba_empty (right_empty h hk)
    have hk2 : v.k = 1 ∨ v.k = 2 := by rcases right_kind h with e | e | e <;> omega
    have hu : uintOf (unInt v.n ++ more) 0 maxU = (zig v.n, more, 0) := uintOf_back _ _ _ (zig_lt _ h0 h1) (by have := zig_lt _ h0 h1; unfold maxU; omega)
    have hc : UInt8.ofNat v.k.toNat = 1 ∨ UInt8.ofNat v.k.toNat = 2 := by rcases hk2 with e | e <;> simp [e]
    have hcn : ((UInt8.ofNat v.k.toNat).toNat : Int) = v.k := by rcases hk2 with e | e <;> simp [e]
    rw [List.cons_append, takeV_cons, if_pos hc]
    unfold takeNum endV
    rw [hu, zag_zig, hcn]
    have e : (⟨v.k, v.n, ⟨#[]⟩⟩ : V) = v := by rw [← hs]
    rw [if_neg (by simp), e, if_neg (by simp [h])]
    simp
    omega

theorem endV_ok {v x : V} {e n m : Nat} (h : endV v e n = (x, m, 0)) : e = 0 ∧ rightV v = 0 ∧ x = v ∧ m = n := by
  unfold endV at h
  split at h
  · simp only [Prod.mk.injEq] at h; omega
  · next h1 =>
    split at h
    · simp at h
    · next h2 =>
      simp only [Prod.mk.injEq, and_true] at h
      exact ⟨by omega, by simpa using h2, h.1.symm, h.2.symm⟩
theorem take_form {b : List UInt8} {x : V} {n : Nat} (h : takeV b = (x, n, 0)) : rightV x = 0 ∧ n ≤ b.length ∧ putV x = b.take n := by
  cases b with
  | nil => simp [takeV] at h
  | cons c t =>
    rw [takeV_cons] at h
    split at h
    · next hc =>
      obtain ⟨he, hr, rfl, rfl⟩ := endV_ok h
      obtain ⟨m, s, e, hq, hbad, hok⟩ := numOf_nat t maxU
      have hu : uintOf t 0 maxU = (m, t.drop s, e) := by simp [uintOf, hq]
      rw [hu] at he hr ⊢
      simp only at he hr ⊢
      subst he
      obtain ⟨b1, b2, b3⟩ := hok rfl
      have hl : t.length + 1 - (t.drop s).length = s + 1 := by rw [List.length_drop]; omega
      refine ⟨hr, by rw [hl, List.length_cons]; omega, ?_⟩
      rw [put_right hr, hl, List.take_succ_cons]
      have hk : ¬ ((c.toNat : Int) = 3) := by rcases hc with rfl | rfl <;> decide
      simp only [if_neg hk]
      rw [unInt, zig_zag, numOf_form t maxU m s hq]
      simp
    · split at h
      · next hc3 =>
        subst hc3
        obtain ⟨he, hr, rfl, rfl⟩ := endV_ok h
        obtain ⟨m, s, e, hq⟩ : ∃ m s e, textOf t 64 = (m, s, e) := ⟨_, _, _, rfl⟩
        have hu : textOfR t 0 64 = (m, t.drop s, e) := by simp [textOfR, hq]
        rw [hu] at he hr ⊢
        simp only at he hr ⊢
        subst he
        obtain ⟨b1, b2, b3⟩ := textOf_form t m 64 s hq
        have hl : t.length + 1 - (t.drop s).length = s + 1 := by rw [List.length_drop]; omega
        refine ⟨hr, by rw [hl, List.length_cons]; omega, ?_⟩
        rw [put_right hr, hl, List.take_succ_cons]
        simp only [if_true]
        rw [b1]
      · simp at h
end Go.Proofs.YtidomoibhjgkjaaGreatDoor
