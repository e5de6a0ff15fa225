/-
  What package pack reads: a Reader in memory, and each call on it, by contracts over lists of bytes.
-/
import Derived.Test.YtnfmgcgjinonnaaNumber
namespace Go.Proofs.Ytnfmgcgjinonnaa
open Go.RowKit

/-- What End tells. -/
def endOf (l : List UInt8) (e : Nat) : Nat := if e = 0 ∧ 0 < l.length then 10 else e

theorem numOf_nat (l : List UInt8) (most : Nat) : ∃ n s e, numOf l most = (n, s, e) ∧ (e ≠ 0 → n = 0 ∧ s = 0) ∧ (e = 0 → 0 < s ∧ s ≤ l.length ∧ n ≤ most) := by
  obtain ⟨n, s, e, h⟩ : ∃ n s e, numOf l most = (n, s, e) := ⟨_, _, _, rfl⟩
  refine ⟨n, s, e, h, nums_bad most l 0 0 n s e h, fun he => ?_⟩
  subst he
  have := nums_ok most l 0 0 n s h
  omega

/-- What text tells. -/
def TextRet (r : List UInt8 × Nat × Nat) (w : World) (e : Ending) (w' : World) : Prop :=
  e = .returned (.tuple #[.string ⟨r.1.toArray⟩, .int .i64 r.2.1, .int .i64 r.2.2]) ∧ w = w'

theorem grown_refl (w : World) (row : Option Nat) : w.grownBy w row := ⟨rfl, rfl, rfl, Nat.le_refl _, fun _ _ _ => rfl⟩

/-- What Uint of a Reader tells, what is left, and its error. -/
def uintOf (l : List UInt8) (e most : Nat) : Nat × List UInt8 × Nat :=
  if e ≠ 0 then (0, l, e) else ((numOf l most).1, l.drop (numOf l most).2.1, (numOf l most).2.2)

/-- The greatest number without a sign. -/
def maxU : Nat := 18446744073709551615
theorem maxU_eq : maxU = 18446744073709551615 := rfl

theorem uintOf_le (l : List UInt8) (e most : Nat) : (uintOf l e most).1 ≤ most := by
  unfold uintOf
  split
  · exact Nat.zero_le _
  · obtain ⟨n, s, e', hq, hbad, hok⟩ := numOf_nat l most
    rw [hq]
    by_cases he : e' = 0
    · exact (hok he).2.2
    · show n ≤ most
      have := (hbad he).1; omega

/-- The number with a sign of one without. -/
def zag (n : Nat) : Int := if n % 2 = 1 then -1 - ((n / 2 : Nat) : Int) else ((n / 2 : Nat) : Int)

/-- What Byte tells, what is left, and its error. -/
def byteOf (l : List UInt8) (e : Nat) : Nat × List UInt8 × Nat :=
  if e ≠ 0 then (0, l, e) else match l with
    | [] => (0, [], 6)
    | b :: r => (b.toNat, r, 0)

/-- What Text of a Reader tells, what is left, and its error. -/
def textOfR (l : List UInt8) (e : Nat) (most : Int) : List UInt8 × List UInt8 × Nat :=
  if e ≠ 0 then ([], l, e) else ((textOf l most).1, l.drop (textOf l most).2.1, (textOf l most).2.2)

theorem textOf_nat (l : List UInt8) (most : Int) : (textOf l most).2.1 ≤ l.length := by
  unfold textOf
  obtain ⟨n, s, e, hq, hbad, hok⟩ := numOf_nat l most.toNat
  simp only [hq]
  split
  · simp
  · split
    · simp
    · split
      · simp
      · next h1 _ h2 => have := (hok (by omega)).2.1; simp only []; omega

end Go.Proofs.Ytnfmgcgjinonnaa
