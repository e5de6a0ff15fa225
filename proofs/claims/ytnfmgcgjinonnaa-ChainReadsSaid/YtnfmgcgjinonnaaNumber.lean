/-
  The number at the front of a slice of bytes: pack's inner function number, by a contract over lists of bytes.
-/
import Derived.Test.YtnfmgcgjinonnaaWrite
namespace Go.Proofs.Ytnfmgcgjinonnaa
open Go.RowKit

theorem number_at (l : List UInt8) (k : Nat) (h : k < l.length) : l.drop k = l[k] :: l.drop (k + 1) := List.drop_eq_getElem_cons h

/-- Seven bits more: nothing runs over ahead of the tenth byte, nor at it, where that is at most 1. -/
theorem shift_sum (k N x : Nat) (h9 : k ≤ 9) (hN : N < 2 ^ (7 * k)) (hx : k = 9 → x ≤ 1) :
    IntKind.u64.wrap ((N : Int) + IntKind.u64.wrap ((x : Int) % 128 * 2 ^ (7 * k))) = ((N + x % 128 * 2 ^ (7 * k) : Nat) : Int) ∧ (k ≤ 8 → N + x % 128 * 2 ^ (7 * k) < 2 ^ (7 * (k + 1))) := by
  have hx2 : k < 9 ∨ x ≤ 1 := by
    rcases Nat.lt_or_ge k 9 with h | h
    · exact .inl h
    · exact .inr (hx (by omega))
  clear hx
  rcases (show k = 0 ∨ k = 1 ∨ k = 2 ∨ k = 3 ∨ k = 4 ∨ k = 5 ∨ k = 6 ∨ k = 7 ∨ k = 8 ∨ k = 9 from by omega) with rfl | rfl | rfl | rfl | rfl | rfl | rfl | rfl | rfl | rfl
  all_goals
    simp only [Nat.reduceMul, Nat.reduceAdd, Nat.reducePow, Int.reducePow] at hN ⊢
    rw [IntWalk.u64_in ((x : Int) % 128 * _) ⟨by omega, by omega⟩, IntWalk.u64_in _ ⟨by omega, by omega⟩]
    exact ⟨by omega, by omega⟩

theorem nums_step (most : Nat) (l : List UInt8) (k N : Nat) (h : k < l.length) :
    nums most (l.drop k) k N = if k = 9 ∧ 1 < l[k].toNat then (0, 0, 9) else if 128 ≤ l[k].toNat then nums most (l.drop (k + 1)) (k + 1) (N + l[k].toNat % 128 * 2 ^ (7 * k)) else
      if 0 < k ∧ l[k].toNat = 0 then (0, 0, 8) else if most < N + l[k].toNat % 128 * 2 ^ (7 * k) then (0, 0, 3) else (N + l[k].toNat % 128 * 2 ^ (7 * k), k + 1, 0) := by
  rw [number_at l k h, nums]

theorem ret3 {a a' b b' c c' : Int} (h1 : a = a') (h2 : b = b') (h3 : c = c') : Ending.returned (.tuple #[.int .u64 a, .int .i64 b, .int .i64 c]) = .returned (.tuple #[.int .u64 a', .int .i64 b', .int .i64 c']) := by rw [h1, h2, h3]

end Go.Proofs.Ytnfmgcgjinonnaa
