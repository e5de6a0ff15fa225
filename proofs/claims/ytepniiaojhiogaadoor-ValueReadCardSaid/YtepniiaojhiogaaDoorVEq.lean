/-
  Whether two values are the same, as Go compares them.
-/
import Derived.Test.YtepniiaojhiogaaDoorVCon
namespace Go.Proofs.YtepniiaojhiogaaDoor
open Go.RowKit

/-- Are two values the same? -/
def eqV (a b : V) : Bool := decide (cmpV a b = 0)
theorem eqV_self (a : V) : eqV a a = true := by simp [eqV, (cmpV_zero a a).2 rfl]
theorem eqV_iff {a b : V} : eqV a b = true ↔ a = b := by simp [eqV, cmpV_zero]
theorem eq_in (k n k' n' : Int) (s s' : ByteArray) (w : World) : (Op.equalIn 10000 23 (.agg #[.int .i64 k, .int .i64 n, .string s]) (.agg #[.int .i64 k', .int .i64 n', .string s'])).run Tryd.prog w = .ok (eqV ⟨k, n, s⟩ ⟨k', n', s'⟩) w := by
  simp [go_sem, Tryd.underlying23, Tryd.underlying3, Tryd.underlying2, Tryd.underlying9]
  by_cases h1 : k = k'
  · by_cases h2 : n = n'
    · by_cases h3 : s.toList = s'.toList
      · have : s = s' := by rw [ByteArray.toList_eq, ByteArray.toList_eq] at h3; exact ba_list h3
        subst h1 h2 this
        simp [eqV_self]
      · have e : eqV ⟨k, n, s⟩ ⟨k', n', s'⟩ = false := by
          rw [Bool.eq_false_iff]
          intro h
          have := eqV_iff.1 h
          injection this with _ _ e3
          exact h3 (by rw [e3])
        simp [h1, h2, h3] at *
        simp [e]
    · have e : eqV ⟨k, n, s⟩ ⟨k', n', s'⟩ = false := by
        rw [Bool.eq_false_iff]
        intro h
        have := eqV_iff.1 h
        injection this with _ e2 _
        exact h2 e2
      simp [h1, h2] at *
      simp [e]
  · have e : eqV ⟨k, n, s⟩ ⟨k', n', s'⟩ = false := by
      rw [Bool.eq_false_iff]
      intro h
      have := eqV_iff.1 h
      injection this with e1 _ _
      exact h1 e1
    simp [h1, e]
end Go.Proofs.YtepniiaojhiogaaDoor
