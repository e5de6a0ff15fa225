/-
  The chapter's examples: the law's own function live answers true, and changes nothing that was there.
-/
import Derived.Test.YtnfmgcgjinonnaaRead
namespace Go.Proofs.Ytnfmgcgjinonnaa
open Go.RowKit

theorem un_300 : un 300 = [172, 2] := by
  rw [un_big (by omega), un_small (by omega)]; rfl
theorem unInt_m1 : unInt (-1) = [1] := by
  have : zig (-1) = 1 := by decide
  rw [unInt, this, un_small (by omega)]; rfl
theorem unText_ab : unText [97, 98] = [2, 97, 98] := by
  rw [unText, show ([97, 98] : List UInt8).length = 2 from rfl, un_small (by omega)]; rfl

theorem uintOf_80 : uintOf [128, 0] 0 maxU = (0, [128, 0], 8) := by
  simp [uintOf, numOf, nums]

/-- Two bytes that were built. -/
theorem Rd.twoL (w : World) (e : TypeId) (a b : UInt8) : Rd (w.alloc (.cells #[.int .u8 a.toNat, .int .u8 b.toNat] e)) w.heap.size (w.heap.size + 1) (some ⟨w.heap.size, 0, none⟩) [a, b] := fun _ => by
  refine ⟨w.heap.size, 0, rfl, Nat.le_refl _, by omega, fun j hj => ?_⟩
  rw [cell_of_row _ w.heap.size _ _ e (0, 0) (heap_alloc_new w _)]
  match j, hj with
  | 0, _ => rfl
  | 1, _ => rfl

/-- 'string(b)' of what was just written. -/
theorem conv_ret {w : World} {lo hi c n : Nat} {A : Option Addr} {m : List UInt8} (hn : n = m.length) (hr : Rd w lo hi A m) : (convert 28 9 (.slice A n c)).run Try.prog w = .ok (.string ⟨m.toArray⟩) w :=
  conv_rd 28 9 5 Try.underlying28 Try.underlying5 Try.underlying9 hn hr

end Go.Proofs.Ytnfmgcgjinonnaa
