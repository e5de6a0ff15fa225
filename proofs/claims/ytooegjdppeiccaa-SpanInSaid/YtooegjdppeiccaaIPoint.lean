/-
  Stretches: the stretch of a key alone, the document's and the program's.
-/
import Derived.Test.YtooegjdppeiccaaIRow
import Derived.Laws.Cover1
namespace Go.Proofs.Ytooegjdppeiccaa
open Go.RowKit

theorem bs_zero (k : List UInt8) : bs k ++ (⟨#[0]⟩ : ByteArray) = bs (k ++ [0]) := by
  apply ByteArray.ext
  simp [bs]
set_option maxRecDepth 100000 in
set_option maxHeartbeats 2000000 in
theorem refPointI_any (k : List UInt8) (w : World) (hk : k.length ≤ 1000000) : Calls Try.prog 32 #[.string (bs k)] w fun r w' => r = .returned (spVal ⟨k, k ++ [0]⟩) ∧ Below w.heap.size w w' := by
  have hz : (bs k).size = k.length := bs_size k
  have hq := bs_zero k
  unfold spVal
  simp only
  generalize bs (k ++ [0]) = K at *
  have HQ := Lib.hid hq
  clear hq
  go_enter Try.func32, Try.ntmps32
  go_wp2
  rw [HQ.out]
  exact bodyPost_ret (v := .agg #[.string (bs k), .string K]) (by simp [results, Try.results32, go_sem]) rfl ⟨rfl, (Below.refl _ w).alloc (Nat.le_refl _) _⟩
set_option maxRecDepth 100000 in
set_option maxHeartbeats 2000000 in
theorem dPoint_any (k : List UInt8) (w : World) (hk : k.length ≤ 1000000) : Calls Try.prog 31 #[.string (bs k)] w fun r w' => r = .returned (spVal ⟨k, k ++ [0]⟩) ∧ Below w.heap.size w w' := by
  have hz : (bs k).size = k.length := bs_size k
  have hq := bs_zero k
  unfold spVal
  simp only
  generalize bs (k ++ [0]) = K at *
  have HQ := Lib.hid hq
  clear hq
  go_enter Try.func31, Try.ntmps31
  go_wp2
  rw [HQ.out]
  exact bodyPost_ret (v := .agg #[.string (bs k), .string K]) (by simp [results, Try.results31, go_sem]) rfl ⟨rfl, (Below.refl _ w).alloc (Nat.le_refl _) _⟩
end Go.Proofs.Ytooegjdppeiccaa
