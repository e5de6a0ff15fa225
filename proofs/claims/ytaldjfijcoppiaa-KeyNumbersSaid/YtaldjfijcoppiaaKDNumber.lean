/-
  What package key answers: Number.
-/
import Derived.Test.YtaldjfijcoppiaaKDAfter
namespace Go.Proofs.Ytaldjfijcoppiaa
open Go.RowKit

/-- The cells of sixteen digits, of which the last j stand. -/
def digCells (j n : Nat) : Array Value := (List.replicate (16 - j) (Value.int .u8 0) ++ bvs (hexN j n)).toArray
theorem digCells_size {j : Nat} (h : j ≤ 16) (n : Nat) : (digCells j n).size = 16 := by
  unfold digCells
  simp [bvs_length, hex_len]
  omega
theorem digCells_set {j : Nat} (h : j < 16) (n : Nat) : (digCells j n).setIfInBounds (15 - j) (Value.int .u8 ((digB ((n / 16 ^ j) % 16)).toNat : Int)) = digCells (j + 1) n := by
  unfold digCells
  rw [List.setIfInBounds_toArray, hex_front, show 16 - j = (15 - j) + 1 from by omega, show 16 - (j + 1) = 15 - j from by omega, List.replicate_succ', List.append_assoc, List.set_append_right _ _ (by simp)]
  simp [bvs]
theorem made (w : World) : (Instr.makeSlice 49 (.int .i64 16) (.int .i64 16)).run Try.prog w = .ok (.slice (some ⟨w.heap.size, 0, none⟩) 16 16) (w.alloc (.cells #[.int .u8 0, .int .u8 0, .int .u8 0, .int .u8 0, .int .u8 0, .int .u8 0, .int .u8 0, .int .u8 0, .int .u8 0, .int .u8 0, .int .u8 0, .int .u8 0, .int .u8 0, .int .u8 0, .int .u8 0, .int .u8 0] 5)) := by kernel_rfl
theorem lookInt (m : Nat) (w : World) : (Instr.index 9 (.string ⟨#[48, 49, 50, 51, 52, 53, 54, 55, 56, 57, 97, 98, 99, 100, 101, 102]⟩) (.int .u64 ((m : Int) % 16))).run Try.prog w = .ok (.int .u8 ((digB (m % 16)).toNat : Int)) w := by
  rw [show ((m : Int) % 16) = ((m % 16 : Nat) : Int) from by omega]
  exact look_at _ (by omega) w

set_option maxRecDepth 100000 in
set_option maxHeartbeats 2000000 in
theorem number_any : NumberC := by
  intro n w hn
  have hmk := made w
  go_enter Try.func22, Try.ntmps22
  go_wp2
  clear hmk
  go_loopg [0, 6] 16 (fun q m i wr => ∃ j : Nat, j + q = 16 ∧ i = .int .i64 j ∧ m = .int .u64 ((n / 16 ^ j : Nat) : Int) ∧ wr = w.alloc (.cells (digCells j n) 5))
  case atStart => exact ⟨0, by omega, rfl, by simp, rfl⟩
  case round =>
    obtain ⟨j, hk, rfl, rfl, rfl⟩ := hrel
    have HK := Lib.hid hk
    have hdv : n / 16 ^ (j + 1) = n / 16 ^ j / 16 := by rw [Nat.div_div_eq_div_mul, Nat.pow_succ]
    have HD := Lib.hid hdv
    have hle : n / 16 ^ j ≤ n := Nat.div_le_self _ _
    clear hdv
    by_cases hj : j < 16
    · have hlt : decide ((j : Int) < 16) = true := by rw [decide_eq_true_iff]; omega
      have HS := Lib.hid (digCells_set hj n)
      have hsz := digCells_size (j := j) (by omega) n
      have hlook := lookInt (n / 16 ^ j) (w.alloc (.cells (digCells j n) 5))
      have hsub : (15 : Int) - (j : Int) = ((15 - j : Nat) : Int) := by omega
      generalize n / 16 ^ j = m at *
      generalize digCells j n = c at *
      obtain ⟨v, hv⟩ : ∃ v, c[15 - j]? = some v := ⟨c[15 - j]'(by omega), Array.getElem?_eq_getElem (by omega)⟩
      clear hk
      go_wp2
      go_roundg (gk - 1)
      case measure => have := HK.out; omega
      case rel =>
        refine ⟨j + 1, by have := HK.out; omega, by go_num, ?_, ?_⟩
        · rw [HD.out]; go_num
        · rw [← HS.out]
    · have hlt : decide ((j : Int) < 16) = false := by rw [decide_eq_false_iff_not]; omega
      have hj' : j = 16 := by have := HK.out; omega
      subst hj'
      have hcv : (convert 49 9 (.slice (some ⟨w.heap.size, 0, none⟩) 16 16)).run Try.prog (w.alloc (.cells (digCells 16 n) 5)) = .ok (.string ⟨(hexN 16 n).toArray⟩) (w.alloc (.cells (digCells 16 n) 5)) := by
        refine conv_rd (lo := w.heap.size) (hi := w.heap.size + 1) 49 9 5 Try.underlying49 Try.underlying5 Try.underlying9 (by rw [hex_len]) fun _ => ⟨w.heap.size, 0, rfl, Nat.le_refl _, by omega, fun i hi => ?_⟩
        rw [cell_of_row _ w.heap.size _ _ _ (0, 0) (heap_alloc_new w _)]
        rw [hex_len] at hi
        simp [digCells, bvs, hex_len, hi]
      clear hk
      go_wp2
      go_ret
      exact ⟨rfl, (Below.refl _ w).alloc (Nat.le_refl _) _⟩
end Go.Proofs.Ytaldjfijcoppiaa
