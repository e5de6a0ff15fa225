/-
  What package key answers: Digits.
-/
import Derived.Test.YtaldjfijcoppiaaKDNumber
import Derived.Laws.StandIn
namespace Go.Proofs.Ytaldjfijcoppiaa
open Go.RowKit

/-- Which digit a byte is; -1: none. -/
def hexAt (c : UInt8) : Int := if digOf c < 16 then (digOf c : Int) else -1
theorem first_hex (c : UInt8) : firstIdx ⟨#[48, 49, 50, 51, 52, 53, 54, 55, 56, 57, 97, 98, 99, 100, 101, 102]⟩ c = hexAt c := by
  have h : ∀ n : Fin 256, firstIdx ⟨#[48, 49, 50, 51, 52, 53, 54, 55, 56, 57, 97, 98, 99, 100, 101, 102]⟩ (UInt8.ofNat n.val) = hexAt (UInt8.ofNat n.val) := by decide +kernel
  have := h ⟨c.toNat, c.toNat_lt⟩
  simpa using this

theorem index_bare (c : UInt8) (w : World) : (callFunc 34 #[.string ⟨#[48, 49, 50, 51, 52, 53, 54, 55, 56, 57, 97, 98, 99, 100, 101, 102]⟩, .int .u8 (c.toNat : Int)]).run Try.prog w = .ok (.value (.int .i64 (hexAt c))) w := by
  rw [run_callFunc_indexByte Try.func34 (by kernel_rfl) (by kernel_rfl) (by kernel_rfl) (by kernel_rfl), run_indexByte_string, show ((c.toNat : Int).toNat.toUInt8) = c from by simp, first_hex]
  rfl
theorem index_lite (c : UInt8) (w : World) : Calls Try.prog 33 #[.string ⟨#[48, 49, 50, 51, 52, 53, 54, 55, 56, 57, 97, 98, 99, 100, 101, 102]⟩, .int .u8 (c.toNat : Int)] w fun r w' => r = .returned (.int .i64 (hexAt c)) ∧ w = w' := by
  have h := index_bare c w
  go_enter Try.func33, Try.ntmps33
  go_wp2
  go_ret
  exact ⟨rfl, rfl⟩
theorem index_any (c : UInt8) (w : World) : Calls Try.prog 32 #[.string ⟨#[48, 49, 50, 51, 52, 53, 54, 55, 56, 57, 97, 98, 99, 100, 101, 102]⟩, .int .u8 (c.toNat : Int)] w fun r w' => r = .returned (.int .i64 (hexAt c)) ∧ w = w' := by
  go_enter Try.func32, Try.ntmps32
  go_wp2_with fail
  refine (index_lite c w).mono ?_
  rintro r w2 ⟨rfl, rfl⟩
  go_wp2
  go_ret
  exact ⟨rfl, rfl⟩

set_option maxRecDepth 100000 in
set_option maxHeartbeats 2000000 in
theorem digits_s (s : ByteArray) (w : World) :
    Calls Try.prog 20 #[.string s] w fun r w' => r = .returned (.tuple #[.int .u64 ((digitsL s.data.toList).1 : Int), .int .i64 (digitsL s.data.toList).2]) ∧ w = w' := by
  by_cases h16 : s.size = 16
  · have hz : ((s.size : Int) != 16) = false := by simp [h16]
    have HZ := Lib.hid h16
    clear h16
    go_enter Try.func20, Try.ntmps20
    go_wp2
    go_loopg [4, 10] 16 (fun q n i wr => ∃ j : Nat, j + q = 16 ∧ i = .int .i64 j ∧ n = .int .u64 ((hexVal (s.data.toList.take j) : Nat) : Int) ∧ (∀ c ∈ s.data.toList.take j, digOf c < 16) ∧ w = wr)
    case atStart => exact ⟨0, by omega, rfl, rfl, by simp, rfl⟩
    case round =>
      obtain ⟨j, hk, rfl, rfl, hall, rfl⟩ := hrel
      have HK := Lib.hid hk
      have HA := Lib.hid hall
      clear hall
      by_cases hj : j < 16
      · have hlt : decide ((j : Int) < 16) = true := by rw [decide_eq_true_iff]; omega
        have hjs : j < s.size := by have := HZ.out; omega
        have HT := Lib.hid (take_snocB s j hjs)
        clear hk
        by_cases hbad : digOf s[j] < 16
        · have hat : hexAt s[j] = (digOf s[j] : Int) := if_pos hbad
          have HX := Lib.hid hat
          have hall' : ∀ c ∈ s.data.toList.take (j + 1), digOf c < 16 := by
            intro c hc
            rw [HT.out, List.mem_append] at hc
            rcases hc with hc | hc
            · exact HA.out c hc
            · obtain rfl : c = s[j] := by simpa using hc
              exact hbad
          have HA2 := Lib.hid hall'
          have hb := hexVal_lt (s.data.toList.take j) HA.out
          have hl16 : (s.data.toList.take j).length ≤ 15 := by
            have := List.length_take_le j s.data.toList
            omega
          have hb2 : hexVal (s.data.toList.take j) < 16 ^ 15 := Nat.lt_of_lt_of_le hb (Nat.pow_le_pow_right (by omega) hl16)
          have hb3 : hexVal (s.data.toList.take j) < 1152921504606846976 := hb2
          have HS := Lib.hid (show hexVal (s.data.toList.take (j + 1)) = 16 * hexVal (s.data.toList.take j) + digOf s[j] by rw [HT.out, hexVal_snoc])
          clear hb hl16 hb2 hall' hat
          generalize hexVal (s.data.toList.take j) = hv at *
          go_wp2_with fail
          refine (index_any s[j] _).mono ?_
          rw [HX.out]
          rintro r w2 ⟨rfl, rfl⟩
          go_wp2_with fail
          go_roundg (gk - 1)
          case measure => have := HK.out; omega
          case rel => exact ⟨j + 1, by have := HK.out; omega, by go_num, by rw [HS.out]; go_num, HA2.out, rfl⟩
        · have hat : hexAt s[j] = -1 := if_neg hbad
          have HX := Lib.hid hat
          have hn : digitsL s.data.toList = (0, 31) := by
            unfold digitsL
            rw [if_neg]
            rintro ⟨_, h⟩
            rw [List.all_eq_true] at h
            have := h s[j] (by
              have : s[j] = s.data.toList[j]'(by simpa using hjs) := rfl
              rw [this]
              exact List.getElem_mem _)
            simp [hbad] at this
          have HN := Lib.hid hn
          clear hn hbad hat
          go_wp2_with fail
          refine (index_any s[j] _).mono ?_
          rw [HX.out]
          rintro r w2 ⟨rfl, rfl⟩
          go_wp2_with fail
          go_ret2
          exact ⟨by rw [HN.out]; rfl, rfl⟩
      · have hj' : j = 16 := by have := HK.out; omega
        have hlt : decide ((j : Int) < 16) = false := by rw [decide_eq_false_iff_not]; omega
        have htk : s.data.toList.take j = s.data.toList := by
          rw [hj', ← HZ.out]
          exact List.take_length
        have hn : digitsL s.data.toList = (hexVal s.data.toList, 0) := by
          unfold digitsL
          rw [if_pos]
          refine ⟨HZ.out, ?_⟩
          rw [List.all_eq_true]
          intro c hc
          have h := HA.out
          rw [htk] at h
          simpa using h c hc
        have HN := Lib.hid hn
        have HT := Lib.hid htk
        clear hn hk hj' htk
        go_wp2_with fail
        go_ret2
        exact ⟨by rw [HN.out, HT.out]; rfl, rfl⟩
  · have hz : ((s.size : Int) != 16) = true := by
      rw [bne_iff_ne]
      omega
    have hn : digitsL s.data.toList = (0, 31) := by
      unfold digitsL
      rw [if_neg]
      rintro ⟨h, _⟩
      exact h16 h
    have HN := Lib.hid hn
    clear hn h16
    go_enter Try.func20, Try.ntmps20
    go_wp2
    go_ret2
    exact ⟨by rw [HN.out]; rfl, rfl⟩

theorem digits_any : DigitsC := fun l w _ => by
  have h := digits_s ⟨l.toArray⟩ w
  refine h.mono ?_
  rintro r w' ⟨rfl, rfl⟩
  exact ⟨by simp, Below.refl _ _⟩
end Go.Proofs.Ytaldjfijcoppiaa
