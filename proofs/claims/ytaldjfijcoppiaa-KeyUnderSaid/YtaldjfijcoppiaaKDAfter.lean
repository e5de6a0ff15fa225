/-
  What package key answers: After.
-/
import Derived.Test.YtaldjfijcoppiaaKDMake
namespace Go.Proofs.Ytaldjfijcoppiaa
open Go.RowKit

theorem at_list (s : ByteArray) (m : Nat) (h : m < s.size) : s.data.toList[m]'(by simpa using h) = s[m] := rfl
/-- After the last j bytes were left off, all of them 255. -/
theorem after_ff {s : ByteArray} {j m : Nat} (hm : m + 1 + j = s.size) (h : s[m]'(by omega) = 255) : afterL (s.data.toList.take (s.size - j)) = afterL (s.data.toList.take (s.size - (j + 1))) := by
  have e : s.size - j = m + 1 := by omega
  have e2 : s.size - (j + 1) = m := by omega
  rw [e, e2, take_snocB s m (by omega), after_snoc, if_pos h]
theorem after_up {s : ByteArray} {j m : Nat} (hm : m + 1 + j = s.size) (h : s[m]'(by omega) ≠ 255) : afterL (s.data.toList.take (s.size - j)) = s.data.toList.take m ++ [s[m]'(by omega) + 1] := by
  have e : s.size - j = m + 1 := by omega
  rw [e, take_snocB s m (by omega), after_snoc, if_neg h]

set_option maxRecDepth 100000 in
set_option maxHeartbeats 2000000 in
theorem after_s (s : ByteArray) (w : World) (hs : s.size ≤ 5000) :
    Calls Try.prog 24 #[.string s] w fun r w' => r = .returned (.string ⟨(afterL s.data.toList).toArray⟩) ∧ Below w.heap.size w w' := by
  go_enter Try.func24, Try.ntmps24
  go_wp2
  go_loopg [7] s.size (fun q i wr => ∃ j : Nat, j + q = s.size ∧ i = .int .i64 j ∧ afterL s.data.toList = afterL (s.data.toList.take (s.size - j)) ∧ w = wr)
  case atStart =>
    refine ⟨0, by omega, rfl, ?_, rfl⟩
    rw [Nat.sub_zero, show s.data.toList.take s.size = s.data.toList from List.take_length]
  case round =>
    obtain ⟨j, hk, rfl, ha, rfl⟩ := hrel
    have HK := Lib.hid hk
    have HA := Lib.hid ha
    clear ha hk
    by_cases hj : j < s.size
    · have hlt : decide ((j : Int) < (s.size : Int)) = true := by simpa using hj
      obtain ⟨m, hm⟩ : ∃ m, m + 1 + j = s.size := ⟨s.size - 1 - j, by omega⟩
      have HM := Lib.hid hm
      have hms : m < s.size := by omega
      have hsub : (s.size : Int) - 1 - (j : Int) = (m : Int) := by omega
      have hb := s[m].toNat_lt
      clear hm
      by_cases hc : s[m] = 255
      · have hz : decide ((s[m].toNat : Int) < 255) = false := by rw [hc]; rfl
        have HF := Lib.hid (after_ff HM.out hc)
        clear hc
        go_wp2
        go_roundg (gk - 1)
        case measure => have := HK.out; omega
        case rel => exact ⟨j + 1, by have := HK.out; omega, by go_num, HA.out.trans HF.out, rfl⟩
      · have hn : s[m].toNat ≠ 255 := fun e => hc (UInt8.toNat_inj.1 e)
        have hz : decide ((s[m].toNat : Int) < 255) = true := by rw [decide_eq_true_iff]; omega
        have HF := Lib.hid (after_up HM.out hc)
        have hsu := u8_succ hc
        have hcv : (convert 49 9 (.slice (some ⟨w.heap.size, 0, none⟩) 1 1)).run Try.prog (w.alloc (.cells #[.int .u8 ((s[m].toNat : Int) + 1)] 5)).drew = .ok (.string ⟨[s[m] + 1].toArray⟩) (w.alloc (.cells #[.int .u8 ((s[m].toNat : Int) + 1)] 5)).drew :=
          conv_rd (w := (w.alloc (.cells #[.int .u8 ((s[m].toNat : Int) + 1)] 5)).drew) (m := [s[m] + 1]) 49 9 5 Try.underlying49 Try.underlying5 Try.underlying9 rfl (show Rd (w.alloc (.cells #[.int .u8 ((s[m].toNat : Int) + 1)] 5)) _ _ _ _ from Rd.one w 5 _ (s[m] + 1) (by omega))
        have h8 : (s[m].toNat : Int) + 1 ≤ 255 := by omega
        clear hc hn hsu
        go_wp2_with fail
        have s2 : IntKind.u8.wrap ((s[m].toNat : Int) + 1) = (s[m].toNat : Int) + 1 := IntWalk.u8_in _ (by omega)
        have hle : (m : Int) ≤ (s.size : Int) := by omega
        go_region
        all_goals
          clear s2 hcv
          go_wp2
          go_ret
          refine ⟨?_, ((Below.refl _ w).alloc (Nat.le_refl _) _).drew⟩
          rw [HA.out, HF.out, ← ba_cat]
          show Ending.returned (.string (s.extract 0 m ++ ⟨#[s[m] + 1]⟩)) = _
          rw [extract_take]
    · have hlt : decide ((j : Int) < (s.size : Int)) = false := by simpa using hj
      have hj' : j = s.size := by have := HK.out; omega
      have he : afterL s.data.toList = [] := by rw [HA.out, hj', Nat.sub_self]; rfl
      have HE := Lib.hid he
      clear he hj'
      go_wp2
      go_ret
      exact ⟨by rw [HE.out]; rfl, Below.refl _ _⟩

theorem after_any : AfterC := fun p w hp => by
  have := after_s ⟨p.toArray⟩ w (by simpa [ByteArray.size] using hp)
  simpa using this
theorem under_any : UnderC := under_of after_any
end Go.Proofs.Ytaldjfijcoppiaa
