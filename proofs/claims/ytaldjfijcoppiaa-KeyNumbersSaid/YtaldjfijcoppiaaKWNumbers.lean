/-
  The walk of KeyNumbers, from the contracts of package key.
-/
import Derived.Test.YtaldjfijcoppiaaKWAfter
namespace Go.Proofs.Ytaldjfijcoppiaa.keyNumbers
open Go.RowKit

theorem dig_back {d : Nat} (h : d < 16) : digOf (digB d) = d := (dig_iff (digB d) d h).1 rfl
theorem hex_digits (k : Nat) : ∀ n : Nat, ∀ c ∈ hexN k n, digOf c < 16 := by
  induction k with
  | zero => intro n c hc; cases hc
  | succ k ih =>
    intro n c hc
    rw [hexN, List.mem_append] at hc
    rcases hc with hc | hc
    · exact ih _ c hc
    · obtain rfl : c = digB (n % 16) := by simpa using hc
      rw [dig_back (by omega)]
      omega
theorem hex_val (k : Nat) : ∀ n : Nat, n < 16 ^ k → hexVal (hexN k n) = n := by
  induction k with
  | zero => intro n h; simp at h; subst h; rfl
  | succ k ih =>
    intro n h
    rw [Nat.pow_succ] at h
    rw [hexN, hexVal_snoc, ih (n / 16) (by omega), dig_back (by omega)]
    omega
theorem digits_hex (n : Nat) (h : n < 16 ^ 16) : digitsL (hexN 16 n) = (n, 0) := by
  unfold digitsL
  rw [if_pos, hex_val 16 n h]
  refine ⟨hex_len 16 n, ?_⟩
  rw [List.all_eq_true]
  intro c hc
  simpa using hex_digits 16 n c hc

set_option maxRecDepth 100000 in
set_option maxHeartbeats 1000000 in
theorem walk (K : KeyC) (n : Nat) (s : ByteArray) (w : World) (hn : (n : Int) ≤ 18446744073709551615) (hs : s.size ≤ reachBytes) :
    Calls Try.prog 4 #[.int .u64 n, .string s] w fun e w' => e = .returned (.bool true) ∧ Below w.heap.size w w' := by
  have HK := Lib.hid K
  clear K
  unfold reachBytes at hs
  by_cases h : s.size ≤ 1000
  · have d1 : decide ((1000 : Int) < (s.size : Int)) = false := by rw [decide_eq_false_iff_not]; omega
    have hl : s.data.toList.length = s.size := rfl
    have HD := Lib.hid (fun w' => HK.out.digits s.data.toList w' (by omega))
    have HR := Lib.hid (fun w' => refDigits_any s w' (by omega))
    have HN := Lib.hid (fun w' => HK.out.number n w' hn)
    have HRN := Lib.hid (fun w' => refNumber_any n w' hn)
    have HB := Lib.hid (fun w' => HK.out.digits (hexN 16 n) w' (by rw [hex_len]; omega))
    have HBE := Lib.hid (digits_hex n (by have : (16 : Nat) ^ 16 = 18446744073709551616 := by decide
                                          omega))
    have HA := Lib.hid (fun w' => HK.out.after s.data.toList w' (by omega))
    have HRA := Lib.hid (fun w' => refAfter_any s.size s.data.toList w' rfl (by omega))
    clear hl hn
    go_enter Try.func4, Try.ntmps4
    go_wp2_with fail
    refine (liveK_any HK.out _).mono ?_
    rintro r w1 ⟨rfl, hb⟩
    have B1 := Lib.hid hb
    clear hb
    go_wp2_with fail
    have H := HD.out w1
    rw [keyAfter.ba_self] at H
    refine H.mono ?_
    rintro r w2 ⟨rfl, hb⟩
    have B2 := Lib.hid (B1.out.trans (hb.mono B1.out.size))
    clear hb H B1
    go_wp2_with fail
    refine (HR.out w2).mono ?_
    rintro r w3 ⟨rfl, hb⟩
    have B3 := Lib.hid (B2.out.trans (hb.mono B2.out.size))
    clear hb B2
    go_wp2_with fail
    refine (HN.out w3).mono ?_
    rintro r w4 ⟨rfl, hb⟩
    have B4 := Lib.hid (B3.out.trans (hb.mono B3.out.size))
    clear hb B3
    go_wp2_with fail
    refine (HB.out w4).mono ?_
    rw [HBE.out]
    rintro r w5 ⟨rfl, hb⟩
    have B5 := Lib.hid (B4.out.trans (hb.mono B4.out.size))
    clear hb B4
    go_wp2_with fail
    refine (HN.out w5).mono ?_
    rintro r w6 ⟨rfl, hb⟩
    have B6 := Lib.hid (B5.out.trans (hb.mono B5.out.size))
    clear hb B5
    go_wp2_with fail
    refine (HRN.out w6).mono ?_
    rintro r w7 ⟨rfl, rfl⟩
    go_wp2_with fail
    have H := HA.out w6
    rw [keyAfter.ba_self] at H
    refine H.mono ?_
    rintro r w8 ⟨rfl, hb⟩
    have B8 := Lib.hid (B6.out.trans (hb.mono B6.out.size))
    clear hb H B6
    go_wp2_with fail
    have H := HRA.out w8
    rw [keyAfter.ba_self] at H
    refine H.mono ?_
    rintro r w9 ⟨rfl, hb⟩
    have B9 := Lib.hid (B8.out.trans (hb.mono B8.out.size))
    clear hb H B8
    go_wp2
    go_ret
    exact ⟨rfl, B9.out⟩
  · have d1 : decide ((1000 : Int) < (s.size : Int)) = true := by rw [decide_eq_true_iff]; omega
    clear h hn
    go_enter Try.func4, Try.ntmps4
    go_wp2_with fail
    refine (liveK_any HK.out _).mono ?_
    rintro r w1 ⟨rfl, hb⟩
    have HB := Lib.hid hb
    clear hb
    go_wp2_with fail
    refine (liveK_any HK.out _).mono ?_
    rintro r w2 ⟨rfl, hb⟩
    have HB2 := Lib.hid (HB.out.trans (hb.mono HB.out.size))
    clear hb
    go_wp2
    go_ret
    exact ⟨rfl, HB2.out⟩
end Go.Proofs.Ytaldjfijcoppiaa.keyNumbers
