/-
  The walk of KeyOrder, from the contracts of package key.
-/
import Derived.Test.YtaldjfijcoppiaaKCon
namespace Go.Proofs.Ytaldjfijcoppiaa.keyOrder
open Go.RowKit

theorem key_lt {kind : UInt8} {a b : List ByteArray} (h : aheadB a b = -1) : Op.bytesLess (keyB kind a) (keyB kind b) = true := by
  have := ahead_lt h
  show blt (kind :: _) (kind :: _) = true
  rw [blt_eq]
  exact this
theorem key_gt {kind : UInt8} {a b : List ByteArray} (h : aheadB a b = 1) : Op.bytesLess (keyB kind a) (keyB kind b) = false ∧ (keyB kind a == keyB kind b) = false := by
  have := ahead_gt h
  have h2 : blt (keyB kind b) (keyB kind a) = true := by
    show blt (kind :: _) (kind :: _) = true
    rw [blt_eq]
    exact this
  refine ⟨blt_asymm h2, ?_⟩
  rw [beq_eq_false_iff_ne]
  intro e
  rw [e, blt_self] at h2
  cases h2
theorem key_same {kind : UInt8} {a b : List ByteArray} (h : aheadB a b = 0) : keyB kind a = keyB kind b := by
  unfold keyB
  rw [ahead_eq h]
theorem num_order {m n : Nat} (hm : (m : Int) ≤ 18446744073709551615) (hn : (n : Int) ≤ 18446744073709551615) : Op.bytesLess (hexN 16 m) (hexN 16 n) = decide (m < n) := by
  have e : (16 : Nat) ^ 16 = 18446744073709551616 := by decide
  exact hex_order 16 m n (by omega) (by omega)

set_option maxRecDepth 100000 in
set_option maxHeartbeats 4000000 in
theorem walk_few (K : KeyC) (kind : UInt8) (A1 : Option Addr) (c1 : Nat) (l1 : List ByteArray) (A2 : Option Addr) (c2 : Nat) (l2 : List ByteArray) (m n : Nat) (w : World) (hs1 : ∀ p ∈ l1, p.size ≤ maxLen) (hs2 : ∀ p ∈ l2, p.size ≤ maxLen) (hr1 : RowS w 0 w.heap.size A1 l1) (hr2 : RowS w 0 w.heap.size A2 l2) (hf1 : fewK l1 = true) (hf2 : fewK l2 = true)
    (hc1 : l1.length ≤ c1) (hc2 : l2.length ≤ c2) (hz1 : A1 = none → c1 = 0) (hz2 : A2 = none → c2 = 0) (hm : (m : Int) ≤ 18446744073709551615) (hn : (n : Int) ≤ 18446744073709551615) :
    Calls Try.prog 6 #[.int .u8 kind.toNat, .slice A1 l1.length c1, .slice A2 l2.length c2, .int .u64 m, .int .u64 n] w fun e w' => e = .returned (.bool true) ∧ Below w.heap.size w w' := by
  have HK := Lib.hid K
  have h20 := (fewK_yes hf1).2
  have h20' := (fewK_yes hf2).2
  have HS1 := Lib.hid hs1
  have HS2 := Lib.hid hs2
  have HR1 := Lib.hid hr1
  have HR2 := Lib.hid hr2
  have HF1 := Lib.hid hf1
  have HF2 := Lib.hid hf2
  have HM1 := Lib.hid (fun w' (hb : Below w.heap.size w w') => HK.out.make kind A1 l1.length c1 l1 0 w.heap.size w' rfl (by omega) (fun p hp => Nat.le_trans ((fewK_yes hf1).1 p hp) (by omega)) (hr1.below hb (Nat.le_refl _)) hb.size hz1 hc1)
  have HM2 := Lib.hid (fun w' (hb : Below w.heap.size w w') => HK.out.make kind A2 l2.length c2 l2 0 w.heap.size w' rfl (by omega) (fun p hp => Nat.le_trans ((fewK_yes hf2).1 p hp) (by omega)) (hr2.below hb (Nat.le_refl _)) hb.size hz2 hc2)
  have HAH := Lib.hid (fun w' (hb : Below w.heap.size w w') => ahead_any A1 A2 l1.length l2.length c1 c2 0 w.heap.size 0 w.heap.size l1 l2 w' rfl rfl (hr1.below hb (Nat.le_refl _)) (hr2.below hb (Nat.le_refl _)) (by omega) (by omega))
  have HN1 := Lib.hid (fun w' => HK.out.number m w' hm)
  have HN2 := Lib.hid (fun w' => HK.out.number n w' hn)
  obtain ⟨mn, hmn⟩ : ∃ mn, decide (m < n) = mn := ⟨_, rfl⟩
  have o1 := num_order hm hn
  rw [hmn] at o1
  have o2 : decide ((m : Int) < (n : Int)) = mn := by rw [← hmn, decide_eq_decide]; omega
  have k1 : aheadB l1 l2 = -1 → Op.bytesLess (keyB kind l1) (keyB kind l2) = true := key_lt
  have k2 : aheadB l1 l2 = 1 → _ := key_gt (kind := kind)
  have k3 : aheadB l1 l2 = 0 → _ := key_same (kind := kind)
  have hv : aheadB l1 l2 = -1 ∨ aheadB l1 l2 = 0 ∨ aheadB l1 l2 = 1 := ahead_three _ _
  clear K hs1 hs2 hr1 hr2 hf1 hf2 hz1 hz2 hm hn
  generalize aheadB l1 l2 = v at *
  generalize keyB kind l1 = x at *
  generalize keyB kind l2 = y at *
  generalize hexN 16 m = xm at *
  generalize hexN 16 n = xn at *
  rcases hv with rfl | rfl | rfl
  all_goals
    first
      | have q1 := k1 rfl
      | obtain ⟨q1, q2⟩ := k2 rfl
      | have q3 := k3 rfl
        subst q3
    clear k1 k2 k3
    cases mn
  all_goals
    go_enter Try.func6, Try.ntmps6
    go_wp2_with fail
    refine (liveK_any HK.out _).mono ?_
    rintro r w1 ⟨rfl, hb⟩
    have B1 := Lib.hid hb
    clear hb
    go_wp2_with fail
    refine (fewK_any A1 _ c1 l1 0 w.heap.size w1 rfl (by unfold maxLen; omega) HS1.out (HR1.out.below B1.out (Nat.le_refl _))).mono ?_
    rw [HF1.out]
    rintro r w9 ⟨rfl, rfl⟩
    go_wp2_with fail
    refine (fewK_any A2 _ c2 l2 0 w.heap.size w1 rfl (by unfold maxLen; omega) HS2.out (HR2.out.below B1.out (Nat.le_refl _))).mono ?_
    rw [HF2.out]
    rintro r w9 ⟨rfl, rfl⟩
    go_wp2_with fail
    refine (HM1.out w1 B1.out).mono ?_
    rintro r w2 ⟨rfl, hb⟩
    have B2 := Lib.hid (B1.out.trans (hb.mono B1.out.size))
    clear hb B1
    go_wp2_with fail
    refine (HM2.out w2 B2.out).mono ?_
    rintro r w3 ⟨rfl, hb⟩
    have B3 := Lib.hid (B2.out.trans (hb.mono B2.out.size))
    clear hb B2
    go_wp2_with fail
    refine (HAH.out w3 B3.out).mono ?_
    rintro r w4 ⟨rfl, hb⟩
    have B4 := Lib.hid (B3.out.trans (hb.mono B3.out.size))
    clear hb B3
    go_wp2_with fail
    refine (HN1.out w4).mono ?_
    rintro r w5 ⟨rfl, hb⟩
    have B5 := Lib.hid (B4.out.trans (hb.mono B4.out.size))
    clear hb B4
    go_wp2_with fail
    refine (HN2.out w5).mono ?_
    rintro r w6 ⟨rfl, hb⟩
    have B6 := Lib.hid (B5.out.trans (hb.mono B5.out.size))
    clear hb B5
    go_wp2
    go_ret
    exact ⟨rfl, B6.out⟩

set_option maxRecDepth 100000 in
set_option maxHeartbeats 2000000 in
theorem walk (K : KeyC) (kind : UInt8) (A1 : Option Addr) (c1 : Nat) (l1 : List ByteArray) (A2 : Option Addr) (c2 : Nat) (l2 : List ByteArray) (m n : Nat) (w : World) (hm1 : l1.length ≤ maxLen) (hm2 : l2.length ≤ maxLen) (hs1 : ∀ p ∈ l1, p.size ≤ maxLen) (hs2 : ∀ p ∈ l2, p.size ≤ maxLen) (hr1 : RowS w 0 w.heap.size A1 l1) (hr2 : RowS w 0 w.heap.size A2 l2)
    (hc1 : l1.length ≤ c1) (hc2 : l2.length ≤ c2) (hz1 : A1 = none → c1 = 0) (hz2 : A2 = none → c2 = 0) (hm : (m : Int) ≤ 18446744073709551615) (hn : (n : Int) ≤ 18446744073709551615) :
    Calls Try.prog 6 #[.int .u8 kind.toNat, .slice A1 l1.length c1, .slice A2 l2.length c2, .int .u64 m, .int .u64 n] w fun e w' => e = .returned (.bool true) ∧ Below w.heap.size w w' := by
  have HK := Lib.hid K
  have HS1 := Lib.hid hs1
  have HS2 := Lib.hid hs2
  have HR1 := Lib.hid hr1
  have HR2 := Lib.hid hr2
  have HL1 := Lib.hid hm1
  have HL2 := Lib.hid hm2
  by_cases hf1 : fewK l1 = true
  case neg =>
    have hf1 : fewK l1 = false := by simpa using hf1
    have HF1 := Lib.hid hf1
    clear K hs1 hs2 hr1 hr2 hm1 hm2 hf1 hc1 hc2 hz1 hz2 hm hn
    go_enter Try.func6, Try.ntmps6
    go_wp2_with fail
    refine (liveK_any HK.out _).mono ?_
    rintro r w1 ⟨rfl, hb⟩
    have B1 := Lib.hid hb
    clear hb
    go_wp2_with fail
    refine (fewK_any A1 _ c1 l1 0 w.heap.size w1 rfl HL1.out HS1.out (HR1.out.below B1.out (Nat.le_refl _))).mono ?_
    rw [HF1.out]
    rintro r w9 ⟨rfl, rfl⟩
    go_wp2_with fail
    refine (liveK_any HK.out _).mono ?_
    rintro r w2 ⟨rfl, hb⟩
    have B2 := Lib.hid (B1.out.trans (hb.mono B1.out.size))
    clear hb
    go_wp2
    go_ret
    exact ⟨rfl, B2.out⟩

  by_cases hf2 : fewK l2 = true
  case neg =>
    have hf2 : fewK l2 = false := by simpa using hf2
    have HF1 := Lib.hid hf1
    have HF2 := Lib.hid hf2
    clear K hs1 hs2 hr1 hr2 hm1 hm2 hf1 hf2 hc1 hc2 hz1 hz2 hm hn
    go_enter Try.func6, Try.ntmps6
    go_wp2_with fail
    refine (liveK_any HK.out _).mono ?_
    rintro r w1 ⟨rfl, hb⟩
    have B1 := Lib.hid hb
    clear hb
    go_wp2_with fail
    refine (fewK_any A1 _ c1 l1 0 w.heap.size w1 rfl HL1.out HS1.out (HR1.out.below B1.out (Nat.le_refl _))).mono ?_
    rw [HF1.out]
    rintro r w9 ⟨rfl, rfl⟩
    go_wp2_with fail
    refine (fewK_any A2 _ c2 l2 0 w.heap.size w1 rfl HL2.out HS2.out (HR2.out.below B1.out (Nat.le_refl _))).mono ?_
    rw [HF2.out]
    rintro r w9 ⟨rfl, rfl⟩
    go_wp2_with fail
    refine (liveK_any HK.out _).mono ?_
    rintro r w2 ⟨rfl, hb⟩
    have B2 := Lib.hid (B1.out.trans (hb.mono B1.out.size))
    clear hb
    go_wp2
    go_ret
    exact ⟨rfl, B2.out⟩

  exact walk_few K kind A1 c1 l1 A2 c2 l2 m n w hs1 hs2 hr1 hr2 hf1 hf2 hc1 hc2 hz1 hz2 hm hn
end Go.Proofs.Ytaldjfijcoppiaa.keyOrder
