import Derived.Test.YtidomoibhjgkjaaGreatDoorZC11
import Derived.Test.YtidomoibhjgkjaaGreatDoorZC10
import Derived.IntWalk
import Derived.Laws.Bits64
import Derived.Test.YtidomoibhjgkjaaGreatDoorZC19
import Derived.Laws.Cover1
/-
  What one value, and two numbers, come to: the document's own answers.
-/
namespace Go.Proofs.YtidomoibhjgkjaaGreatDoor
open Go.RowKit

set_option maxHeartbeats 1000000 in
theorem g6takes_any (op : Int) (w : World) : Calls Tryz.prog 67 #[.int .i64 op] w fun r w' => r = .returned (.int .i64 (kindG op)) ∧ w = w' := by
  by_cases h : op = 3 ∨ op = 4 ∨ op = 5
  · rcases h with rfl | rfl | rfl
    all_goals
      go_enter Tryz.func67, Tryz.ntmps67
      go_wp2
      go_ret
      exact ⟨rfl, rfl⟩
  · have e : kindG op = 0 := by unfold kindG; rw [if_neg (by omega), if_neg (by omega), if_neg (by omega)]
    have d3 : (op == 3) = false := by rw [beq_eq_false_iff_ne]; omega
    have d4 : (op == 4) = false := by rw [beq_eq_false_iff_ne]; omega
    have d5 : (op == 5) = false := by rw [beq_eq_false_iff_ne]; omega
    rw [e]
    clear e h
    go_enter Tryz.func67, Tryz.ntmps67
    go_wp2
    go_ret
    exact ⟨rfl, rfl⟩
set_option maxHeartbeats 1000000 in
theorem g6truth_any (b : Bool) (w : World) : Calls Tryz.prog 36 #[.bool b] w fun r w' => r = .returned (truthV b).val ∧ Below w.heap.size w w' := by
  cases b
  · go_enter Tryz.func36, Tryz.ntmps36
    go_wp2
    exact bodyPost_ret (v := .agg #[.int .i64 2, .int .i64 0, .string ⟨#[]⟩]) (by simp [results, Tryz.results36, go_sem]) rfl ⟨rfl, box_below w _ _⟩
  · go_enter Tryz.func36, Tryz.ntmps36
    go_wp2
    exact bodyPost_ret (v := .agg #[.int .i64 2, .int .i64 1, .string ⟨#[]⟩]) (by simp [results, Tryz.results36, go_sem]) rfl ⟨rfl, box_below w _ _⟩
set_option maxHeartbeats 1000000 in
theorem g6number_any (n : Int) (w : World) : Calls Tryz.prog 68 #[.int .i64 n] w fun r w' => r = .returned (.agg #[.int .i64 1, .int .i64 n, .string ⟨#[]⟩]) ∧ Below w.heap.size w w' := by
  go_enter Tryz.func68, Tryz.ntmps68
  go_wp2
  exact bodyPost_ret (v := .agg #[.int .i64 1, .int .i64 n, .string ⟨#[]⟩]) (by simp [results, Tryz.results68, go_sem]) rfl ⟨rfl, box_below w _ _⟩
set_option maxRecDepth 100000 in
set_option maxHeartbeats 1000000 in
theorem g6half_any (n : Int) (hn : inI n) (w : World) : Calls Tryz.prog 106 #[.int .i64 n] w fun r w' => r = .returned (.int .u64 (n.natAbs : Int)) ∧ w = w' := by
  obtain ⟨h0, h1⟩ := hn
  obtain ⟨m, hm⟩ : ∃ m : Nat, m = n.natAbs := ⟨_, rfl⟩
  rw [← hm]
  by_cases h : n < 0
  · have d : decide (n < 0) = true := by simpa using h
    have hw0 : IntKind.u64.wrap n = 18446744073709551616 - (m : Int) := by rw [IntKind.wrap_u64]; omega
    have hw1 : IntKind.u64.wrap (-(18446744073709551616 - (m : Int))) = (m : Int) := by rw [IntKind.wrap_u64]; omega
    clear h hm
    go_enter Tryz.func106, Tryz.ntmps106
    go_wp2
    go_ret
    exact ⟨rfl, rfl⟩
  · have d : decide (n < 0) = false := by simpa using h
    have hw0 : IntKind.u64.wrap n = (m : Int) := by rw [IntKind.wrap_u64]; omega
    clear h hm
    go_enter Tryz.func106, Tryz.ntmps106
    go_wp2
    go_ret
    exact ⟨rfl, rfl⟩
/-- The number of a size and a sign. -/
def signG (low : Bool) (size : Nat) : Int := if low = true then -(size : Int) else size
set_option maxRecDepth 100000 in
set_option maxHeartbeats 1000000 in
theorem g6signed_any (low : Bool) (size : Nat) (hs : (size : Int) ≤ 18446744073709551615) (w : World) : Calls Tryz.prog 107 #[.bool low, .int .u64 (size : Int)] w fun r w' => (∃ z : Int, r = .returned (.tuple #[.int .i64 z, .bool (fitB (signG low size))]) ∧ (inI (signG low size) → z = signG low size)) ∧ w = w' := by
  cases low
  · by_cases h : size < 9223372036854775808
    · have e : fitB (signG false size) = true := by rw [fitB_iff]; unfold inI signG; simp; omega
      have d : decide ((size : Int) < 9223372036854775808) = true := by rw [decide_eq_true_iff]; omega
      have hw : IntKind.i64.wrap (size : Int) = (size : Int) := by rw [IntKind.wrap_i64]; omega
      rw [e]
      go_enter Tryz.func107, Tryz.ntmps107
      go_wp2
      exact bodyPost_ret (v := .tuple #[.int .i64 (size : Int), .bool true]) (by simp [results, Tryz.results107, go_sem]) rfl ⟨⟨_, rfl, fun _ => rfl⟩, rfl⟩
    · have e : fitB (signG false size) = false := by rw [fitB_no]; unfold inI signG; simp; omega
      have hno : ¬ inI (signG false size) := by unfold inI signG; simp; omega
      have d : decide ((size : Int) < 9223372036854775808) = false := by rw [decide_eq_false_iff_not]; omega
      have hw : IntKind.i64.wrap (size : Int) = (size : Int) - 18446744073709551616 := by rw [IntKind.wrap_i64]; omega
      rw [e]
      go_enter Tryz.func107, Tryz.ntmps107
      go_wp2
      exact bodyPost_ret (v := .tuple #[.int .i64 ((size : Int) - 18446744073709551616), .bool false]) (by simp [results, Tryz.results107, go_sem]) rfl ⟨⟨_, rfl, fun h => absurd h hno⟩, rfl⟩
  · by_cases h : size ≤ 9223372036854775808
    · have e : fitB (signG true size) = true := by rw [fitB_iff]; unfold inI signG; simp; omega
      have d : decide ((size : Int) ≤ 9223372036854775808) = true := by rw [decide_eq_true_iff]; omega
      rw [e]
      by_cases h0 : size = 0
      · subst h0
        have hw1 : IntKind.u64.wrap (-(0 : Int)) = 0 := by rw [IntKind.wrap_u64]; omega
        go_enter Tryz.func107, Tryz.ntmps107
        go_wp2
        exact bodyPost_ret (v := .tuple #[.int .i64 0, .bool true]) (by simp [results, Tryz.results107, go_sem]) rfl ⟨⟨_, rfl, fun _ => rfl⟩, rfl⟩
      · have hw1 : IntKind.u64.wrap (-(size : Int)) = 18446744073709551616 - (size : Int) := by rw [IntKind.wrap_u64]; omega
        have hw2 : IntKind.i64.wrap (18446744073709551616 - (size : Int)) = -(size : Int) := by rw [IntKind.wrap_i64]; omega
        go_enter Tryz.func107, Tryz.ntmps107
        go_wp2
        exact bodyPost_ret (v := .tuple #[.int .i64 (-(size : Int)), .bool true]) (by simp [results, Tryz.results107, go_sem]) rfl ⟨⟨_, rfl, fun _ => rfl⟩, rfl⟩
    · have e : fitB (signG true size) = false := by rw [fitB_no]; unfold inI signG; simp; omega
      have hno : ¬ inI (signG true size) := by unfold inI signG; simp; omega
      have d : decide ((size : Int) ≤ 9223372036854775808) = false := by rw [decide_eq_false_iff_not]; omega
      have hw1 : IntKind.u64.wrap (-(size : Int)) = 18446744073709551616 - (size : Int) := by rw [IntKind.wrap_u64]; omega
      have hw2 : IntKind.i64.wrap (18446744073709551616 - (size : Int)) = 18446744073709551616 - (size : Int) := by rw [IntKind.wrap_i64]; omega
      rw [e]
      go_enter Tryz.func107, Tryz.ntmps107
      go_wp2
      exact bodyPost_ret (v := .tuple #[.int .i64 (18446744073709551616 - (size : Int)), .bool false]) (by simp [results, Tryz.results107, go_sem]) rfl ⟨⟨_, rfl, fun h => absurd h hno⟩, rfl⟩
end Go.Proofs.YtidomoibhjgkjaaGreatDoor

/-
  What two numbers come to: the document's own answers.
-/
namespace Go.Proofs.YtidomoibhjgkjaaGreatDoor
open Go.RowKit

theorem signG_ff {a b : Int} (ha : ¬ a < 0) (hb : ¬ b < 0) : signG false (a.natAbs * b.natAbs) = a * b := by
  show ((a.natAbs * b.natAbs : Nat) : Int) = a * b
  rw [Int.natCast_mul, Int.natAbs_of_nonneg (by omega), Int.natAbs_of_nonneg (by omega)]
theorem signG_tt {a b : Int} (ha : a < 0) (hb : b < 0) : signG false (a.natAbs * b.natAbs) = a * b := by
  show ((a.natAbs * b.natAbs : Nat) : Int) = a * b
  rw [Int.natCast_mul, Int.ofNat_natAbs_of_nonpos (by omega), Int.ofNat_natAbs_of_nonpos (by omega), Int.neg_mul_neg]
theorem signG_tf {a b : Int} (ha : a < 0) (hb : ¬ b < 0) : signG true (a.natAbs * b.natAbs) = a * b := by
  show -((a.natAbs * b.natAbs : Nat) : Int) = a * b
  rw [Int.natCast_mul, Int.ofNat_natAbs_of_nonpos (by omega), Int.natAbs_of_nonneg (by omega), Int.neg_mul, Int.neg_neg]
theorem signG_ft {a b : Int} (ha : ¬ a < 0) (hb : b < 0) : signG true (a.natAbs * b.natAbs) = a * b := by
  show -((a.natAbs * b.natAbs : Nat) : Int) = a * b
  rw [Int.natCast_mul, Int.natAbs_of_nonneg (by omega), Int.ofNat_natAbs_of_nonpos (by omega), Int.mul_neg, Int.neg_neg]
theorem big_mul {x y : Nat} (hx : 0 < x) (h : 9223372036854775808 / x < y) : 9223372036854775808 < x * y := by
  have h1 : 9223372036854775808 / x + 1 ≤ y := h
  have h2 : x * (9223372036854775808 / x + 1) ≤ x * y := Nat.mul_le_mul_left x h1
  have h3 := Nat.lt_mul_div_succ 9223372036854775808 hx
  omega
theorem small_mul {x y : Nat} (h : ¬ (0 < x ∧ 9223372036854775808 / x < y)) : x * y ≤ 9223372036854775808 := by
  rcases Nat.eq_zero_or_pos x with h0 | h0
  · subst h0; omega
  · have h1 : y ≤ 9223372036854775808 / x := by
      rcases Nat.lt_or_ge (9223372036854775808 / x) y with g | g
      · exact absurd ⟨h0, g⟩ h
      · exact g
    exact Nat.le_trans (Nat.mul_le_mul_left x h1) (Nat.mul_div_le _ _)
theorem big_div (x : Nat) : ((9223372036854775808 / x : Nat) : Int) = 9223372036854775808 / (x : Int) := by rw [Int.natCast_ediv]; rfl
def lowB (a b : Int) : Bool := decide (a < 0) != decide (b < 0)
theorem sign_mul (a b : Int) : signG (lowB a b) (a.natAbs * b.natAbs) = a * b := by
  unfold lowB
  by_cases ha : a < 0 <;> by_cases hb : b < 0
  · rw [show (decide (a < 0) != decide (b < 0)) = false from by simp [ha, hb]]; exact signG_tt ha hb
  · rw [show (decide (a < 0) != decide (b < 0)) = true from by simp [ha, hb]]; exact signG_tf ha hb
  · rw [show (decide (a < 0) != decide (b < 0)) = true from by simp [ha, hb]]; exact signG_ft ha hb
  · rw [show (decide (a < 0) != decide (b < 0)) = false from by simp [ha, hb]]; exact signG_ff ha hb
theorem big_out {a b : Int} (h : 9223372036854775808 < a.natAbs * b.natAbs) : ¬ inI (a * b) := by
  have e : (a * b).natAbs = a.natAbs * b.natAbs := Int.natAbs_mul a b
  unfold inI
  omega
/-- A number that is told if it fits. -/
def RetN (z : Int) (w : World) (r : Ending) (w' : World) : Prop := (∃ n : Int, r = .returned (.tuple #[.int .i64 n, .bool (fitB z)]) ∧ (inI z → n = z)) ∧ w = w'

set_option maxRecDepth 100000 in
set_option maxHeartbeats 2000000 in
theorem g6product_any (a b : Int) (ha : inI a) (hb : inI b) (w : World) : Calls Tryz.prog 104 #[.int .i64 a, .int .i64 b] w (RetN (a * b) w) := by
  have HA := Lib.hid (g6half_any a ha)
  have HB := Lib.hid (g6half_any b hb)
  have hx : a.natAbs ≤ 9223372036854775808 := by obtain ⟨_, _⟩ := ha; omega
  have hy : b.natAbs ≤ 9223372036854775808 := by obtain ⟨_, _⟩ := hb; omega
  have hsm := sign_mul a b
  have hbg : 9223372036854775808 < a.natAbs * b.natAbs → ¬ inI (a * b) := big_out
  obtain ⟨x, hxe⟩ : ∃ x, a.natAbs = x := ⟨_, rfl⟩
  obtain ⟨y, hye⟩ : ∃ y, b.natAbs = y := ⟨_, rfl⟩
  rw [hxe] at HA hx hsm hbg
  rw [hye] at HB hy hsm hbg
  obtain ⟨p, hp⟩ : ∃ p, a * b = p := ⟨_, rfl⟩
  rw [hp] at hsm hbg ⊢
  obtain ⟨low, hlow⟩ : ∃ low, lowB a b = low := ⟨_, rfl⟩
  rw [hlow] at hsm
  unfold lowB at hlow
  clear ha hb hxe hye hp
  by_cases h : 0 < x ∧ 9223372036854775808 / x < y
  · have hno := hbg (big_mul h.1 h.2)
    have e : fitB p = false := fitB_no.2 hno
    have d1 : ((x : Int) != 0) = true := by rw [bne_iff_ne]; omega
    have d1' : ((x : Int) == 0) = false := by rw [beq_eq_false_iff_ne]; omega
    have d1'' : ¬ x = 0 := by omega
    have d2 : decide ((9223372036854775808 : Int) / (x : Int) < (y : Int)) = true := by
      rw [decide_eq_true_iff, ← big_div x]; have := h.2; omega
    have d2' : decide (9223372036854775808 / x < y) = true := decide_eq_true h.2
    have hq := IntWalk.u64_quo 9223372036854775808 (x : Int) (by omega)
    unfold RetN
    rw [e]
    clear h hbg hsm hlow e hx hy
    go_enter Tryz.func104, Tryz.ntmps104
    go_wp2_with fail
    refine (HA.out _).mono ?_
    rintro r w' ⟨rfl, rfl⟩
    go_wp2_with fail
    refine (HB.out _).mono ?_
    rintro r w' ⟨rfl, rfl⟩
    go_wp2_with fail
    exact bodyPost_ret (v := .tuple #[.int .i64 0, .bool false]) (by simp [results, Tryz.results104, go_sem]) rfl ⟨⟨_, rfl, fun h => absurd h hno⟩, rfl⟩
  · have hsml := small_mul h
    have hwr : IntKind.u64.wrap ((x : Int) * (y : Int)) = ((x * y : Nat) : Int) := by
      rw [← Int.natCast_mul]
      exact IntWalk.u64_in _ (by omega)
    have HS := Lib.hid (fun w => g6signed_any low (x * y) (by omega) w)
    rw [hsm] at HS
    have hlowb : (decide (a < 0) == decide (b < 0)) = !low := by rw [← hlow]; cases decide (a < 0) <;> cases decide (b < 0) <;> rfl
    have d2 : x = 0 ∨ (¬ x = 0 ∧ ((x : Int) != 0) = true ∧ decide ((9223372036854775808 : Int) / (x : Int) < (y : Int)) = false ∧ decide (9223372036854775808 / x < y) = false ∧ IntKind.u64.wrap ((9223372036854775808 : Int).tdiv (x : Int)) = 9223372036854775808 / (x : Int) ∧ ((x : Int) == 0) = false) := by
      by_cases h0 : x = 0
      · exact .inl h0
      · have h1 : ¬ 9223372036854775808 / x < y := fun hh => h ⟨by omega, hh⟩
        exact .inr ⟨h0, by rw [bne_iff_ne]; omega, by rw [decide_eq_false_iff_not, ← big_div x]; omega, decide_eq_false h1, IntWalk.u64_quo _ _ (by omega), by rw [beq_eq_false_iff_ne]; omega⟩
    clear h hbg hsm hx hy hsml hlow
    rcases d2 with rfl | ⟨d3, d, d2, d2', hq, d0⟩
    · rw [show ((0 : Nat) : Int) = 0 from rfl] at HA
      rw [Nat.zero_mul, show ((0 : Nat) : Int) = 0 from rfl] at HS
      clear hwr
      go_enter Tryz.func104, Tryz.ntmps104
      go_wp2_with fail
      refine (HA.out _).mono ?_
      rintro r w' ⟨rfl, rfl⟩
      go_wp2_with fail
      refine (HB.out _).mono ?_
      rintro r w' ⟨rfl, rfl⟩
      go_wp2_with fail
      refine (HS.out _).mono ?_
      rintro r w' ⟨⟨z, rfl, hz⟩, rfl⟩
      go_wp2_with fail
      exact bodyPost_ret (v := .tuple #[.int .i64 z, .bool (fitB p)]) (by simp [results, Tryz.results104, go_sem]) rfl ⟨⟨_, rfl, hz⟩, rfl⟩
    · go_enter Tryz.func104, Tryz.ntmps104
      go_wp2_with fail
      refine (HA.out _).mono ?_
      rintro r w' ⟨rfl, rfl⟩
      go_wp2_with fail
      refine (HB.out _).mono ?_
      rintro r w' ⟨rfl, rfl⟩
      go_wp2_with fail
      refine (HS.out _).mono ?_
      rintro r w' ⟨⟨z, rfl, hz⟩, rfl⟩
      go_wp2_with fail
      exact bodyPost_ret (v := .tuple #[.int .i64 z, .bool (fitB p)]) (by simp [results, Tryz.results104, go_sem]) rfl ⟨⟨_, rfl, hz⟩, rfl⟩

set_option maxRecDepth 100000 in
set_option maxHeartbeats 2000000 in
theorem g6sum_any (a b : Int) (ha : inI a) (hb : inI b) (w : World) : Calls Tryz.prog 105 #[.int .i64 a, .int .i64 b] w (RetN (a + b) w) := by
  have HA := Lib.hid (g6half_any a ha)
  have HB := Lib.hid (g6half_any b hb)
  obtain ⟨a0, a1⟩ := ha
  obtain ⟨b0, b1⟩ := hb
  by_cases h : (a < 0 ∧ ¬ b < 0) ∨ (¬ a < 0 ∧ b < 0)
  · have hin : inI (a + b) := by unfold inI; omega
    have hw : wrap64 (a + b) = a + b := IntWalk.wrap64_in _ hin
    have HR : Hid (RetN (a + b) w (.returned (.tuple #[.int .i64 (a + b), .bool true])) w) := Lib.hid ⟨⟨a + b, by rw [fitB_iff.2 hin], fun _ => rfl⟩, rfl⟩
    clear hin
    rcases h with ⟨h1, h2⟩ | ⟨h1, h2⟩
    · have d1 : decide (a < 0) = true := decide_eq_true h1
      have d2 : decide (b < 0) = false := decide_eq_false h2
      clear h1 h2 a0 a1 b0 b1
      go_enter Tryz.func105, Tryz.ntmps105
      go_wp2_with fail
      exact bodyPost_ret (v := .tuple #[.int .i64 (a + b), .bool true]) (by simp [results, Tryz.results105, go_sem, hw]) rfl HR.out
    · have d1 : decide (a < 0) = false := decide_eq_false h1
      have d2 : decide (b < 0) = true := decide_eq_true h2
      clear h1 h2 a0 a1 b0 b1
      go_enter Tryz.func105, Tryz.ntmps105
      go_wp2_with fail
      exact bodyPost_ret (v := .tuple #[.int .i64 (a + b), .bool true]) (by simp [results, Tryz.results105, go_sem, hw]) rfl HR.out
  · have hx : a.natAbs ≤ 9223372036854775808 := by omega
    have hy : b.natAbs ≤ 9223372036854775808 := by omega
    have hab : decide (b < 0) = decide (a < 0) := by rw [decide_eq_decide]; omega
    have hs : signG (decide (a < 0)) (a.natAbs + b.natAbs) = a + b := by
      unfold signG
      by_cases h1 : a < 0
      · rw [if_pos (decide_eq_true h1)]; omega
      · rw [if_neg (by simp [h1])]; omega
    have hbig : 18446744073709551615 < a.natAbs + b.natAbs → ¬ inI (a + b) := by intro hh; unfold inI; omega
    obtain ⟨x, hxe⟩ : ∃ x, a.natAbs = x := ⟨_, rfl⟩
    obtain ⟨y, hye⟩ : ∃ y, b.natAbs = y := ⟨_, rfl⟩
    rw [hxe] at HA hx hs hbig
    rw [hye] at HB hy hs hbig
    obtain ⟨p, hp⟩ : ∃ p, a + b = p := ⟨_, rfl⟩
    obtain ⟨low, hlow⟩ : ∃ low, decide (a < 0) = low := ⟨_, rfl⟩
    rw [hp] at hs hbig ⊢
    rw [hlow] at hab hs
    clear hxe hye hp h a0 a1 b0 b1
    by_cases hov : 18446744073709551615 < x + y
    · have hno := hbig hov
      have e : fitB p = false := fitB_no.2 hno
      have ex : x = 9223372036854775808 := by omega
      have ey : y = 9223372036854775808 := by omega
      subst ex ey
      unfold RetN
      rw [e]
      have hwr : IntKind.u64.wrap ((9223372036854775808 : Int) + 9223372036854775808) = 0 := by rw [IntKind.wrap_u64]; decide
      clear hs hbig e hov hx hy
      go_enter Tryz.func105, Tryz.ntmps105
      go_wp2_with fail
      refine (HA.out _).mono ?_
      rintro r w' ⟨rfl, rfl⟩
      go_wp2_with fail
      refine (HB.out _).mono ?_
      rintro r w' ⟨rfl, rfl⟩
      go_wp2_with fail
      exact bodyPost_ret (v := .tuple #[.int .i64 0, .bool false]) (by simp [results, Tryz.results105, go_sem]) rfl ⟨⟨_, rfl, fun h => absurd h hno⟩, rfl⟩
    · have HS := Lib.hid (fun w => g6signed_any low (x + y) (by omega) w)
      rw [hs] at HS
      simp only [Int.natCast_add] at HS
      have hwr : IntKind.u64.wrap ((x : Int) + (y : Int)) = (x : Int) + (y : Int) := IntWalk.u64_in _ (by omega)
      have d : decide ((x : Int) + (y : Int) < (x : Int)) = false := by rw [decide_eq_false_iff_not]; omega
      have d' : decide (x + y < x) = false := by rw [decide_eq_false_iff_not]; omega
      clear hs hbig hov hx hy
      go_enter Tryz.func105, Tryz.ntmps105
      go_wp2_with fail
      refine (HA.out _).mono ?_
      rintro r w' ⟨rfl, rfl⟩
      go_wp2_with fail
      refine (HB.out _).mono ?_
      rintro r w' ⟨rfl, rfl⟩
      go_wp2_with fail
      refine (HS.out _).mono ?_
      rintro r w' ⟨⟨z, rfl, hz⟩, rfl⟩
      go_wp2_with fail
      exact bodyPost_ret (v := .tuple #[.int .i64 z, .bool (fitB p)]) (by simp [results, Tryz.results105, go_sem]) rfl ⟨⟨_, rfl, hz⟩, rfl⟩
end Go.Proofs.YtidomoibhjgkjaaGreatDoor

/-
  What two numbers come to, how two values stand, of which kind both are: the document's own answers.
-/
namespace Go.Proofs.YtidomoibhjgkjaaGreatDoor
open Go.RowKit

theorem sign_tdiv (a b : Int) : signG (lowB a b) (a.natAbs / b.natAbs) = a.tdiv b := by
  have h1 : (a.tdiv b).natAbs = a.natAbs / b.natAbs := Int.natAbs_tdiv a b
  rw [← h1]
  unfold signG lowB
  by_cases ha : a < 0 <;> by_cases hb : b < 0
  · have h := Int.tdiv_nonneg_of_nonpos_of_nonpos (show a ≤ 0 by omega) (show b ≤ 0 by omega)
    rw [if_neg (by simp [ha, hb])]
    omega
  · have h := Int.tdiv_nonneg (a := -a) (b := b) (by omega) (by omega)
    rw [Int.neg_tdiv] at h
    rw [if_pos (by simp [ha, hb])]
    omega
  · have h := Int.tdiv_nonpos_of_nonneg_of_nonpos (show 0 ≤ a by omega) (show b ≤ 0 by omega)
    rw [if_pos (by simp [ha, hb])]
    omega
  · have h := Int.tdiv_nonneg (show 0 ≤ a by omega) (show 0 ≤ b by omega)
    rw [if_neg (by simp [ha, hb])]
    omega
theorem sign_tmod (a b : Int) : signG (decide (a < 0)) (a.natAbs % b.natAbs) = a.tmod b := by
  have h1 : (a.tmod b).natAbs = a.natAbs % b.natAbs := Int.natAbs_tmod a b
  rw [← h1]
  unfold signG
  rcases tmod_sign a b with h | h
  · rw [h]; simp
  · by_cases ha : a < 0
    · rw [if_pos (decide_eq_true ha)]; have := h.2 ha; omega
    · rw [if_neg (by simp [ha])]; omega
def kindB (a b : V) : Int := if a.k = b.k then a.k else 0
set_option maxHeartbeats 1000000 in
theorem g6kind_any (a b : V) (w : World) : Calls Tryz.prog 64 #[a.val, b.val] w fun r w' => r = .returned (.int .i64 (kindB a b)) ∧ Below w.heap.size w w' := by
  obtain ⟨ak, an, sa⟩ := a
  obtain ⟨bk, bn, sb⟩ := b
  simp only [V.val]
  have HB := Lib.hid ((box_below w #[.int .i64 ak, .int .i64 an, .string sa] 27).trans ((box_below (w.alloc (.cells #[.int .i64 ak, .int .i64 an, .string sa] 27)) #[.int .i64 bk, .int .i64 bn, .string sb] 27).mono (box_below w #[.int .i64 ak, .int .i64 an, .string sa] 27).size))
  by_cases h : ak = bk
  · have e : kindB ⟨ak, an, sa⟩ ⟨bk, bn, sb⟩ = ak := if_pos h
    rw [e]
    have d : (ak == bk) = true := by rw [beq_iff_eq]; exact h
    have d2 : (ak != bk) = false := by rw [bne_eq_false_iff_eq]; exact h
    clear e h
    go_enter Tryz.func64, Tryz.ntmps64
    go_wp2
    go_ret
    exact ⟨rfl, HB.out⟩
  · have e : kindB ⟨ak, an, sa⟩ ⟨bk, bn, sb⟩ = 0 := if_neg h
    rw [e]
    have d : (ak == bk) = false := by rw [beq_eq_false_iff_ne]; exact h
    have d2 : (ak != bk) = true := by rw [bne_iff_ne]; exact h
    clear e h
    go_enter Tryz.func64, Tryz.ntmps64
    go_wp2
    go_ret
    exact ⟨rfl, HB.out⟩
set_option maxRecDepth 100000 in
set_option maxHeartbeats 1000000 in
theorem g6stands11_any (a b : V) (w : World) : Calls Tryz.prog 65 #[.int .i64 11, a.val, b.val] w fun r w' => r = .returned (.bool (standV 11 a b)) ∧ Below w.heap.size w w' := by
  obtain ⟨ak, an, sa⟩ := a
  obtain ⟨bk, bn, sb⟩ := b
  simp only [V.val]
  have HB := Lib.hid ((box_below w #[.int .i64 ak, .int .i64 an, .string sa] 27).trans ((box_below (w.alloc (.cells #[.int .i64 ak, .int .i64 an, .string sa] 27)) #[.int .i64 bk, .int .i64 bn, .string sb] 27).mono (box_below w #[.int .i64 ak, .int .i64 an, .string sa] 27).size))
  by_cases hk : ak = 3
  · subst hk
    have hX : standV 11 ⟨3, an, sa⟩ ⟨bk, bn, sb⟩ = (blt sa.data.toList sb.data.toList) := rfl
    rw [hX]
    clear hX
    have e1 : Op.bytesLess sa.toList sb.toList = blt sa.data.toList sb.data.toList := by rw [ByteArray.toList_eq, ByteArray.toList_eq]
    have e2 : Op.bytesLess sb.toList sa.toList = blt sb.data.toList sa.data.toList := by rw [ByteArray.toList_eq, ByteArray.toList_eq]
    rcases blt_tri sa.data.toList sb.data.toList with h | h | h
    · have hl : blt sa.data.toList sb.data.toList = true := h
      have hg : blt sb.data.toList sa.data.toList = false := blt_asymm h
      have hq : (sa.toList == sb.toList) = false := by rw [ByteArray.toList_eq, ByteArray.toList_eq]; rw [beq_eq_false_iff_ne]; intro e; rw [e, blt_self] at hl; cases hl
      rw [hl] at e1
      rw [hg] at e2
      rw [hl]
      have hqq : (Op.bytesLess sa.toList sb.toList || sa.toList == sb.toList) = true := by rw [e1, hq]; rfl
      clear h hl hg
      go_enter Tryz.func65, Tryz.ntmps65
      go_wp2
      go_region
      go_wp2
      go_region
      go_wp2
      go_ret
      exact ⟨rfl, HB.out.drew.drew⟩
    · have hl : blt sa.data.toList sb.data.toList = false := by rw [h]; exact blt_self _
      have hg : blt sb.data.toList sa.data.toList = false := by rw [h]; exact blt_self _
      have hq : (sa.toList == sb.toList) = true := by rw [ByteArray.toList_eq, ByteArray.toList_eq]; rw [h]; exact beq_self_eq_true _
      rw [hl] at e1
      rw [hg] at e2
      rw [hl]
      have hqq : (Op.bytesLess sa.toList sb.toList || sa.toList == sb.toList) = true := by rw [e1, hq]; rfl
      clear h hl hg
      go_enter Tryz.func65, Tryz.ntmps65
      go_wp2
      go_region
      go_wp2
      go_region
      go_wp2
      go_ret
      exact ⟨rfl, HB.out.drew.drew⟩
    · have hl : blt sa.data.toList sb.data.toList = false := blt_asymm h
      have hg : blt sb.data.toList sa.data.toList = true := h
      have hq : (sa.toList == sb.toList) = false := by rw [ByteArray.toList_eq, ByteArray.toList_eq]; rw [beq_eq_false_iff_ne]; intro e; rw [e, blt_self] at hg; cases hg
      rw [hl] at e1
      rw [hg] at e2
      rw [hl]
      have hqq : (Op.bytesLess sa.toList sb.toList || sa.toList == sb.toList) = false := by rw [e1, hq]; rfl
      clear h hl hg
      go_enter Tryz.func65, Tryz.ntmps65
      go_wp2
      go_region
      go_wp2
      go_region
      go_wp2
      go_ret
      exact ⟨rfl, HB.out.drew.drew⟩
  · have hX : standV 11 ⟨ak, an, sa⟩ ⟨bk, bn, sb⟩ = (decide (an < bn)) := by unfold standV lessV; simp [hk]
    rw [hX]
    have k3 : (ak == 3) = false := by rw [beq_eq_false_iff_ne]; exact hk
    clear hX hk
    go_enter Tryz.func65, Tryz.ntmps65
    go_wp2
    go_region
    go_wp2
    go_ret
    exact ⟨rfl, HB.out.drew⟩
set_option maxRecDepth 100000 in
set_option maxHeartbeats 1000000 in
theorem g6stands12_any (a b : V) (hab : a.k = b.k) (w : World) : Calls Tryz.prog 65 #[.int .i64 12, a.val, b.val] w fun r w' => r = .returned (.bool (standV 12 a b)) ∧ Below w.heap.size w w' := by
  obtain ⟨ak, an, sa⟩ := a
  obtain ⟨bk, bn, sb⟩ := b
  simp only [V.val]
  simp only at hab
  have HB := Lib.hid ((box_below w #[.int .i64 ak, .int .i64 an, .string sa] 27).trans ((box_below (w.alloc (.cells #[.int .i64 ak, .int .i64 an, .string sa] 27)) #[.int .i64 bk, .int .i64 bn, .string sb] 27).mono (box_below w #[.int .i64 ak, .int .i64 an, .string sa] 27).size))
  by_cases hk : ak = 3
  · subst hk
    subst hab
    have hX : standV 12 ⟨3, an, sa⟩ ⟨3, bn, sb⟩ = (!blt sb.data.toList sa.data.toList) := rfl
    rw [hX]
    clear hX
    have e1 : Op.bytesLess sa.toList sb.toList = blt sa.data.toList sb.data.toList := by rw [ByteArray.toList_eq, ByteArray.toList_eq]
    have e2 : Op.bytesLess sb.toList sa.toList = blt sb.data.toList sa.data.toList := by rw [ByteArray.toList_eq, ByteArray.toList_eq]
    rcases blt_tri sa.data.toList sb.data.toList with h | h | h
    · have hl : blt sa.data.toList sb.data.toList = true := h
      have hg : blt sb.data.toList sa.data.toList = false := blt_asymm h
      have hq : (sa.toList == sb.toList) = false := by rw [ByteArray.toList_eq, ByteArray.toList_eq]; rw [beq_eq_false_iff_ne]; intro e; rw [e, blt_self] at hl; cases hl
      rw [hl] at e1
      rw [hg] at e2
      rw [hg]
      have hqq : (Op.bytesLess sa.toList sb.toList || sa.toList == sb.toList) = true := by rw [e1, hq]; rfl
      clear h hl hg
      go_enter Tryz.func65, Tryz.ntmps65
      go_wp2
      go_region
      go_wp2
      go_region
      go_wp2
      go_ret
      exact ⟨rfl, HB.out.drew.drew⟩
    · have hl : blt sa.data.toList sb.data.toList = false := by rw [h]; exact blt_self _
      have hg : blt sb.data.toList sa.data.toList = false := by rw [h]; exact blt_self _
      have hq : (sa.toList == sb.toList) = true := by rw [ByteArray.toList_eq, ByteArray.toList_eq]; rw [h]; exact beq_self_eq_true _
      rw [hl] at e1
      rw [hg] at e2
      rw [hg]
      have hqq : (Op.bytesLess sa.toList sb.toList || sa.toList == sb.toList) = true := by rw [e1, hq]; rfl
      clear h hl hg
      go_enter Tryz.func65, Tryz.ntmps65
      go_wp2
      go_region
      go_wp2
      go_region
      go_wp2
      go_ret
      exact ⟨rfl, HB.out.drew.drew⟩
    · have hl : blt sa.data.toList sb.data.toList = false := blt_asymm h
      have hg : blt sb.data.toList sa.data.toList = true := h
      have hq : (sa.toList == sb.toList) = false := by rw [ByteArray.toList_eq, ByteArray.toList_eq]; rw [beq_eq_false_iff_ne]; intro e; rw [e, blt_self] at hg; cases hg
      rw [hl] at e1
      rw [hg] at e2
      rw [hg]
      have hqq : (Op.bytesLess sa.toList sb.toList || sa.toList == sb.toList) = false := by rw [e1, hq]; rfl
      clear h hl hg
      go_enter Tryz.func65, Tryz.ntmps65
      go_wp2
      go_region
      go_wp2
      go_region
      go_wp2
      go_ret
      exact ⟨rfl, HB.out.drew.drew⟩
  · have hkb : ¬ bk = 3 := by omega
    have hX : standV 12 ⟨ak, an, sa⟩ ⟨bk, bn, sb⟩ = (!decide (bn < an)) := by unfold standV lessV; simp [hk, hkb]
    rw [hX]
    have k3 : (ak == 3) = false := by rw [beq_eq_false_iff_ne]; exact hk
    clear hX hk hkb hab
    go_enter Tryz.func65, Tryz.ntmps65
    go_wp2
    go_region
    go_wp2
    go_ret
    exact ⟨rfl, HB.out.drew⟩
set_option maxRecDepth 100000 in
set_option maxHeartbeats 1000000 in
theorem g6stands13_any (a b : V) (hab : a.k = b.k) (w : World) : Calls Tryz.prog 65 #[.int .i64 13, a.val, b.val] w fun r w' => r = .returned (.bool (standV 13 a b)) ∧ Below w.heap.size w w' := by
  obtain ⟨ak, an, sa⟩ := a
  obtain ⟨bk, bn, sb⟩ := b
  simp only [V.val]
  simp only at hab
  have HB := Lib.hid ((box_below w #[.int .i64 ak, .int .i64 an, .string sa] 27).trans ((box_below (w.alloc (.cells #[.int .i64 ak, .int .i64 an, .string sa] 27)) #[.int .i64 bk, .int .i64 bn, .string sb] 27).mono (box_below w #[.int .i64 ak, .int .i64 an, .string sa] 27).size))
  by_cases hk : ak = 3
  · subst hk
    subst hab
    have hX : standV 13 ⟨3, an, sa⟩ ⟨3, bn, sb⟩ = (blt sb.data.toList sa.data.toList) := rfl
    rw [hX]
    clear hX
    have e1 : Op.bytesLess sa.toList sb.toList = blt sa.data.toList sb.data.toList := by rw [ByteArray.toList_eq, ByteArray.toList_eq]
    have e2 : Op.bytesLess sb.toList sa.toList = blt sb.data.toList sa.data.toList := by rw [ByteArray.toList_eq, ByteArray.toList_eq]
    rcases blt_tri sa.data.toList sb.data.toList with h | h | h
    · have hl : blt sa.data.toList sb.data.toList = true := h
      have hg : blt sb.data.toList sa.data.toList = false := blt_asymm h
      have hq : (sa.toList == sb.toList) = false := by rw [ByteArray.toList_eq, ByteArray.toList_eq]; rw [beq_eq_false_iff_ne]; intro e; rw [e, blt_self] at hl; cases hl
      rw [hl] at e1
      rw [hg] at e2
      rw [hg]
      have hqq : (Op.bytesLess sa.toList sb.toList || sa.toList == sb.toList) = true := by rw [e1, hq]; rfl
      clear h hl hg
      go_enter Tryz.func65, Tryz.ntmps65
      go_wp2
      go_region
      go_wp2
      go_region
      go_wp2
      go_ret
      exact ⟨rfl, HB.out.drew.drew⟩
    · have hl : blt sa.data.toList sb.data.toList = false := by rw [h]; exact blt_self _
      have hg : blt sb.data.toList sa.data.toList = false := by rw [h]; exact blt_self _
      have hq : (sa.toList == sb.toList) = true := by rw [ByteArray.toList_eq, ByteArray.toList_eq]; rw [h]; exact beq_self_eq_true _
      rw [hl] at e1
      rw [hg] at e2
      rw [hg]
      have hqq : (Op.bytesLess sa.toList sb.toList || sa.toList == sb.toList) = true := by rw [e1, hq]; rfl
      clear h hl hg
      go_enter Tryz.func65, Tryz.ntmps65
      go_wp2
      go_region
      go_wp2
      go_region
      go_wp2
      go_ret
      exact ⟨rfl, HB.out.drew.drew⟩
    · have hl : blt sa.data.toList sb.data.toList = false := blt_asymm h
      have hg : blt sb.data.toList sa.data.toList = true := h
      have hq : (sa.toList == sb.toList) = false := by rw [ByteArray.toList_eq, ByteArray.toList_eq]; rw [beq_eq_false_iff_ne]; intro e; rw [e, blt_self] at hg; cases hg
      rw [hl] at e1
      rw [hg] at e2
      rw [hg]
      have hqq : (Op.bytesLess sa.toList sb.toList || sa.toList == sb.toList) = false := by rw [e1, hq]; rfl
      clear h hl hg
      go_enter Tryz.func65, Tryz.ntmps65
      go_wp2
      go_region
      go_wp2
      go_region
      go_wp2
      go_ret
      exact ⟨rfl, HB.out.drew.drew⟩
  · have hkb : ¬ bk = 3 := by omega
    have hX : standV 13 ⟨ak, an, sa⟩ ⟨bk, bn, sb⟩ = (decide (bn < an)) := by unfold standV lessV; simp [hk, hkb]
    rw [hX]
    have k3 : (ak == 3) = false := by rw [beq_eq_false_iff_ne]; exact hk
    clear hX hk hkb hab
    go_enter Tryz.func65, Tryz.ntmps65
    go_wp2
    go_region
    go_wp2
    go_ret
    exact ⟨rfl, HB.out.drew⟩
set_option maxRecDepth 100000 in
set_option maxHeartbeats 1000000 in
theorem g6stands14_any (a b : V) (w : World) : Calls Tryz.prog 65 #[.int .i64 14, a.val, b.val] w fun r w' => r = .returned (.bool (standV 14 a b)) ∧ Below w.heap.size w w' := by
  obtain ⟨ak, an, sa⟩ := a
  obtain ⟨bk, bn, sb⟩ := b
  simp only [V.val]
  have HB := Lib.hid ((box_below w #[.int .i64 ak, .int .i64 an, .string sa] 27).trans ((box_below (w.alloc (.cells #[.int .i64 ak, .int .i64 an, .string sa] 27)) #[.int .i64 bk, .int .i64 bn, .string sb] 27).mono (box_below w #[.int .i64 ak, .int .i64 an, .string sa] 27).size))
  by_cases hk : ak = 3
  · subst hk
    have hX : standV 14 ⟨3, an, sa⟩ ⟨bk, bn, sb⟩ = (!blt sa.data.toList sb.data.toList) := rfl
    rw [hX]
    clear hX
    have e1 : Op.bytesLess sa.toList sb.toList = blt sa.data.toList sb.data.toList := by rw [ByteArray.toList_eq, ByteArray.toList_eq]
    have e2 : Op.bytesLess sb.toList sa.toList = blt sb.data.toList sa.data.toList := by rw [ByteArray.toList_eq, ByteArray.toList_eq]
    rcases blt_tri sa.data.toList sb.data.toList with h | h | h
    · have hl : blt sa.data.toList sb.data.toList = true := h
      have hg : blt sb.data.toList sa.data.toList = false := blt_asymm h
      have hq : (sa.toList == sb.toList) = false := by rw [ByteArray.toList_eq, ByteArray.toList_eq]; rw [beq_eq_false_iff_ne]; intro e; rw [e, blt_self] at hl; cases hl
      rw [hl] at e1
      rw [hg] at e2
      rw [hl]
      have hqq : (Op.bytesLess sa.toList sb.toList || sa.toList == sb.toList) = true := by rw [e1, hq]; rfl
      clear h hl hg
      go_enter Tryz.func65, Tryz.ntmps65
      go_wp2
      go_region
      go_wp2
      go_region
      go_wp2
      go_ret
      exact ⟨rfl, HB.out.drew.drew⟩
    · have hl : blt sa.data.toList sb.data.toList = false := by rw [h]; exact blt_self _
      have hg : blt sb.data.toList sa.data.toList = false := by rw [h]; exact blt_self _
      have hq : (sa.toList == sb.toList) = true := by rw [ByteArray.toList_eq, ByteArray.toList_eq]; rw [h]; exact beq_self_eq_true _
      rw [hl] at e1
      rw [hg] at e2
      rw [hl]
      have hqq : (Op.bytesLess sa.toList sb.toList || sa.toList == sb.toList) = true := by rw [e1, hq]; rfl
      clear h hl hg
      go_enter Tryz.func65, Tryz.ntmps65
      go_wp2
      go_region
      go_wp2
      go_region
      go_wp2
      go_ret
      exact ⟨rfl, HB.out.drew.drew⟩
    · have hl : blt sa.data.toList sb.data.toList = false := blt_asymm h
      have hg : blt sb.data.toList sa.data.toList = true := h
      have hq : (sa.toList == sb.toList) = false := by rw [ByteArray.toList_eq, ByteArray.toList_eq]; rw [beq_eq_false_iff_ne]; intro e; rw [e, blt_self] at hg; cases hg
      rw [hl] at e1
      rw [hg] at e2
      rw [hl]
      have hqq : (Op.bytesLess sa.toList sb.toList || sa.toList == sb.toList) = false := by rw [e1, hq]; rfl
      clear h hl hg
      go_enter Tryz.func65, Tryz.ntmps65
      go_wp2
      go_region
      go_wp2
      go_region
      go_wp2
      go_ret
      exact ⟨rfl, HB.out.drew.drew⟩
  · have hX : standV 14 ⟨ak, an, sa⟩ ⟨bk, bn, sb⟩ = (!decide (an < bn)) := by unfold standV lessV; simp [hk]
    rw [hX]
    have k3 : (ak == 3) = false := by rw [beq_eq_false_iff_ne]; exact hk
    clear hX hk
    go_enter Tryz.func65, Tryz.ntmps65
    go_wp2
    go_region
    go_wp2
    go_ret
    exact ⟨rfl, HB.out.drew⟩
set_option maxRecDepth 100000 in
set_option maxHeartbeats 1000000 in
theorem g6nums6_any (a b : Int) (ha : inI a) (hb : inI b) (w : World) : Calls Tryz.prog 66 #[.int .i64 6, .int .i64 a, .int .i64 b] w (RetG (numsV 6 a b) w) := by
  have HS := Lib.hid (fun W => g6product_any a b ha hb W)
  unfold RetN at HS
  rw [show numsV 6 a b = fitV (a * b) from rfl]
  obtain ⟨X, hX⟩ : ∃ X, fitV (a * b) = X := ⟨_, rfl⟩
  rw [hX]
  obtain ⟨z, hz⟩ : ∃ z, a * b = z := ⟨_, rfl⟩
  rw [hz] at hX HS
  by_cases hin : inI z
  · have HX : Hid (X = (numG z, 0)) := Lib.hid (by rw [← hX, fitV_in hin])
    have d : fitB z = true := fitB_iff.2 hin
    rw [d] at HS
    have HIN := Lib.hid hin
    clear hX hz d hin
    have HX0 := Lib.hid (Boxed.new w 0 0 ⟨#[]⟩)
    have HB0 := Lib.hid (box_below w #[.int .i64 0, .int .i64 0, .string ⟨#[]⟩] 27)
    go_enter Tryz.func66, Tryz.ntmps66
    go_wp2_with fail
    refine (HS.out _).mono ?_
    rintro r w5 ⟨⟨n, rfl, hn⟩, rfl⟩
    obtain rfl := hn HIN.out
    clear hn
    go_wp2_with fail
    refine (g6number_any n _).mono ?_
    rintro r w1 ⟨rfl, hb⟩
    have HXb := Lib.hid (HX0.out.below hb)
    have HBb := Lib.hid (HB0.out.trans (hb.mono HB0.out.size))
    clear hb HX0 HB0
    obtain ⟨r0, r1, r2⟩ := HXb.out.cells
    have f0 := HXb.out.frozen 0
    have f1 := HXb.out.frozen 1
    have f2 := HXb.out.frozen 2
    obtain ⟨t0, t1, t2⟩ := (HXb.out.set3' 1 n ⟨#[]⟩).cells
    have HP := Lib.hid (Below.set3' HBb.out (Nat.le_refl _) (.int .i64 1) (.int .i64 n) (.string ⟨#[]⟩))
    go_wp2
    exact bodyPost_ret (v := .tuple #[.agg #[.int .i64 1, .int .i64 n, .string ⟨#[]⟩], .int .i64 0]) (by simp [results, Tryz.results66, go_sem, t0, t1, t2]) rfl ⟨by rw [HX.out]; rfl, HP.out⟩
  · have HX : Hid (X = (V0, 9)) := Lib.hid (by rw [← hX, fitV_out hin])
    have d : fitB z = false := fitB_no.2 hin
    rw [d] at HS
    clear hX hz d hin
    have HX0 := Lib.hid (Boxed.new w 0 0 ⟨#[]⟩)
    have HB0 := Lib.hid (box_below w #[.int .i64 0, .int .i64 0, .string ⟨#[]⟩] 27)
    go_enter Tryz.func66, Tryz.ntmps66
    go_wp2_with fail
    refine (HS.out _).mono ?_
    rintro r w5 ⟨⟨n, rfl, hn⟩, rfl⟩
    go_wp2_with fail
    exact bodyPost_ret (v := .tuple #[.agg #[.int .i64 0, .int .i64 0, .string ⟨#[]⟩], .int .i64 9]) (by simp [results, Tryz.results66, go_sem]) rfl ⟨by rw [HX.out]; rfl, HB0.out⟩
set_option maxRecDepth 100000 in
set_option maxHeartbeats 1000000 in
theorem g6nums9_any (a b : Int) (ha : inI a) (hb : inI b) (w : World) : Calls Tryz.prog 66 #[.int .i64 9, .int .i64 a, .int .i64 b] w (RetG (numsV 9 a b) w) := by
  have HS := Lib.hid (fun W => g6sum_any a b ha hb W)
  unfold RetN at HS
  rw [show numsV 9 a b = fitV (a + b) from rfl]
  obtain ⟨X, hX⟩ : ∃ X, fitV (a + b) = X := ⟨_, rfl⟩
  rw [hX]
  obtain ⟨z, hz⟩ : ∃ z, a + b = z := ⟨_, rfl⟩
  rw [hz] at hX HS
  by_cases hin : inI z
  · have HX : Hid (X = (numG z, 0)) := Lib.hid (by rw [← hX, fitV_in hin])
    have d : fitB z = true := fitB_iff.2 hin
    rw [d] at HS
    have HIN := Lib.hid hin
    clear hX hz d hin
    have HX0 := Lib.hid (Boxed.new w 0 0 ⟨#[]⟩)
    have HB0 := Lib.hid (box_below w #[.int .i64 0, .int .i64 0, .string ⟨#[]⟩] 27)
    go_enter Tryz.func66, Tryz.ntmps66
    go_wp2_with fail
    refine (HS.out _).mono ?_
    rintro r w5 ⟨⟨n, rfl, hn⟩, rfl⟩
    obtain rfl := hn HIN.out
    clear hn
    go_wp2_with fail
    refine (g6number_any n _).mono ?_
    rintro r w1 ⟨rfl, hb⟩
    have HXb := Lib.hid (HX0.out.below hb)
    have HBb := Lib.hid (HB0.out.trans (hb.mono HB0.out.size))
    clear hb HX0 HB0
    obtain ⟨r0, r1, r2⟩ := HXb.out.cells
    have f0 := HXb.out.frozen 0
    have f1 := HXb.out.frozen 1
    have f2 := HXb.out.frozen 2
    obtain ⟨t0, t1, t2⟩ := (HXb.out.set3' 1 n ⟨#[]⟩).cells
    have HP := Lib.hid (Below.set3' HBb.out (Nat.le_refl _) (.int .i64 1) (.int .i64 n) (.string ⟨#[]⟩))
    go_wp2
    exact bodyPost_ret (v := .tuple #[.agg #[.int .i64 1, .int .i64 n, .string ⟨#[]⟩], .int .i64 0]) (by simp [results, Tryz.results66, go_sem, t0, t1, t2]) rfl ⟨by rw [HX.out]; rfl, HP.out⟩
  · have HX : Hid (X = (V0, 9)) := Lib.hid (by rw [← hX, fitV_out hin])
    have d : fitB z = false := fitB_no.2 hin
    rw [d] at HS
    clear hX hz d hin
    have HX0 := Lib.hid (Boxed.new w 0 0 ⟨#[]⟩)
    have HB0 := Lib.hid (box_below w #[.int .i64 0, .int .i64 0, .string ⟨#[]⟩] 27)
    go_enter Tryz.func66, Tryz.ntmps66
    go_wp2_with fail
    refine (HS.out _).mono ?_
    rintro r w5 ⟨⟨n, rfl, hn⟩, rfl⟩
    go_wp2_with fail
    exact bodyPost_ret (v := .tuple #[.agg #[.int .i64 0, .int .i64 0, .string ⟨#[]⟩], .int .i64 9]) (by simp [results, Tryz.results66, go_sem]) rfl ⟨by rw [HX.out]; rfl, HB0.out⟩
set_option maxRecDepth 100000 in
set_option maxHeartbeats 1000000 in
theorem g6nums10_any (a b : Int) (ha : inI a) (hb : inI b) (w : World) : Calls Tryz.prog 66 #[.int .i64 10, .int .i64 a, .int .i64 b] w (RetG (numsV 10 a b) w) := by
  rw [show numsV 10 a b = fitV (a - b) from rfl]
  by_cases hm : b = -9223372036854775808
  · subst hm
    rw [show a - -9223372036854775808 = a + 9223372036854775808 from by omega]
    have d1 : decide (a < 0) = fitB (a + 9223372036854775808) := by rw [Bool.eq_iff_iff, decide_eq_true_iff, fitB_iff]; obtain ⟨_, _⟩ := ha; unfold inI; omega
    obtain ⟨X, hX⟩ : ∃ X, fitV (a + 9223372036854775808) = X := ⟨_, rfl⟩
    rw [hX]
    obtain ⟨n, hz⟩ : ∃ z, a + 9223372036854775808 = z := ⟨_, rfl⟩
    by_cases hin : inI (a + 9223372036854775808)
    · have hw : wrap64 (a + 9223372036854775808) = n := by rw [← hz]; exact IntWalk.wrap64_in _ hin
      have HX : Hid (X = (numG n, 0)) := Lib.hid (by rw [← hX, fitV_in hin, hz])
      have d : decide (a < 0) = true := by rw [d1]; exact fitB_iff.2 hin
      clear hX hz d1 hin ha hb
      have HX0 := Lib.hid (Boxed.new w 0 0 ⟨#[]⟩)
      have HB0 := Lib.hid (box_below w #[.int .i64 0, .int .i64 0, .string ⟨#[]⟩] 27)
      go_enter Tryz.func66, Tryz.ntmps66
      go_wp2_with fail
      refine (g6number_any n _).mono ?_
      rintro r w1 ⟨rfl, hb⟩
      have HXb := Lib.hid (HX0.out.below hb)
      have HBb := Lib.hid (HB0.out.trans (hb.mono HB0.out.size))
      clear hb HX0 HB0
      obtain ⟨r0, r1, r2⟩ := HXb.out.cells
      have f0 := HXb.out.frozen 0
      have f1 := HXb.out.frozen 1
      have f2 := HXb.out.frozen 2
      obtain ⟨t0, t1, t2⟩ := (HXb.out.set3' 1 n ⟨#[]⟩).cells
      have HP := Lib.hid (Below.set3' HBb.out (Nat.le_refl _) (.int .i64 1) (.int .i64 n) (.string ⟨#[]⟩))
      go_wp2
      exact bodyPost_ret (v := .tuple #[.agg #[.int .i64 1, .int .i64 n, .string ⟨#[]⟩], .int .i64 0]) (by simp [results, Tryz.results66, go_sem, t0, t1, t2]) rfl ⟨by rw [HX.out]; rfl, HP.out⟩
    · have HX : Hid (X = (V0, 9)) := Lib.hid (by rw [← hX, fitV_out hin])
      have d : decide (a < 0) = false := by rw [d1]; exact fitB_no.2 hin
      clear hX hz d1 hin ha hb
      have HX0 := Lib.hid (Boxed.new w 0 0 ⟨#[]⟩)
      have HB0 := Lib.hid (box_below w #[.int .i64 0, .int .i64 0, .string ⟨#[]⟩] 27)
      go_enter Tryz.func66, Tryz.ntmps66
      go_wp2_with fail
      exact bodyPost_ret (v := .tuple #[.agg #[.int .i64 0, .int .i64 0, .string ⟨#[]⟩], .int .i64 9]) (by simp [results, Tryz.results66, go_sem]) rfl ⟨by rw [HX.out]; rfl, HB0.out⟩
  · have hnb : inI (-b) := by obtain ⟨_, _⟩ := hb; unfold inI; omega
    have HS := Lib.hid (fun W => g6sum_any a (-b) ha hnb W)
    unfold RetN at HS
    have hw : wrap64 (-b) = -b := IntWalk.wrap64_in _ hnb
    have d0 : (b != -9223372036854775808) = true := by rw [bne_iff_ne]; exact hm
    have d0' : (b == -9223372036854775808) = false := by rw [beq_eq_false_iff_ne]; exact hm
    rw [show a - b = a + -b from rfl]
    clear hnb hm
    obtain ⟨X, hX⟩ : ∃ X, fitV (a + -b) = X := ⟨_, rfl⟩
    rw [hX]
    obtain ⟨z, hz⟩ : ∃ z, a + -b = z := ⟨_, rfl⟩
    rw [hz] at hX HS
    by_cases hin : inI z
    · have HX : Hid (X = (numG z, 0)) := Lib.hid (by rw [← hX, fitV_in hin])
      have d : fitB z = true := fitB_iff.2 hin
      rw [d] at HS
      have HIN := Lib.hid hin
      clear hX hz d hin
      have HX0 := Lib.hid (Boxed.new w 0 0 ⟨#[]⟩)
      have HB0 := Lib.hid (box_below w #[.int .i64 0, .int .i64 0, .string ⟨#[]⟩] 27)
      go_enter Tryz.func66, Tryz.ntmps66
      go_wp2_with fail
      refine (HS.out _).mono ?_
      rintro r w5 ⟨⟨n, rfl, hn⟩, rfl⟩
      obtain rfl := hn HIN.out
      clear hn
      go_wp2_with fail
      refine (g6number_any n _).mono ?_
      rintro r w1 ⟨rfl, hb⟩
      have HXb := Lib.hid (HX0.out.below hb)
      have HBb := Lib.hid (HB0.out.trans (hb.mono HB0.out.size))
      clear hb HX0 HB0
      obtain ⟨r0, r1, r2⟩ := HXb.out.cells
      have f0 := HXb.out.frozen 0
      have f1 := HXb.out.frozen 1
      have f2 := HXb.out.frozen 2
      obtain ⟨t0, t1, t2⟩ := (HXb.out.set3' 1 n ⟨#[]⟩).cells
      have HP := Lib.hid (Below.set3' HBb.out (Nat.le_refl _) (.int .i64 1) (.int .i64 n) (.string ⟨#[]⟩))
      go_wp2
      exact bodyPost_ret (v := .tuple #[.agg #[.int .i64 1, .int .i64 n, .string ⟨#[]⟩], .int .i64 0]) (by simp [results, Tryz.results66, go_sem, t0, t1, t2]) rfl ⟨by rw [HX.out]; rfl, HP.out⟩
    · have HX : Hid (X = (V0, 9)) := Lib.hid (by rw [← hX, fitV_out hin])
      have d : fitB z = false := fitB_no.2 hin
      rw [d] at HS
      clear hX hz d hin
      have HX0 := Lib.hid (Boxed.new w 0 0 ⟨#[]⟩)
      have HB0 := Lib.hid (box_below w #[.int .i64 0, .int .i64 0, .string ⟨#[]⟩] 27)
      go_enter Tryz.func66, Tryz.ntmps66
      go_wp2_with fail
      refine (HS.out _).mono ?_
      rintro r w5 ⟨⟨n, rfl, hn⟩, rfl⟩
      go_wp2_with fail
      exact bodyPost_ret (v := .tuple #[.agg #[.int .i64 0, .int .i64 0, .string ⟨#[]⟩], .int .i64 9]) (by simp [results, Tryz.results66, go_sem]) rfl ⟨by rw [HX.out]; rfl, HB0.out⟩
set_option maxRecDepth 100000 in
set_option maxHeartbeats 1000000 in
theorem g6nums7_any (a b : Int) (ha : inI a) (hb : inI b) (w : World) : Calls Tryz.prog 66 #[.int .i64 7, .int .i64 a, .int .i64 b] w (RetG (numsV 7 a b) w) := by
  by_cases h0 : b = 0
  · subst h0
    have HX : Hid (numsV 7 a 0 = (V0, 62)) := Lib.hid rfl
    obtain ⟨X, hX⟩ : ∃ X, numsV 7 a 0 = X := ⟨_, rfl⟩
    rw [hX] at HX ⊢
    clear hX
    have HX0 := Lib.hid (Boxed.new w 0 0 ⟨#[]⟩)
    have HB0 := Lib.hid (box_below w #[.int .i64 0, .int .i64 0, .string ⟨#[]⟩] 27)
    go_enter Tryz.func66, Tryz.ntmps66
    go_wp2_with fail
    exact bodyPost_ret (v := .tuple #[.agg #[.int .i64 0, .int .i64 0, .string ⟨#[]⟩], .int .i64 62]) (by simp [results, Tryz.results66, go_sem]) rfl ⟨by rw [HX.out]; rfl, HB0.out⟩
  · have hNV : numsV 7 a b = fitV (a.tdiv b) := by unfold numsV; rw [if_neg (by decide), if_neg (by decide), if_neg (by decide), if_neg h0, if_pos rfl]
    rw [hNV]
    have HA := Lib.hid (g6half_any a ha)
    have HB := Lib.hid (g6half_any b hb)
    have hx : a.natAbs ≤ 9223372036854775808 := by obtain ⟨_, _⟩ := ha; omega
    have hy : b.natAbs ≤ 9223372036854775808 := by obtain ⟨_, _⟩ := hb; omega
    have hy0 : 1 ≤ b.natAbs := by omega
    have hsg := sign_tdiv a b
    have b0 : (b == 0) = false := by rw [beq_eq_false_iff_ne]; exact h0
    obtain ⟨x, hxe⟩ : ∃ x, a.natAbs = x := ⟨_, rfl⟩
    obtain ⟨y, hye⟩ : ∃ y, b.natAbs = y := ⟨_, rfl⟩
    rw [hxe] at HA hx hsg
    rw [hye] at HB hy hsg hy0
    obtain ⟨low, hlow⟩ : ∃ low, lowB a b = low := ⟨_, rfl⟩
    rw [hlow] at hsg
    unfold lowB at hlow
    have hlowb : (decide (a < 0) == decide (b < 0)) = !low := by rw [← hlow]; cases decide (a < 0) <;> cases decide (b < 0) <;> rfl
    clear hlow
    have y0 : ((y : Int) == 0) = false := by rw [beq_eq_false_iff_ne]; omega
    have y0n : ¬ y = 0 := by omega
    obtain ⟨Q, hQ⟩ : ∃ Q, x / y = Q := ⟨_, rfl⟩
    have hQx : Q ≤ x := by rw [← hQ]; exact Nat.div_le_self x y
    have hq1 : IntKind.u64.wrap ((x : Int).tdiv (y : Int)) = (Q : Int) := by
      rw [IntWalk.up_tdiv rfl rfl, hQ]
      exact IntWalk.u64_in _ (by omega)
    have hq2 : (x : Int) / (y : Int) = (Q : Int) := by rw [IntWalk.up_div rfl rfl, hQ]
    have hq3 : IntKind.u64.wrap (Q : Int) = (Q : Int) := IntWalk.u64_in _ (by omega)
    rw [hQ] at hsg
    have HS := Lib.hid (fun W => g6signed_any low Q (by omega) W)
    rw [hsg] at HS
    clear hx hy hy0 hsg hQ hQx h0 hxe hye hNV ha hb
    obtain ⟨X, hX⟩ : ∃ X, fitV (a.tdiv b) = X := ⟨_, rfl⟩
    rw [hX]
    obtain ⟨z, hz⟩ : ∃ z, a.tdiv b = z := ⟨_, rfl⟩
    rw [hz] at hX HS
    by_cases hin : inI z
    · have HX : Hid (X = (numG z, 0)) := Lib.hid (by rw [← hX, fitV_in hin])
      have d : fitB z = true := fitB_iff.2 hin
      rw [d] at HS
      have HIN := Lib.hid hin
      clear hX hz d hin
      have HX0 := Lib.hid (Boxed.new w 0 0 ⟨#[]⟩)
      have HB0 := Lib.hid (box_below w #[.int .i64 0, .int .i64 0, .string ⟨#[]⟩] 27)
      go_enter Tryz.func66, Tryz.ntmps66
      go_wp2_with fail
      refine (HA.out _).mono ?_
      rintro r w5 ⟨rfl, rfl⟩
      go_wp2_with fail
      refine (HB.out _).mono ?_
      rintro r w5 ⟨rfl, rfl⟩
      go_wp2_with fail
      refine (HS.out _).mono ?_
      rintro r w5 ⟨⟨n, rfl, hn⟩, rfl⟩
      obtain rfl := hn HIN.out
      clear hn
      go_wp2_with fail
      refine (g6number_any n _).mono ?_
      rintro r w1 ⟨rfl, hb⟩
      have HXb := Lib.hid (HX0.out.below hb)
      have HBb := Lib.hid (HB0.out.trans (hb.mono HB0.out.size))
      clear hb HX0 HB0
      obtain ⟨r0, r1, r2⟩ := HXb.out.cells
      have f0 := HXb.out.frozen 0
      have f1 := HXb.out.frozen 1
      have f2 := HXb.out.frozen 2
      obtain ⟨t0, t1, t2⟩ := (HXb.out.set3' 1 n ⟨#[]⟩).cells
      have HP := Lib.hid (Below.set3' HBb.out (Nat.le_refl _) (.int .i64 1) (.int .i64 n) (.string ⟨#[]⟩))
      go_wp2
      exact bodyPost_ret (v := .tuple #[.agg #[.int .i64 1, .int .i64 n, .string ⟨#[]⟩], .int .i64 0]) (by simp [results, Tryz.results66, go_sem, t0, t1, t2]) rfl ⟨by rw [HX.out]; rfl, HP.out⟩
    · have HX : Hid (X = (V0, 9)) := Lib.hid (by rw [← hX, fitV_out hin])
      have d : fitB z = false := fitB_no.2 hin
      rw [d] at HS
      clear hX hz d hin
      have HX0 := Lib.hid (Boxed.new w 0 0 ⟨#[]⟩)
      have HB0 := Lib.hid (box_below w #[.int .i64 0, .int .i64 0, .string ⟨#[]⟩] 27)
      go_enter Tryz.func66, Tryz.ntmps66
      go_wp2_with fail
      refine (HA.out _).mono ?_
      rintro r w5 ⟨rfl, rfl⟩
      go_wp2_with fail
      refine (HB.out _).mono ?_
      rintro r w5 ⟨rfl, rfl⟩
      go_wp2_with fail
      refine (HS.out _).mono ?_
      rintro r w5 ⟨⟨n, rfl, hn⟩, rfl⟩
      go_wp2_with fail
      exact bodyPost_ret (v := .tuple #[.agg #[.int .i64 0, .int .i64 0, .string ⟨#[]⟩], .int .i64 9]) (by simp [results, Tryz.results66, go_sem]) rfl ⟨by rw [HX.out]; rfl, HB0.out⟩
set_option maxRecDepth 100000 in
set_option maxHeartbeats 1000000 in
theorem g6nums8_any (a b : Int) (ha : inI a) (hb : inI b) (w : World) : Calls Tryz.prog 66 #[.int .i64 8, .int .i64 a, .int .i64 b] w (RetG (numsV 8 a b) w) := by
  by_cases h0 : b = 0
  · subst h0
    have HX : Hid (numsV 8 a 0 = (V0, 62)) := Lib.hid rfl
    obtain ⟨X, hX⟩ : ∃ X, numsV 8 a 0 = X := ⟨_, rfl⟩
    rw [hX] at HX ⊢
    clear hX
    have HX0 := Lib.hid (Boxed.new w 0 0 ⟨#[]⟩)
    have HB0 := Lib.hid (box_below w #[.int .i64 0, .int .i64 0, .string ⟨#[]⟩] 27)
    go_enter Tryz.func66, Tryz.ntmps66
    go_wp2_with fail
    exact bodyPost_ret (v := .tuple #[.agg #[.int .i64 0, .int .i64 0, .string ⟨#[]⟩], .int .i64 62]) (by simp [results, Tryz.results66, go_sem]) rfl ⟨by rw [HX.out]; rfl, HB0.out⟩
  · have hNV : numsV 8 a b = fitV (a.tmod b) := by unfold numsV; rw [if_neg (by decide), if_neg (by decide), if_neg (by decide), if_neg h0, if_neg (by decide)]
    rw [hNV]
    have HA := Lib.hid (g6half_any a ha)
    have HB := Lib.hid (g6half_any b hb)
    have hx : a.natAbs ≤ 9223372036854775808 := by obtain ⟨_, _⟩ := ha; omega
    have hy : b.natAbs ≤ 9223372036854775808 := by obtain ⟨_, _⟩ := hb; omega
    have hy0 : 1 ≤ b.natAbs := by omega
    have hsg := sign_tmod a b
    have b0 : (b == 0) = false := by rw [beq_eq_false_iff_ne]; exact h0
    obtain ⟨x, hxe⟩ : ∃ x, a.natAbs = x := ⟨_, rfl⟩
    obtain ⟨y, hye⟩ : ∃ y, b.natAbs = y := ⟨_, rfl⟩
    rw [hxe] at HA hx hsg
    rw [hye] at HB hy hsg hy0
    obtain ⟨low, hlow⟩ : ∃ low, decide (a < 0) = low := ⟨_, rfl⟩
    rw [hlow] at hsg
    have y0 : ((y : Int) == 0) = false := by rw [beq_eq_false_iff_ne]; omega
    have y0n : ¬ y = 0 := by omega
    obtain ⟨Q, hQ⟩ : ∃ Q, x % y = Q := ⟨_, rfl⟩
    have hQx : Q ≤ x := by rw [← hQ]; exact Nat.mod_le x y
    have hq1 : IntKind.u64.wrap ((x : Int).tmod (y : Int)) = (Q : Int) := by
      rw [IntWalk.up_tmod rfl rfl, hQ]
      exact IntWalk.u64_in _ (by omega)
    have hq2 : (x : Int) % (y : Int) = (Q : Int) := by rw [IntWalk.up_mod rfl rfl, hQ]
    have hq3 : IntKind.u64.wrap (Q : Int) = (Q : Int) := IntWalk.u64_in _ (by omega)
    rw [hQ] at hsg
    have HS := Lib.hid (fun W => g6signed_any low Q (by omega) W)
    rw [hsg] at HS
    clear hx hy hy0 hsg hQ hQx h0 hxe hye hNV ha hb
    obtain ⟨X, hX⟩ : ∃ X, fitV (a.tmod b) = X := ⟨_, rfl⟩
    rw [hX]
    obtain ⟨z, hz⟩ : ∃ z, a.tmod b = z := ⟨_, rfl⟩
    rw [hz] at hX HS
    by_cases hin : inI z
    · have HX : Hid (X = (numG z, 0)) := Lib.hid (by rw [← hX, fitV_in hin])
      have d : fitB z = true := fitB_iff.2 hin
      rw [d] at HS
      have HIN := Lib.hid hin
      clear hX hz d hin
      have HX0 := Lib.hid (Boxed.new w 0 0 ⟨#[]⟩)
      have HB0 := Lib.hid (box_below w #[.int .i64 0, .int .i64 0, .string ⟨#[]⟩] 27)
      go_enter Tryz.func66, Tryz.ntmps66
      go_wp2_with fail
      refine (HA.out _).mono ?_
      rintro r w5 ⟨rfl, rfl⟩
      go_wp2_with fail
      refine (HB.out _).mono ?_
      rintro r w5 ⟨rfl, rfl⟩
      go_wp2_with fail
      refine (HS.out _).mono ?_
      rintro r w5 ⟨⟨n, rfl, hn⟩, rfl⟩
      obtain rfl := hn HIN.out
      clear hn
      go_wp2_with fail
      refine (g6number_any n _).mono ?_
      rintro r w1 ⟨rfl, hb⟩
      have HXb := Lib.hid (HX0.out.below hb)
      have HBb := Lib.hid (HB0.out.trans (hb.mono HB0.out.size))
      clear hb HX0 HB0
      obtain ⟨r0, r1, r2⟩ := HXb.out.cells
      have f0 := HXb.out.frozen 0
      have f1 := HXb.out.frozen 1
      have f2 := HXb.out.frozen 2
      obtain ⟨t0, t1, t2⟩ := (HXb.out.set3' 1 n ⟨#[]⟩).cells
      have HP := Lib.hid (Below.set3' HBb.out (Nat.le_refl _) (.int .i64 1) (.int .i64 n) (.string ⟨#[]⟩))
      go_wp2
      exact bodyPost_ret (v := .tuple #[.agg #[.int .i64 1, .int .i64 n, .string ⟨#[]⟩], .int .i64 0]) (by simp [results, Tryz.results66, go_sem, t0, t1, t2]) rfl ⟨by rw [HX.out]; rfl, HP.out⟩
    · have HX : Hid (X = (V0, 9)) := Lib.hid (by rw [← hX, fitV_out hin])
      have d : fitB z = false := fitB_no.2 hin
      rw [d] at HS
      clear hX hz d hin
      have HX0 := Lib.hid (Boxed.new w 0 0 ⟨#[]⟩)
      have HB0 := Lib.hid (box_below w #[.int .i64 0, .int .i64 0, .string ⟨#[]⟩] 27)
      go_enter Tryz.func66, Tryz.ntmps66
      go_wp2_with fail
      refine (HA.out _).mono ?_
      rintro r w5 ⟨rfl, rfl⟩
      go_wp2_with fail
      refine (HB.out _).mono ?_
      rintro r w5 ⟨rfl, rfl⟩
      go_wp2_with fail
      refine (HS.out _).mono ?_
      rintro r w5 ⟨⟨n, rfl, hn⟩, rfl⟩
      go_wp2_with fail
      exact bodyPost_ret (v := .tuple #[.agg #[.int .i64 0, .int .i64 0, .string ⟨#[]⟩], .int .i64 9]) (by simp [results, Tryz.results66, go_sem]) rfl ⟨by rw [HX.out]; rfl, HB0.out⟩
end Go.Proofs.YtidomoibhjgkjaaGreatDoor
