import Derived.Test.YtidomoibhjgkjaaDoorZC11
import Derived.Test.YtidomoibhjgkjaaDoorZC10
import Derived.IntWalk
import Derived.Laws.Bits64
/-
  What one value, and two numbers, come to: the document's own answers.
-/
namespace Go.Proofs.YtidomoibhjgkjaaDoor
open Go.RowKit

set_option maxHeartbeats 1000000 in
theorem g6takes_any (op : Int) (w : World) : Calls Tryd.prog 20 #[.int .i64 op] w fun r w' => r = .returned (.int .i64 (kindG op)) ∧ w = w' := by
  by_cases h : op = 3 ∨ op = 4 ∨ op = 5
  · rcases h with rfl | rfl | rfl
    all_goals
      go_enter Tryd.func20, Tryd.ntmps20
      go_wp2
      go_ret
      exact ⟨rfl, rfl⟩
  · have e : kindG op = 0 := by unfold kindG; rw [if_neg (by omega), if_neg (by omega), if_neg (by omega)]
    have d3 : (op == 3) = false := by rw [beq_eq_false_iff_ne]; omega
    have d4 : (op == 4) = false := by rw [beq_eq_false_iff_ne]; omega
    have d5 : (op == 5) = false := by rw [beq_eq_false_iff_ne]; omega
    rw [e]
    clear e h
    go_enter Tryd.func20, Tryd.ntmps20
    go_wp2
    go_ret
    exact ⟨rfl, rfl⟩
set_option maxHeartbeats 1000000 in
theorem g6truth_any (b : Bool) (w : World) : Calls Tryd.prog 21 #[.bool b] w fun r w' => r = .returned (truthV b).val ∧ Below w.heap.size w w' := by
  cases b
  · go_enter Tryd.func21, Tryd.ntmps21
    go_wp2
    exact bodyPost_ret (v := .agg #[.int .i64 2, .int .i64 0, .string ⟨#[]⟩]) (by simp [results, Tryd.results21, go_sem]) rfl ⟨rfl, box_below w _ _⟩
  · go_enter Tryd.func21, Tryd.ntmps21
    go_wp2
    exact bodyPost_ret (v := .agg #[.int .i64 2, .int .i64 1, .string ⟨#[]⟩]) (by simp [results, Tryd.results21, go_sem]) rfl ⟨rfl, box_below w _ _⟩
set_option maxHeartbeats 1000000 in
theorem g6number_any (n : Int) (w : World) : Calls Tryd.prog 22 #[.int .i64 n] w fun r w' => r = .returned (.agg #[.int .i64 1, .int .i64 n, .string ⟨#[]⟩]) ∧ Below w.heap.size w w' := by
  go_enter Tryd.func22, Tryd.ntmps22
  go_wp2
  exact bodyPost_ret (v := .agg #[.int .i64 1, .int .i64 n, .string ⟨#[]⟩]) (by simp [results, Tryd.results22, go_sem]) rfl ⟨rfl, box_below w _ _⟩
set_option maxRecDepth 100000 in
set_option maxHeartbeats 1000000 in
theorem g6half_any (n : Int) (hn : inI n) (w : World) : Calls Tryd.prog 44 #[.int .i64 n] w fun r w' => r = .returned (.int .u64 (n.natAbs : Int)) ∧ w = w' := by
  obtain ⟨h0, h1⟩ := hn
  obtain ⟨m, hm⟩ : ∃ m : Nat, m = n.natAbs := ⟨_, rfl⟩
  rw [← hm]
  by_cases h : n < 0
  · have d : decide (n < 0) = true := by simpa using h
    have hw0 : IntKind.u64.wrap n = 18446744073709551616 - (m : Int) := by rw [IntKind.wrap_u64]; omega
    have hw1 : IntKind.u64.wrap (-(18446744073709551616 - (m : Int))) = (m : Int) := by rw [IntKind.wrap_u64]; omega
    clear h hm
    go_enter Tryd.func44, Tryd.ntmps44
    go_wp2
    go_ret
    exact ⟨rfl, rfl⟩
  · have d : decide (n < 0) = false := by simpa using h
    have hw0 : IntKind.u64.wrap n = (m : Int) := by rw [IntKind.wrap_u64]; omega
    clear h hm
    go_enter Tryd.func44, Tryd.ntmps44
    go_wp2
    go_ret
    exact ⟨rfl, rfl⟩
/-- The number of a size and a sign. -/
def signG (low : Bool) (size : Nat) : Int := if low = true then -(size : Int) else size
set_option maxRecDepth 100000 in
set_option maxHeartbeats 1000000 in
theorem g6signed_any (low : Bool) (size : Nat) (hs : (size : Int) ≤ 18446744073709551615) (w : World) : Calls Tryd.prog 45 #[.bool low, .int .u64 (size : Int)] w fun r w' => (∃ z : Int, r = .returned (.tuple #[.int .i64 z, .bool (fitB (signG low size))]) ∧ (inI (signG low size) → z = signG low size)) ∧ w = w' := by
  cases low
  · by_cases h : size < 9223372036854775808
    · have e : fitB (signG false size) = true := by rw [fitB_iff]; unfold inI signG; simp; omega
      have d : decide ((size : Int) < 9223372036854775808) = true := by rw [decide_eq_true_iff]; omega
      have hw : IntKind.i64.wrap (size : Int) = (size : Int) := by rw [IntKind.wrap_i64]; omega
      rw [e]
      go_enter Tryd.func45, Tryd.ntmps45
      go_wp2
      exact bodyPost_ret (v := .tuple #[.int .i64 (size : Int), .bool true]) (by simp [results, Tryd.results45, go_sem]) rfl ⟨⟨_, rfl, fun _ => rfl⟩, rfl⟩
    · have e : fitB (signG false size) = false := by rw [fitB_no]; unfold inI signG; simp; omega
      have hno : ¬ inI (signG false size) := by unfold inI signG; simp; omega
      have d : decide ((size : Int) < 9223372036854775808) = false := by rw [decide_eq_false_iff_not]; omega
      have hw : IntKind.i64.wrap (size : Int) = (size : Int) - 18446744073709551616 := by rw [IntKind.wrap_i64]; omega
      rw [e]
      go_enter Tryd.func45, Tryd.ntmps45
      go_wp2
      exact bodyPost_ret (v := .tuple #[.int .i64 ((size : Int) - 18446744073709551616), .bool false]) (by simp [results, Tryd.results45, go_sem]) rfl ⟨⟨_, rfl, fun h => absurd h hno⟩, rfl⟩
  · by_cases h : size ≤ 9223372036854775808
    · have e : fitB (signG true size) = true := by rw [fitB_iff]; unfold inI signG; simp; omega
      have d : decide ((size : Int) ≤ 9223372036854775808) = true := by rw [decide_eq_true_iff]; omega
      rw [e]
      by_cases h0 : size = 0
      · subst h0
        have hw1 : IntKind.u64.wrap (-(0 : Int)) = 0 := by rw [IntKind.wrap_u64]; omega
        go_enter Tryd.func45, Tryd.ntmps45
        go_wp2
        exact bodyPost_ret (v := .tuple #[.int .i64 0, .bool true]) (by simp [results, Tryd.results45, go_sem]) rfl ⟨⟨_, rfl, fun _ => rfl⟩, rfl⟩
      · have hw1 : IntKind.u64.wrap (-(size : Int)) = 18446744073709551616 - (size : Int) := by rw [IntKind.wrap_u64]; omega
        have hw2 : IntKind.i64.wrap (18446744073709551616 - (size : Int)) = -(size : Int) := by rw [IntKind.wrap_i64]; omega
        go_enter Tryd.func45, Tryd.ntmps45
        go_wp2
        exact bodyPost_ret (v := .tuple #[.int .i64 (-(size : Int)), .bool true]) (by simp [results, Tryd.results45, go_sem]) rfl ⟨⟨_, rfl, fun _ => rfl⟩, rfl⟩
    · have e : fitB (signG true size) = false := by rw [fitB_no]; unfold inI signG; simp; omega
      have hno : ¬ inI (signG true size) := by unfold inI signG; simp; omega
      have d : decide ((size : Int) ≤ 9223372036854775808) = false := by rw [decide_eq_false_iff_not]; omega
      have hw1 : IntKind.u64.wrap (-(size : Int)) = 18446744073709551616 - (size : Int) := by rw [IntKind.wrap_u64]; omega
      have hw2 : IntKind.i64.wrap (18446744073709551616 - (size : Int)) = 18446744073709551616 - (size : Int) := by rw [IntKind.wrap_i64]; omega
      rw [e]
      go_enter Tryd.func45, Tryd.ntmps45
      go_wp2
      exact bodyPost_ret (v := .tuple #[.int .i64 (18446744073709551616 - (size : Int)), .bool false]) (by simp [results, Tryd.results45, go_sem]) rfl ⟨⟨_, rfl, fun h => absurd h hno⟩, rfl⟩
end Go.Proofs.YtidomoibhjgkjaaDoor

/-
  What two numbers come to: the document's own answers.
-/
namespace Go.Proofs.YtidomoibhjgkjaaDoor
open Go.RowKit

theorem signG_ff {a b : Int} (ha : ¬ a < 0) (hb : ¬ b < 0) : signG false (a.natAbs * b.natAbs) = a * b := by
  show ((a.natAbs * b.natAbs : Nat) : Int) = a * b
  rw [Int.natCast_mul, Int.natAbs_of_nonneg (by omega), Int.natAbs_of_nonneg (by omega)]
theorem signG_tt {a b : Int} (ha : a < 0) (hb : b < 0) : signG false (a.natAbs * b.natAbs) = a * b := by
  show ((a.natAbs * b.natAbs : Nat) : Int) = a * b
  rw [Int.natCast_mul, Int.ofNat_natAbs_of_nonpos (by omega), Int.ofNat_natAbs_of_nonpos (by omega), Int.neg_mul_neg]
theorem signG_tf {a b : Int} (ha : a < 0) (hb : ¬ b < 0) : signG true (a.natAbs * b.natAbs) = a * b := by
  show -((a.natAbs * b.natAbs : Nat) : Int) = a * b
  rw [Int.natCast_mul, Int.ofNat_natAbs_of_nonpos (by omega), Int.natAbs_of_nonneg (by omega), Int.neg_mul, Int.neg_neg]
theorem signG_ft {a b : Int} (ha : ¬ a < 0) (hb : b < 0) : signG true (a.natAbs * b.natAbs) = a * b := by
  show -((a.natAbs * b.natAbs : Nat) : Int) = a * b
  rw [Int.natCast_mul, Int.natAbs_of_nonneg (by omega), Int.ofNat_natAbs_of_nonpos (by omega), Int.mul_neg, Int.neg_neg]
theorem big_mul {x y : Nat} (hx : 0 < x) (h : 9223372036854775808 / x < y) : 9223372036854775808 < x * y := by
  have h1 : 9223372036854775808 / x + 1 ≤ y := h
  have h2 : x * (9223372036854775808 / x + 1) ≤ x * y := Nat.mul_le_mul_left x h1
  have h3 := Nat.lt_mul_div_succ 9223372036854775808 hx
  omega
theorem small_mul {x y : Nat} (h : ¬ (0 < x ∧ 9223372036854775808 / x < y)) : x * y ≤ 9223372036854775808 := by
  rcases Nat.eq_zero_or_pos x with h0 | h0
  · subst h0; omega
  · have h1 : y ≤ 9223372036854775808 / x := by
      rcases Nat.lt_or_ge (9223372036854775808 / x) y with g | g
      · exact absurd ⟨h0, g⟩ h
      · exact g
    exact Nat.le_trans (Nat.mul_le_mul_left x h1) (Nat.mul_div_le _ _)
theorem big_div (x : Nat) : ((9223372036854775808 / x : Nat) : Int) = 9223372036854775808 / (x : Int) := by rw [Int.natCast_ediv]; rfl
def lowB (a b : Int) : Bool := decide (a < 0) != decide (b < 0)
theorem sign_mul (a b : Int) : signG (lowB a b) (a.natAbs * b.natAbs) = a * b := by
  unfold lowB
  by_cases ha : a < 0 <;> by_cases hb : b < 0
  · rw [show (decide (a < 0) != decide (b < 0)) = false from by simp [ha, hb]]; exact signG_tt ha hb
  · rw [show (decide (a < 0) != decide (b < 0)) = true from by simp [ha, hb]]; exact signG_tf ha hb
  · rw [show (decide (a < 0) != decide (b < 0)) = true from by simp [ha, hb]]; exact signG_ft ha hb
  · rw [show (decide (a < 0) != decide (b < 0)) = false from by simp [ha, hb]]; exact signG_ff ha hb
theorem big_out {a b : Int} (h : 9223372036854775808 < a.natAbs * b.natAbs) : ¬ inI (a * b) := by
  have e : (a * b).natAbs = a.natAbs * b.natAbs := Int.natAbs_mul a b
  unfold inI
  omega
/-- A number that is told if it fits. -/
def RetN (z : Int) (w : World) (r : Ending) (w' : World) : Prop := (∃ n : Int, r = .returned (.tuple #[.int .i64 n, .bool (fitB z)]) ∧ (inI z → n = z)) ∧ w = w'

set_option maxRecDepth 100000 in
set_option maxHeartbeats 2000000 in
theorem g6product_any (a b : Int) (ha : inI a) (hb : inI b) (w : World) : Calls Tryd.prog 42 #[.int .i64 a, .int .i64 b] w (RetN (a * b) w) := by
  have HA := Lib.hid (g6half_any a ha)
  have HB := Lib.hid (g6half_any b hb)
  have hx : a.natAbs ≤ 9223372036854775808 := by obtain ⟨_, _⟩ := ha; omega
  have hy : b.natAbs ≤ 9223372036854775808 := by obtain ⟨_, _⟩ := hb; omega
  have hsm := sign_mul a b
  have hbg : 9223372036854775808 < a.natAbs * b.natAbs → ¬ inI (a * b) := big_out
  obtain ⟨x, hxe⟩ : ∃ x, a.natAbs = x := ⟨_, rfl⟩
  obtain ⟨y, hye⟩ : ∃ y, b.natAbs = y := ⟨_, rfl⟩
  rw [hxe] at HA hx hsm hbg
  rw [hye] at HB hy hsm hbg
  obtain ⟨p, hp⟩ : ∃ p, a * b = p := ⟨_, rfl⟩
  rw [hp] at hsm hbg ⊢
  obtain ⟨low, hlow⟩ : ∃ low, lowB a b = low := ⟨_, rfl⟩
  rw [hlow] at hsm
  unfold lowB at hlow
  clear ha hb hxe hye hp
  by_cases h : 0 < x ∧ 9223372036854775808 / x < y
  · have hno := hbg (big_mul h.1 h.2)
    have e : fitB p = false := fitB_no.2 hno
    have d1 : ((x : Int) != 0) = true := by rw [bne_iff_ne]; omega
    have d1' : ((x : Int) == 0) = false := by rw [beq_eq_false_iff_ne]; omega
    have d1'' : ¬ x = 0 := by omega
    have d2 : decide ((9223372036854775808 : Int) / (x : Int) < (y : Int)) = true := by
      rw [decide_eq_true_iff, ← big_div x]; have := h.2; omega
    have d2' : decide (9223372036854775808 / x < y) = true := decide_eq_true h.2
    have hq := IntWalk.u64_quo 9223372036854775808 (x : Int) (by omega)
    unfold RetN
    rw [e]
    clear h hbg hsm hlow e hx hy
    go_enter Tryd.func42, Tryd.ntmps42
    go_wp2_with fail
    refine (HA.out _).mono ?_
    rintro r w' ⟨rfl, rfl⟩
    go_wp2_with fail
    refine (HB.out _).mono ?_
    rintro r w' ⟨rfl, rfl⟩
    go_wp2_with fail
    exact bodyPost_ret (v := .tuple #[.int .i64 0, .bool false]) (by simp [results, Tryd.results42, go_sem]) rfl ⟨⟨_, rfl, fun h => absurd h hno⟩, rfl⟩
  · have hsml := small_mul h
    have hwr : IntKind.u64.wrap ((x : Int) * (y : Int)) = ((x * y : Nat) : Int) := by
      rw [← Int.natCast_mul]
      exact IntWalk.u64_in _ (by omega)
    have HS := Lib.hid (fun w => g6signed_any low (x * y) (by omega) w)
    rw [hsm] at HS
    have hlowb : (decide (a < 0) == decide (b < 0)) = !low := by rw [← hlow]; cases decide (a < 0) <;> cases decide (b < 0) <;> rfl
    have d2 : x = 0 ∨ (¬ x = 0 ∧ ((x : Int) != 0) = true ∧ decide ((9223372036854775808 : Int) / (x : Int) < (y : Int)) = false ∧ decide (9223372036854775808 / x < y) = false ∧ IntKind.u64.wrap ((9223372036854775808 : Int).tdiv (x : Int)) = 9223372036854775808 / (x : Int) ∧ ((x : Int) == 0) = false) := by
      by_cases h0 : x = 0
      · exact .inl h0
      · have h1 : ¬ 9223372036854775808 / x < y := fun hh => h ⟨by omega, hh⟩
        exact .inr ⟨h0, by rw [bne_iff_ne]; omega, by rw [decide_eq_false_iff_not, ← big_div x]; omega, decide_eq_false h1, IntWalk.u64_quo _ _ (by omega), by rw [beq_eq_false_iff_ne]; omega⟩
    clear h hbg hsm hx hy hsml hlow
    rcases d2 with rfl | ⟨d3, d, d2, d2', hq, d0⟩
    · rw [show ((0 : Nat) : Int) = 0 from rfl] at HA
      rw [Nat.zero_mul, show ((0 : Nat) : Int) = 0 from rfl] at HS
      clear hwr
      go_enter Tryd.func42, Tryd.ntmps42
      go_wp2_with fail
      refine (HA.out _).mono ?_
      rintro r w' ⟨rfl, rfl⟩
      go_wp2_with fail
      refine (HB.out _).mono ?_
      rintro r w' ⟨rfl, rfl⟩
      go_wp2_with fail
      refine (HS.out _).mono ?_
      rintro r w' ⟨⟨z, rfl, hz⟩, rfl⟩
      go_wp2_with fail
      exact bodyPost_ret (v := .tuple #[.int .i64 z, .bool (fitB p)]) (by simp [results, Tryd.results42, go_sem]) rfl ⟨⟨_, rfl, hz⟩, rfl⟩
    · go_enter Tryd.func42, Tryd.ntmps42
      go_wp2_with fail
      refine (HA.out _).mono ?_
      rintro r w' ⟨rfl, rfl⟩
      go_wp2_with fail
      refine (HB.out _).mono ?_
      rintro r w' ⟨rfl, rfl⟩
      go_wp2_with fail
      refine (HS.out _).mono ?_
      rintro r w' ⟨⟨z, rfl, hz⟩, rfl⟩
      go_wp2_with fail
      exact bodyPost_ret (v := .tuple #[.int .i64 z, .bool (fitB p)]) (by simp [results, Tryd.results42, go_sem]) rfl ⟨⟨_, rfl, hz⟩, rfl⟩

set_option maxRecDepth 100000 in
set_option maxHeartbeats 2000000 in
theorem g6sum_any (a b : Int) (ha : inI a) (hb : inI b) (w : World) : Calls Tryd.prog 43 #[.int .i64 a, .int .i64 b] w (RetN (a + b) w) := by
  have HA := Lib.hid (g6half_any a ha)
  have HB := Lib.hid (g6half_any b hb)
  obtain ⟨a0, a1⟩ := ha
  obtain ⟨b0, b1⟩ := hb
  by_cases h : (a < 0 ∧ ¬ b < 0) ∨ (¬ a < 0 ∧ b < 0)
  · have hin : inI (a + b) := by unfold inI; omega
    have hw : wrap64 (a + b) = a + b := IntWalk.wrap64_in _ hin
    have HR : Hid (RetN (a + b) w (.returned (.tuple #[.int .i64 (a + b), .bool true])) w) := Lib.hid ⟨⟨a + b, by rw [fitB_iff.2 hin], fun _ => rfl⟩, rfl⟩
    clear hin
    rcases h with ⟨h1, h2⟩ | ⟨h1, h2⟩
    · have d1 : decide (a < 0) = true := decide_eq_true h1
      have d2 : decide (b < 0) = false := decide_eq_false h2
      clear h1 h2 a0 a1 b0 b1
      go_enter Tryd.func43, Tryd.ntmps43
      go_wp2_with fail
      exact bodyPost_ret (v := .tuple #[.int .i64 (a + b), .bool true]) (by simp [results, Tryd.results43, go_sem, hw]) rfl HR.out
    · have d1 : decide (a < 0) = false := decide_eq_false h1
      have d2 : decide (b < 0) = true := decide_eq_true h2
      clear h1 h2 a0 a1 b0 b1
      go_enter Tryd.func43, Tryd.ntmps43
      go_wp2_with fail
      exact bodyPost_ret (v := .tuple #[.int .i64 (a + b), .bool true]) (by simp [results, Tryd.results43, go_sem, hw]) rfl HR.out
  · have hx : a.natAbs ≤ 9223372036854775808 := by omega
    have hy : b.natAbs ≤ 9223372036854775808 := by omega
    have hab : decide (b < 0) = decide (a < 0) := by rw [decide_eq_decide]; omega
    have hs : signG (decide (a < 0)) (a.natAbs + b.natAbs) = a + b := by
      unfold signG
      by_cases h1 : a < 0
      · rw [if_pos (decide_eq_true h1)]; omega
      · rw [if_neg (by simp [h1])]; omega
    have hbig : 18446744073709551615 < a.natAbs + b.natAbs → ¬ inI (a + b) := by intro hh; unfold inI; omega
    obtain ⟨x, hxe⟩ : ∃ x, a.natAbs = x := ⟨_, rfl⟩
    obtain ⟨y, hye⟩ : ∃ y, b.natAbs = y := ⟨_, rfl⟩
    rw [hxe] at HA hx hs hbig
    rw [hye] at HB hy hs hbig
    obtain ⟨p, hp⟩ : ∃ p, a + b = p := ⟨_, rfl⟩
    obtain ⟨low, hlow⟩ : ∃ low, decide (a < 0) = low := ⟨_, rfl⟩
    rw [hp] at hs hbig ⊢
    rw [hlow] at hab hs
    clear hxe hye hp h a0 a1 b0 b1
    by_cases hov : 18446744073709551615 < x + y
    · have hno := hbig hov
      have e : fitB p = false := fitB_no.2 hno
      have ex : x = 9223372036854775808 := by omega
      have ey : y = 9223372036854775808 := by omega
      subst ex ey
      unfold RetN
      rw [e]
      have hwr : IntKind.u64.wrap ((9223372036854775808 : Int) + 9223372036854775808) = 0 := by rw [IntKind.wrap_u64]; decide
      clear hs hbig e hov hx hy
      go_enter Tryd.func43, Tryd.ntmps43
      go_wp2_with fail
      refine (HA.out _).mono ?_
      rintro r w' ⟨rfl, rfl⟩
      go_wp2_with fail
      refine (HB.out _).mono ?_
      rintro r w' ⟨rfl, rfl⟩
      go_wp2_with fail
      exact bodyPost_ret (v := .tuple #[.int .i64 0, .bool false]) (by simp [results, Tryd.results43, go_sem]) rfl ⟨⟨_, rfl, fun h => absurd h hno⟩, rfl⟩
    · have HS := Lib.hid (fun w => g6signed_any low (x + y) (by omega) w)
      rw [hs] at HS
      simp only [Int.natCast_add] at HS
      have hwr : IntKind.u64.wrap ((x : Int) + (y : Int)) = (x : Int) + (y : Int) := IntWalk.u64_in _ (by omega)
      have d : decide ((x : Int) + (y : Int) < (x : Int)) = false := by rw [decide_eq_false_iff_not]; omega
      have d' : decide (x + y < x) = false := by rw [decide_eq_false_iff_not]; omega
      clear hs hbig hov hx hy
      go_enter Tryd.func43, Tryd.ntmps43
      go_wp2_with fail
      refine (HA.out _).mono ?_
      rintro r w' ⟨rfl, rfl⟩
      go_wp2_with fail
      refine (HB.out _).mono ?_
      rintro r w' ⟨rfl, rfl⟩
      go_wp2_with fail
      refine (HS.out _).mono ?_
      rintro r w' ⟨⟨z, rfl, hz⟩, rfl⟩
      go_wp2_with fail
      exact bodyPost_ret (v := .tuple #[.int .i64 z, .bool (fitB p)]) (by simp [results, Tryd.results43, go_sem]) rfl ⟨⟨_, rfl, hz⟩, rfl⟩
end Go.Proofs.YtidomoibhjgkjaaDoor
