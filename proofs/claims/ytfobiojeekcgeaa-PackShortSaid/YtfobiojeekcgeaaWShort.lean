/-
  The walk of PackShort.
-/
import Derived.Test.YtfobiojeekcgeaaLive
import Derived.OpenShut
namespace Go.Proofs.Ytfobiojeekcgeaa.packShort
open Go.RowKit

theorem pow_eq (k : Nat) : (2 : Nat) ^ (7 * k) = 128 ^ k := by rw [Nat.pow_mul]

/-- A number of k bytes is below 2 to 7 k; and from 2 to 7 (k - 1) on, if it has more than one. -/
theorem un_room (n : Nat) : n / 2 ^ (7 * (un n).length) = 0 := by
  rw [pow_eq]
  have hp := un_pos n
  obtain ⟨k, hk⟩ : ∃ k, (un n).length = k + 1 := ⟨(un n).length - 1, by omega⟩
  have := un_gt k n
  rw [hk]
  exact Nat.div_eq_of_lt (by omega)
theorem un_need (n : Nat) (h : (un n).length ≠ 1) : 0 < n / 2 ^ (7 * ((un n).length - 1)) := by
  rw [pow_eq]
  have hp := un_pos n
  obtain ⟨k, hk⟩ : ∃ k, (un n).length = k + 1 + 1 := ⟨(un n).length - 2, by omega⟩
  have := (un_gt k n).1 (by omega)
  rw [hk, show k + 1 + 1 - 1 = k + 1 from rfl]
  exact Nat.div_pos this (Nat.pow_pos (by omega))

/-- The same in the walk's words. -/
theorem room_int (n x : Nat) (hx : x = (un n).length) : (n : Int) / 2 ^ (x * 7) = 0 := by
  have h := un_room n
  rw [← hx, Nat.mul_comm] at h
  have : ((n / 2 ^ (x * 7) : Nat) : Int) = 0 := by rw [h]; rfl
  simpa using this
theorem need_int (n x : Nat) (hx : x = (un n).length) (h1 : 2 ≤ x) : 0 < (n : Int) / 2 ^ (x * 7 - 7) := by
  have h := un_need n (by omega)
  rw [← hx, show 7 * (x - 1) = x * 7 - 7 from by omega] at h
  have : (0 : Int) < ((n / 2 ^ (x * 7 - 7) : Nat) : Int) := by omega
  simpa using this

/-- What Uint leaves, told by its length alone. -/
def Len (x : Nat) (w : World) (e : Ending) (w' : World) : Prop := ∃ A c, e = .returned (.slice A x c) ∧ Below w.heap.size w w'

theorem uint_len (n : Nat) (h : (n : Int) ≤ 18446744073709551615) (w : World) : Calls Try.prog 16 #[.int .u64 n] w (Len (un n).length w) :=
  (uint_any n h w).mono fun _ _ ⟨A, c, h1, _, _, _, _, h2⟩ => ⟨A, c, h1, h2⟩

set_option maxHeartbeats 2000000 in
set_option maxRecDepth 100000 in
/-- The walk, the lesser number being m and the greater one n, in either place. -/
theorem core (a b m n x y : Nat) (ho : (a = m ∧ b = n ∧ m < n) ∨ (a = n ∧ b = m ∧ m < n) ∨ (a = m ∧ b = m ∧ n = m)) (w : World)
    (hx0 : 0 < x) (hxy : x ≤ y) (hy : y ≤ 10) (hr : (m : Int) / 2 ^ (x * 7) = 0) (hn : 2 ≤ x → 0 < (m : Int) / 2 ^ (x * 7 - 7))
    (ha : ∀ w, Calls Try.prog 16 #[.int .u64 m] w (Len x w)) (hb : ∀ w, Calls Try.prog 16 #[.int .u64 n] w (Len y w)) :
    Calls Try.prog 8 #[.int .u64 a, .int .u64 b] w fun e w' => e = .returned (.bool true) ∧ Below w.heap.size w w' := by
  have HA := Lib.hid ha
  have HB := Lib.hid hb
  have t1 : ((x : Int) == 0) = false := by rw [beq_eq_false_iff_ne]; omega
  have t2 : decide (y < x) = false := decide_eq_false (by omega)
  have t3 : decide ((10 : Int) < (y : Int)) = false := decide_eq_false (by omega)
  clear ha hb
  rcases (show x ≤ 1 ∨ (2 ≤ x ∧ x ≤ 9) ∨ 10 ≤ x from by omega) with hx | ⟨hx2, hx9⟩ | hx
  · have t4 : ((x : Int) == 1) = true := by rw [beq_iff_eq]; omega
    clear hn
    rcases ho with ⟨rfl, rfl, hlt⟩ | ⟨rfl, rfl, hlt⟩ | ⟨rfl, rfl, rfl⟩
    all_goals
      go_enter Try.func8, Try.ntmps8
      go_wp2_with fail
      refine (live_any _).mono ?_
      rintro e w1 ⟨rfl, hb1⟩
      go_wp2_with fail
      refine (HA.out _).mono ?_
      rintro e w2 ⟨A2, c2, rfl, hb2⟩
      go_wp2_with fail
      refine (HB.out _).mono ?_
      rintro e w3 ⟨A3, c3, rfl, hb3⟩
      have hb4 : Below w.heap.size w w3 := (hb1.trans (hb2.mono hb1.size)).trans (hb3.mono (Nat.le_trans hb1.size hb2.size))
      clear hb1 hb2 hb3
      go_wp2
      go_ret
      exact ⟨rfl, hb4⟩
  · have t4 : ((x : Int) == 1) = false := by rw [beq_eq_false_iff_ne]; omega
    have hn' := hn hx2
    clear hn
    rcases ho with ⟨rfl, rfl, hlt⟩ | ⟨rfl, rfl, hlt⟩ | ⟨rfl, rfl, rfl⟩
    all_goals
      go_enter Try.func8, Try.ntmps8
      go_wp2_with fail
      refine (live_any _).mono ?_
      rintro e w1 ⟨rfl, hb1⟩
      go_wp2_with fail
      refine (HA.out _).mono ?_
      rintro e w2 ⟨A2, c2, rfl, hb2⟩
      go_wp2_with fail
      refine (HB.out _).mono ?_
      rintro e w3 ⟨A3, c3, rfl, hb3⟩
      have hb4 : Below w.heap.size w w3 := (hb1.trans (hb2.mono hb1.size)).trans (hb3.mono (Nat.le_trans hb1.size hb2.size))
      clear hb1 hb2 hb3
      go_wp2
      go_ret
      exact ⟨rfl, hb4⟩
  · have t4 : ((x : Int) == 1) = false := by rw [beq_eq_false_iff_ne]; omega
    have hn' := hn (by omega)
    clear hn hr
    rcases ho with ⟨rfl, rfl, hlt⟩ | ⟨rfl, rfl, hlt⟩ | ⟨rfl, rfl, rfl⟩
    all_goals
      go_enter Try.func8, Try.ntmps8
      go_wp2_with fail
      refine (live_any _).mono ?_
      rintro e w1 ⟨rfl, hb1⟩
      go_wp2_with fail
      refine (HA.out _).mono ?_
      rintro e w2 ⟨A2, c2, rfl, hb2⟩
      go_wp2_with fail
      refine (HB.out _).mono ?_
      rintro e w3 ⟨A3, c3, rfl, hb3⟩
      have hb4 : Below w.heap.size w w3 := (hb1.trans (hb2.mono hb1.size)).trans (hb3.mono (Nat.le_trans hb1.size hb2.size))
      clear hb1 hb2 hb3
      go_wp2
      go_ret
      exact ⟨rfl, hb4⟩

theorem nat_of (a : Int) (h : (Lit.int .u64 a).wf = true) : ∃ n : Nat, a = n ∧ (n : Int) ≤ 18446744073709551615 := by
  have hb := bounds_u64 h
  obtain ⟨n, rfl⟩ := Int.eq_ofNat_of_zero_le hb.1
  exact ⟨n, rfl, hb.2⟩

theorem walk (a0 : Int) (a1 : Int) (w0 : (Lit.int .u64 a0).wf = true) (w1 : (Lit.int .u64 a1).wf = true) (w : World) :
    Calls Try.prog 8 #[.int .u64 a0, .int .u64 a1] w fun e w' => e = .returned (.bool true) ∧ Below w.heap.size w w' := by
  obtain ⟨a, rfl, ha⟩ := nat_of a0 w0
  obtain ⟨b, rfl, hb⟩ := nat_of a1 w1
  rcases (show a < b ∨ b < a ∨ a = b from by omega) with h | h | rfl
  · exact core a b a b _ _ (.inl ⟨rfl, rfl, h⟩) w (un_pos a) (un_mono (by omega)) (un_ten (by omega)) (room_int a _ rfl) (need_int a _ rfl) (uint_len a ha) (uint_len b hb)
  · exact core a b b a _ _ (.inr (.inl ⟨rfl, rfl, h⟩)) w (un_pos b) (un_mono (by omega)) (un_ten (by omega)) (room_int b _ rfl) (need_int b _ rfl) (uint_len b hb) (uint_len a ha)
  · exact core a a a a _ _ (.inr (.inr ⟨rfl, rfl, rfl⟩)) w (un_pos a) (Nat.le_refl _) (un_ten (by omega)) (room_int a _ rfl) (need_int a _ rfl) (uint_len a ha) (uint_len a ha)

end Go.Proofs.Ytfobiojeekcgeaa.packShort
