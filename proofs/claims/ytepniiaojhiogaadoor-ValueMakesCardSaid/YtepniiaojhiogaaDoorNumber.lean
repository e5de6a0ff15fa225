/-
  The number at the front of a slice of bytes: pack's inner function number, by a contract over lists of bytes.
-/
import Derived.Test.YtepniiaojhiogaaDoorWrite
namespace Go.Proofs.YtepniiaojhiogaaDoor
open Go.RowKit

theorem number_at (l : List UInt8) (k : Nat) (h : k < l.length) : l.drop k = l[k] :: l.drop (k + 1) := List.drop_eq_getElem_cons h

/-- Seven bits more: nothing runs over ahead of the tenth byte, nor at it, where that is at most 1. -/
theorem shift_sum (k N x : Nat) (h9 : k ≤ 9) (hN : N < 2 ^ (7 * k)) (hx : k = 9 → x ≤ 1) :
    IntKind.u64.wrap ((N : Int) + IntKind.u64.wrap ((x : Int) % 128 * 2 ^ (7 * k))) = ((N + x % 128 * 2 ^ (7 * k) : Nat) : Int) ∧ (k ≤ 8 → N + x % 128 * 2 ^ (7 * k) < 2 ^ (7 * (k + 1))) := by
  have hx2 : k < 9 ∨ x ≤ 1 := by
    rcases Nat.lt_or_ge k 9 with h | h
    · exact .inl h
    · exact .inr (hx (by omega))
  clear hx
  rcases (show k = 0 ∨ k = 1 ∨ k = 2 ∨ k = 3 ∨ k = 4 ∨ k = 5 ∨ k = 6 ∨ k = 7 ∨ k = 8 ∨ k = 9 from by omega) with rfl | rfl | rfl | rfl | rfl | rfl | rfl | rfl | rfl | rfl
  all_goals
    simp only [Nat.reduceMul, Nat.reduceAdd, Nat.reducePow, Int.reducePow] at hN ⊢
    rw [IntWalk.u64_in ((x : Int) % 128 * _) ⟨by omega, by omega⟩, IntWalk.u64_in _ ⟨by omega, by omega⟩]
    exact ⟨by omega, by omega⟩

theorem nums_step (most : Nat) (l : List UInt8) (k N : Nat) (h : k < l.length) :
    nums most (l.drop k) k N = if k = 9 ∧ 1 < l[k].toNat then (0, 0, 9) else if 128 ≤ l[k].toNat then nums most (l.drop (k + 1)) (k + 1) (N + l[k].toNat % 128 * 2 ^ (7 * k)) else
      if 0 < k ∧ l[k].toNat = 0 then (0, 0, 8) else if most < N + l[k].toNat % 128 * 2 ^ (7 * k) then (0, 0, 3) else (N + l[k].toNat % 128 * 2 ^ (7 * k), k + 1, 0) := by
  rw [number_at l k h, nums]

theorem ret3 {a a' b b' c c' : Int} (h1 : a = a') (h2 : b = b') (h3 : c = c') : Ending.returned (.tuple #[.int .u64 a, .int .i64 b, .int .i64 c]) = .returned (.tuple #[.int .u64 a', .int .i64 b', .int .i64 c']) := by rw [h1, h2, h3]

set_option maxHeartbeats 400000 in
set_option maxRecDepth 100000 in
theorem number_any (A : Option Addr) (l : List UInt8) (c most lo hi : Nat) (w : World) (hl : l.length ≤ 9223372036854775807) (_hm : (most : Int) ≤ 18446744073709551615) (hr : Rd w lo hi A l) :
    Calls Tryd.prog 80 #[.slice A l.length c, .int .u64 most] w fun e w' =>
      e = .returned (.tuple #[.int .u64 (numOf l most).1, .int .i64 (numOf l most).2.1, .int .i64 (numOf l most).2.2]) ∧ w = w' := by
  have HR := Lib.hid hr
  clear hr
  go_enter Tryd.func80, Tryd.ntmps80
  go_wp2
  go_loop [7, 12] (fun x i => ∃ k N : Nat, k ≤ l.length ∧ k ≤ 9 ∧ i = .int .i64 k ∧ x = .int .u64 N ∧ N < 2 ^ (7 * k) ∧ numOf l most = nums most (l.drop k) k N) (fun _ i => l.length - (intOf i).toNat)
  case atStart => exact ⟨0, 0, Nat.zero_le _, by omega, rfl, rfl, by simp, rfl⟩
  case round =>
    obtain ⟨k, N, hk, h9, rfl, rfl, hN, hd⟩ := hrel
    by_cases hlt : k < l.length
    · obtain ⟨b, o, rfl, _, _, hc⟩ := HR.out (by omega)
      have hcell := hc k hlt
      clear hc
      have hb := l[k].toNat_lt
      rw [nums_step most l k N hlt] at hd
      generalize l[k].toNat = x at *
      by_cases c1 : k = 9 ∧ 1 < x
      · rw [if_pos c1] at hd
        obtain ⟨c2, c3⟩ := c1
        have h90 : 9 ≤ k := by omega
        have HD := Lib.hid hd
        clear hd hN c2
        go_wp2
        go_ret3
        rw [HD.out]
        exact ⟨rfl, rfl⟩
      · obtain ⟨S, hT⟩ := shift_sum k N x h9 hN (by omega)
        rw [if_neg c1] at hd
        generalize N + x % 128 * 2 ^ (7 * k) = T at *
        by_cases c2 : 128 ≤ x
        · rw [if_pos c2] at hd
          have h8 : k ≤ 8 := by omega
          have hT' := hT h8
          have HD := Lib.hid hd
          have HT := Lib.hid hT'
          clear hd hN hT hT' c1
          go_wp2
          go_round
          case rel => exact ⟨k + 1, T, by omega, by omega, by go_num, rfl, HT.out, HD.out⟩
          case measure => simp [intOf]; omega
        · rw [if_neg c2] at hd
          by_cases c3 : 0 < k ∧ x = 0
          · rw [if_pos c3] at hd
            obtain ⟨c4, rfl⟩ := c3
            have HD := Lib.hid hd
            clear hd hN hT c1 S
            go_wp2
            all_goals
              go_ret3
              rw [HD.out]
              exact ⟨rfl, rfl⟩
          · rw [if_neg c3] at hd
            by_cases c4 : most < T
            · rw [if_pos c4] at hd
              have HD := Lib.hid hd
              clear hd hN hT
              rcases Nat.lt_or_ge k 9 with k9 | k9
              all_goals
                go_wp2
                all_goals
                  go_ret3
                  rw [HD.out]
                  exact ⟨ret3 rfl (by first | rfl | (simp only []; omega)) rfl, rfl⟩
            · rw [if_neg c4] at hd
              have HD := Lib.hid hd
              clear hd hN hT
              rcases Nat.lt_or_ge k 9 with k9 | k9
              all_goals
                go_wp2
                all_goals
                  go_ret3
                  rw [HD.out]
                  exact ⟨ret3 rfl (by first | rfl | (simp only []; omega)) rfl, rfl⟩
    · have HD := Lib.hid hd
      clear hd hN
      go_wp2
      go_ret3
      rw [HD.out, List.drop_eq_nil_of_le (by omega)]
      exact ⟨rfl, rfl⟩

end Go.Proofs.YtepniiaojhiogaaDoor
