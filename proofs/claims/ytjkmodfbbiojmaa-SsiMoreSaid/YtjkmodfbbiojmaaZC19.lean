import Derived.Test.YtjkmodfbbiojmaaZC08
import Derived.Test.YtjkmodfbbiojmaaZC16
/-
  Package span, as it landed: ahead, Right, Has, Meets, apart, later.
-/
namespace Go.Proofs.Ytjkmodfbbiojmaa
open Go.RowKit

set_option maxRecDepth 100000 in
set_option maxHeartbeats 2000000 in
theorem dAheadI_any (k hi : List UInt8) (w : World) : Calls Try.prog 59 #[.string (bs k), .string (bs hi)] w fun r w' => r = .returned (.bool (endS hi k)) ∧ w = w' := by
  have h0 := sp_less k hi
  unfold endS
  cases hq : hi.isEmpty with
  | true =>
    obtain ⟨q1, q2⟩ := nil_q hq
    clear hq h0
    rw [Bool.true_or]
    go_enter Try.func59, Try.ntmps59
    go_wp2
    go_ret
    exact ⟨rfl, rfl⟩
  | false =>
    obtain ⟨q1, q2⟩ := nil_n hq
    clear hq
    rw [Bool.false_or]
    generalize blt k hi = x at *
    go_enter Try.func59, Try.ntmps59
    go_wp2
    go_ret
    exact ⟨rfl, rfl⟩
set_option maxRecDepth 100000 in
set_option maxHeartbeats 2000000 in
theorem dRight_anyI (s : Sp) (w : World) : Calls Try.prog 55 #[spVal s] w fun r w' => r = .returned (.bool (rightS s)) ∧ Below w.heap.size w w' := by
  obtain ⟨lo, hi⟩ := s
  have HB := Lib.hid ((Below.refl w.heap.size w).alloc (Nat.le_refl _) (.cells #[.string (bs lo), .string (bs hi)] 58))
  have HC := Lib.hid (dAheadI_any lo hi)
  unfold rightS spVal
  simp only
  generalize endS hi lo = x at *
  go_enter Try.func55, Try.ntmps55
  go_wp2_with (go_at_call 59; refine (HC.out _).mono ?_; rintro r w' ⟨rfl, rfl⟩)
  go_ret
  exact ⟨rfl, HB.out⟩
set_option maxRecDepth 100000 in
set_option maxHeartbeats 4000000 in
theorem dMeets_any (a b : Sp) (w : World) : Calls Try.prog 58 #[spVal a, spVal b] w fun r w' => r = .returned (.bool (meetsS a b)) ∧ Below w.heap.size w w' := by
  rw [meets_ends]
  obtain ⟨w0, hw0⟩ : ∃ y, (w.alloc (.cells #[.string (bs a.lo), .string (bs a.hi)] 58)).alloc (.cells #[.string (bs b.lo), .string (bs b.hi)] 58) = y := ⟨_, rfl⟩
  have hb0 : Below w.heap.size w w0 := by rw [← hw0]; exact ((Below.refl _ w).alloc (Nat.le_refl _) _).alloc (by simp) _
  have ha : w0.heap[w.heap.size]? = some (.cells #[.string (bs a.lo), .string (bs a.hi)] 58 (0, 0)) := by rw [← hw0]; exact heap_allocs (heap_alloc_new w _) _
  have hb : w0.heap[w.heap.size + 1]? = some (.cells #[.string (bs b.lo), .string (bs b.hi)] 58 (0, 0)) := by rw [← hw0]; exact heap_new2 w _ _
  have H1 := Lib.hid (dRight_anyI a)
  have H2 := Lib.hid (dRight_anyI b)
  have H3 := Lib.hid (dAheadI_any a.lo b.hi)
  have H4 := Lib.hid (dAheadI_any b.lo a.hi)
  obtain ⟨alo, ahi⟩ := a
  obtain ⟨blo', bhi⟩ := b
  unfold spVal at H1 H2
  simp only at ha hb hw0 H1 H2 H3 H4
  have KC := Lib.hid (fun (W : World) (h : Below w0.heap.size w0 W) => And.intro (cell_of_row W w.heap.size 0 _ _ _ (heap_below ha h (lt_of_heap ha))) (And.intro (cell_of_row W w.heap.size 1 _ _ _ (heap_below ha h (lt_of_heap ha))) (And.intro (cell_of_row W (w.heap.size + 1) 0 _ _ _ (heap_below hb h (lt_of_heap hb))) (cell_of_row W (w.heap.size + 1) 1 _ _ _ (heap_below hb h (lt_of_heap hb))))))
  obtain ⟨z0, z1, z2, z3⟩ := KC.out w0 (Below.refl _ _)
  have HB := Lib.hid hb0
  have HW := Lib.hid hw0
  clear ha hb hb0 hw0
  unfold spVal
  simp only
  generalize rightS ⟨alo, ahi⟩ = x at *
  generalize rightS ⟨blo', bhi⟩ = y at *
  generalize endS bhi alo = p at *
  generalize endS ahi blo' = q at *
  go_enter Try.func58, Try.ntmps58
  go_upto_region 1 with fail
  rw [HW.out]
  clear HW
  go_wp2_with fail
  refine (H1.out w0).mono ?_
  rintro r w1 ⟨rfl, hb1⟩
  have HB1 := Lib.hid hb1
  clear z0 z1 z2 z3
  obtain ⟨z0, z1, z2, z3⟩ := KC.out w1 hb1
  clear hb1
  cases x with
  | false =>
    go_wp2_with fail
    go_ret
    exact ⟨by simp, HB.out.trans (HB1.out.mono HB.out.size)⟩
  | true =>
    go_wp2_with fail
    refine (H2.out w1).mono ?_
    rintro r w2 ⟨rfl, hb2⟩
    have HB2 := Lib.hid (HB1.out.trans (hb2.mono HB1.out.size))
    clear z0 z1 z2 z3 hb2
    obtain ⟨z0, z1, z2, z3⟩ := KC.out w2 HB2.out
    cases y with
    | false =>
      go_wp2_with fail
      go_ret
      exact ⟨by simp, HB.out.trans (HB2.out.mono HB.out.size)⟩
    | true =>
      cases p with
      | false =>
        go_wp2_with (go_at_call 59; refine (H3.out _).mono ?_; rintro r w' ⟨rfl, rfl⟩)
        go_ret
        exact ⟨by simp, HB.out.trans (HB2.out.mono HB.out.size)⟩
      | true =>
        go_wp2_with (first
          | (go_at_call 59; with_reducible refine (H3.out _).mono ?_; rintro r w' ⟨rfl, rfl⟩)
          | (go_at_call 59; with_reducible refine (H4.out _).mono ?_; rintro r w' ⟨rfl, rfl⟩))
        go_ret
        exact ⟨by simp, HB.out.trans (HB2.out.mono HB.out.size)⟩
theorem nil_bne {h : List UInt8} (e : h.isEmpty = true) : ((bs h).toList != []) = false := by
  rw [bne, (nil_q e).1]
  rfl
theorem nil_bne' {h : List UInt8} (e : h.isEmpty = false) : ((bs h).toList != []) = true := by
  rw [bne, (nil_n e).1]
  rfl
set_option maxRecDepth 100000 in
set_option maxHeartbeats 2000000 in
theorem dApart_any (a b : Sp) (w : World) : Calls Try.prog 56 #[spVal a, spVal b] w fun r w' => r = .returned (.bool (gapB a b)) ∧ Below w.heap.size w w' := by
  obtain ⟨alo, ahi⟩ := a
  obtain ⟨blo', bhi⟩ := b
  have HB := Lib.hid (((Below.refl w.heap.size w).alloc (Nat.le_refl _) (.cells #[.string (bs alo), .string (bs ahi)] 58)).alloc (by simp) (.cells #[.string (bs blo'), .string (bs bhi)] 58))
  have h0 := sp_gtr blo' ahi
  unfold gapB spVal
  simp only
  cases hq : ahi.isEmpty with
  | true =>
    obtain ⟨q1, q2⟩ := nil_q hq
    have q3 := nil_bne hq
    clear hq h0
    rw [Bool.not_true, Bool.false_and]
    go_enter Try.func56, Try.ntmps56
    go_wp2
    go_ret
    exact ⟨rfl, HB.out⟩
  | false =>
    obtain ⟨q1, q2⟩ := nil_n hq
    have q3 := nil_bne' hq
    clear hq
    rw [Bool.not_false, Bool.true_and]
    generalize blt ahi blo' = x at *
    go_enter Try.func56, Try.ntmps56
    go_wp2
    go_ret
    exact ⟨rfl, HB.out⟩
set_option maxRecDepth 100000 in
set_option maxHeartbeats 2000000 in
theorem dLater_any (a b : List UInt8) (w : World) : Calls Try.prog 63 #[.string (bs a), .string (bs b)] w fun r w' => r = .returned (.string (bs (laterS a b))) ∧ w = w' := by
  have HC := Lib.hid (dAheadI_any a b)
  unfold laterS
  cases hq : a.isEmpty with
  | true =>
    obtain ⟨q1, q2⟩ := nil_q hq
    have q3 := nil_bne hq
    rw [if_neg (fun h => h.1 (List.isEmpty_iff.1 hq))]
    clear hq HC
    go_enter Try.func63, Try.ntmps63
    go_wp2
    go_ret
    exact ⟨rfl, rfl⟩
  | false =>
    obtain ⟨q1, q2⟩ := nil_n hq
    have q3 := nil_bne' hq
    cases he : endS b a with
    | true =>
      rw [if_pos ⟨List.isEmpty_eq_false_iff.1 hq, rfl⟩]
      rw [he] at HC
      clear hq he
      go_enter Try.func63, Try.ntmps63
      go_wp2_with (go_at_call 59; refine (HC.out _).mono ?_; rintro r w' ⟨rfl, rfl⟩)
      go_ret
      exact ⟨rfl, rfl⟩
    | false =>
      rw [if_neg (fun h => by cases h.2)]
      rw [he] at HC
      clear hq he
      go_enter Try.func63, Try.ntmps63
      go_wp2_with (go_at_call 59; refine (HC.out _).mono ?_; rintro r w' ⟨rfl, rfl⟩)
      go_ret
      exact ⟨rfl, rfl⟩
end Go.Proofs.Ytjkmodfbbiojmaa
