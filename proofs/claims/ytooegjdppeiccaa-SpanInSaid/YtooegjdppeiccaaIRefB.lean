/-
  Stretches, the document's own answers: touches, cover, In, Meet, Same, Normal.
-/
import Derived.Test.YtooegjdppeiccaaIRefA
import Derived.Deep.RegionHeld3
namespace Go.Proofs.Ytooegjdppeiccaa
open Go.RowKit

set_option maxRecDepth 100000 in
set_option maxHeartbeats 2000000 in
theorem refTouchI_any (a b : Sp) (w : World) : Calls Try.prog 102 #[spVal a, spVal b] w fun r w' => r = .returned (.bool (touchS a b)) ∧ Below w.heap.size w w' := by
  obtain ⟨alo, ahi⟩ := a
  obtain ⟨blo', bhi⟩ := b
  have HB := Lib.hid (((Below.refl w.heap.size w).alloc (Nat.le_refl _) (.cells #[.string (bs alo), .string (bs ahi)] 60)).alloc (by simp) (.cells #[.string (bs blo'), .string (bs bhi)] 60))
  have h0 := sp_leq blo' ahi
  have h1 := sp_leq alo bhi
  unfold touchS blo spVal
  simp only
  cases hq : ahi.isEmpty with
  | true =>
    obtain ⟨q1, q2⟩ := nil_q hq
    clear hq h0
    rw [Bool.true_or, Bool.true_and]
    cases hp : bhi.isEmpty with
    | true =>
      obtain ⟨p1, p2⟩ := nil_q hp
      clear hp h1
      rw [Bool.true_or]
      go_enter Try.func102, Try.ntmps102
      go_wp2
      go_ret
      exact ⟨rfl, HB.out⟩
    | false =>
      obtain ⟨p1, p2⟩ := nil_n hp
      clear hp
      rw [Bool.false_or]
      generalize blt bhi alo = x at *
      go_enter Try.func102, Try.ntmps102
      go_wp2
      go_ret
      exact ⟨rfl, HB.out⟩
  | false =>
    obtain ⟨q1, q2⟩ := nil_n hq
    clear hq
    rw [Bool.false_or]
    cases hx : blt ahi blo' with
    | true =>
      rw [hx] at h0
      clear hx h1
      rw [Bool.not_true, Bool.false_and]
      go_enter Try.func102, Try.ntmps102
      go_wp2
      go_ret
      exact ⟨rfl, HB.out⟩
    | false =>
      rw [hx] at h0
      clear hx
      rw [Bool.not_false, Bool.true_and]
      cases hp : bhi.isEmpty with
      | true =>
        obtain ⟨p1, p2⟩ := nil_q hp
        clear hp h1
        rw [Bool.true_or]
        go_enter Try.func102, Try.ntmps102
        go_wp2
        go_ret
        exact ⟨rfl, HB.out⟩
      | false =>
        obtain ⟨p1, p2⟩ := nil_n hp
        clear hp
        rw [Bool.false_or]
        generalize blt bhi alo = x at *
        go_enter Try.func102, Try.ntmps102
        go_wp2
        go_ret
        exact ⟨rfl, HB.out⟩

set_option maxRecDepth 100000 in
set_option maxHeartbeats 4000000 in
theorem refCoverI_any (a b : Sp) (w : World) : Calls Try.prog 84 #[spVal a, spVal b] w fun r w' => r = .returned (spVal (coverS a b)) ∧ Below w.heap.size w w' := by
  obtain ⟨alo, ahi⟩ := a
  obtain ⟨blo', bhi⟩ := b
  have HM := fun w => run_min_sp (P := Try.prog) w #[9, 9] 9 alo blo'
  have HX := fun w => run_max_sp (P := Try.prog) w #[9, 9] 9 ahi bhi
  unfold coverS spVal
  simp only
  generalize minS alo blo' = m at *
  generalize maxS ahi bhi = x at *
  have HB := Lib.hid (fun o1 o2 o3 o4 : Obj => ((((Below.refl w.heap.size w).alloc (Nat.le_refl _) o1).alloc (by simp) o2).alloc (by simp; omega) o3).alloc (by simp; omega) o4)
  cases hq : ahi.isEmpty with
  | true =>
    obtain ⟨q1, q2⟩ := nil_q hq
    rw [if_pos (.inl (List.isEmpty_iff.1 hq))]
    clear hq
    go_enter Try.func84, Try.ntmps84
    go_wp2
    refine bodyPost_ret (v := .agg #[.string (bs m), .string ⟨#[]⟩]) (by simp [results, Try.results84, go_sem]) rfl ⟨rfl, HB.out _ _ _ _⟩
  | false =>
    obtain ⟨q1, q2⟩ := nil_n hq
    cases hp : bhi.isEmpty with
    | true =>
      obtain ⟨p1, p2⟩ := nil_q hp
      rw [if_pos (.inr (List.isEmpty_iff.1 hp))]
      clear hq hp
      go_enter Try.func84, Try.ntmps84
      go_wp2
      refine bodyPost_ret (v := .agg #[.string (bs m), .string ⟨#[]⟩]) (by simp [results, Try.results84, go_sem]) rfl ⟨rfl, HB.out _ _ _ _⟩
    | false =>
      obtain ⟨p1, p2⟩ := nil_n hp
      rw [if_neg (by rintro (e | e); exact List.isEmpty_eq_false_iff.1 hq e; exact List.isEmpty_eq_false_iff.1 hp e)]
      clear hq hp
      go_enter Try.func84, Try.ntmps84
      go_wp2
      refine bodyPost_ret (v := .agg #[.string (bs m), .string (bs x)]) (by simp [results, Try.results84, go_sem]) rfl ⟨rfl, HB.out _ _ _ _⟩

set_option maxRecDepth 100000 in
set_option maxHeartbeats 4000000 in
theorem refInI_any (l : List Sp) (A : Option Addr) (c : Nat) (k : List UInt8) (w : World) (hl : l.length ≤ 4294967296) (hr : RowG spCells w 0 w.heap.size A l) : Calls Try.prog 47 #[.slice A l.length c, .string (bs k)] w fun r w' => r = .returned (.bool (inS l k)) ∧ Below w.heap.size w w' := by
  have HR := Lib.hid hr
  clear hr
  go_enter Try.func47, Try.ntmps47
  go_wp2
  go_loopg [9] l.length (fun q i wr => ∃ j : Nat, j + q = l.length ∧ i = .int .i64 j ∧ inS (l.take j) k = false ∧ Below w.heap.size w wr)
  case atStart => exact ⟨0, by omega, rfl, rfl, Below.refl _ _⟩
  case round =>
    obtain ⟨j, hk, rfl, hall, hb⟩ := hrel
    have HK := Lib.hid hk
    have HA := Lib.hid hall
    have HB := Lib.hid hb
    clear hall hb hk
    by_cases hj : j < l.length
    · have hlt : decide ((j : Int) < (l.length : Int)) = true := by simpa using hj
      have hlt3 : decide (j < l.length) = true := by simpa using hj
      obtain ⟨b, o, rfl, _, hbl, hc⟩ := (HR.out.below HB.out (Nat.le_refl _)).at_ spF hj
      have c0 := hc 0 _ rfl
      have c1 := hc 1 _ rfl
      simp only [Nat.add_zero] at c0
      have HT := Lib.hid (show inS (l.take (j + 1)) k = (inS (l.take j) k || hasS l[j] k) by rw [List.take_succ_eq_append_getElem hj, in_append, in_one])
      have HY := Lib.hid (fun h : hasS l[j] k = true => in_iff.2 ⟨l[j], List.getElem_mem hj, h⟩)
      have HC := Lib.hid (refHasI_any l[j] k)
      clear hc hbl
      generalize l[j] = x at *
      obtain ⟨xl, xh⟩ := x
      simp only at c0 c1
      have HBN := Lib.hid (HB.out.alloc HB.out.size (.cells #[.string (bs xl), .string (bs xh)] 60))
      unfold spVal at HC
      simp only at HC
      cases hq : hasS ⟨xl, xh⟩ k with
      | true =>
        rw [hq] at HC
        have hF := HY.out hq
        clear hq HY HT
        go_wp2_with fail
        refine (HC.out _).mono ?_
        rintro r w1 ⟨rfl, hb1⟩
        have HB1 := Lib.hid (HBN.out.trans (hb1.mono HBN.out.size))
        clear hb1
        go_wp2_with fail
        go_ret
        rw [hF]
        exact ⟨rfl, HB1.out⟩
      | false =>
        rw [hq] at HC
        have HF := Lib.hid (HT.out.trans (by rw [HA.out, hq, Bool.or_self]))
        clear hq HY HT
        go_wp2_with fail
        refine (HC.out _).mono ?_
        rintro r w1 ⟨rfl, hb1⟩
        have HB1 := Lib.hid (HBN.out.trans (hb1.mono HBN.out.size))
        clear hb1
        go_wp2_with fail
        go_roundg (gk - 1)
        case measure => have := HK.out; omega
        case rel => exact ⟨j + 1, by have := HK.out; omega, by go_num, HF.out, HB1.out⟩
    · have hj' : j = l.length := by have := HK.out; omega
      subst hj'
      have hlt : decide ((l.length : Int) < (l.length : Int)) = false := by simp
      have hlt2 : decide (l.length < l.length) = false := by simp
      have hF := HA.out
      rw [List.take_length] at hF
      have HF := Lib.hid hF
      clear hF hj
      go_wp2
      go_ret
      rw [HF.out]
      exact ⟨rfl, HB.out⟩
end Go.Proofs.Ytooegjdppeiccaa
