import Derived.Test.YtjkmodfbbiojmaaZC29
import Derived.Test.YtjkmodfbbiojmaaZC15
import Derived.Lib.MinMax
/-
  Package span, as it landed, answers as the contracts say.
-/
namespace Go.Proofs.Ytjkmodfbbiojmaa
open Go.RowKit

theorem spanC : SpanC where
  right := dRight_anyI
  meets := dMeets_any
  normal := fun l A c w hl h => dNormal_any l A c w (by unfold okI at hl; omega) h.2.2.2
  meet := dMeet_any
  same := fun a b A B c d w ha hb h1 h2 => dSameI_any a b A B c d w (by unfold okI at ha; omega) (by unfold okI at hb; omega) h1.2.2.2 h2.2.2.2
  join := fun a b A B c d w ha hb h1 h2 => dJoin_any a b A B c d w ha hb h1 h2
  fit := fun a A c n w ha h1 h2 h => dFit_any a A c n w ha h1 h2 h
end Go.Proofs.Ytjkmodfbbiojmaa

/-
  Records, package ssi as it landed: Right, Same of two, the lesser Out.
-/
namespace Go.Proofs.Ytjkmodfbbiojmaa
open Go.RowKit

set_option maxRecDepth 100000 in
set_option maxHeartbeats 8000000 in
theorem dRightM_any (K : SpanC) (x : MR) (w : World) (ho : okR x.r) (hx : OkMR w w.heap.size x) :
    Calls Try.prog 20 #[recVal x] w fun r w' => r = .returned (.bool (rightR x.r)) ∧ Below w.heap.size w w' := by
  obtain ⟨⟨xf, xl, xb, xo, xr, xw⟩, xA, xc, xB, xd⟩ := x
  unfold recVal
  have HOk := Lib.hid hx
  have HO := Lib.hid ho
  clear hx ho
  simp only at HOk HO
  go_enter Try.func20, Try.ntmps20
  go_upto_region 1 with fail
  obtain ⟨w1, hw1⟩ : ∃ y, w.alloc (.cells #[.int .u64 xf, .int .u64 xl, .int .u64 xb, .int .u64 xo, .slice xA xr.length xc, .slice xB xw.length xd] 29) = y := ⟨_, rfl⟩
  rw [hw1]
  have hb1 : Below w.heap.size w w1 := by rw [← hw1]; exact (Below.refl _ w).alloc (Nat.le_refl _) _
  have hx1 : w1.heap[w.heap.size]? = some (.cells #[.int .u64 xf, .int .u64 xl, .int .u64 xb, .int .u64 xo, .slice xA xr.length xc, .slice xB xw.length xd] 29 (0, 0)) := by rw [← hw1]; exact heap_alloc_new w _
  clear hw1
  have HB1 := Lib.hid hb1
  have HCl := Lib.hid (fun (W : World) (h : Below w1.heap.size w1 W) => six_of (heap_below hx1 h (lt_of_heap hx1)))
  have HR := Lib.hid (HOk.out.reads.below hb1 (Nat.le_refl _) hb1.size)
  have HW := Lib.hid (HOk.out.writes.below hb1 (Nat.le_refl _) hb1.size)
  have hf := HOk.out.first
  have hl := HOk.out.last
  have hbg := HOk.out.began
  simp only at hf hl hbg
  have HN1 := Lib.hid (K.normal xr xA xc w1 HO.out.1 HR.out)
  have HN2 := Lib.hid (fun (W : World) (h : Below w1.heap.size w1 W) => K.normal xw xB xd W HO.out.2 (HW.out.below h (Nat.le_refl _) h.size))
  clear hb1 hx1 HOk HO
  by_cases g0 : 1 ≤ xf
  case neg =>
    have d0 : decide ((1 : Int) ≤ (xf : Int)) = false := by rw [decide_eq_false_iff_not]; omega
    have e0 : decide (1 ≤ xf) = false := by rw [decide_eq_false_iff_not]; omega
    have HF := Lib.hid (show rightR ⟨xf, xl, xb, xo, xr, xw⟩ = false by simp [rightR, g0])
    obtain ⟨z0, z1, z2, z3, z4, z5⟩ := HCl.out _ (Below.refl _ _)
    clear g0 HN1 HN2
    go_wp2_with fail
    go_ret
    rw [HF.out]
    exact ⟨rfl, HB1.out⟩
  have d0 : decide ((1 : Int) ≤ (xf : Int)) = true := by rw [decide_eq_true_iff]; omega
  have e0 : decide (1 ≤ xf) = true := by rw [decide_eq_true_iff]; omega
  by_cases g1 : xf ≤ xl
  case neg =>
    have d1 : decide ((xf : Int) ≤ (xl : Int)) = false := by rw [decide_eq_false_iff_not]; omega
    have e1 : decide (xf ≤ xl) = false := by rw [decide_eq_false_iff_not]; omega
    have HF := Lib.hid (show rightR ⟨xf, xl, xb, xo, xr, xw⟩ = false by simp [rightR, g1])
    obtain ⟨z0, z1, z2, z3, z4, z5⟩ := HCl.out _ (Below.refl _ _)
    clear g1 HN1 HN2
    go_wp2_with fail
    go_ret
    rw [HF.out]
    exact ⟨rfl, HB1.out⟩
  have d1 : decide ((xf : Int) ≤ (xl : Int)) = true := by rw [decide_eq_true_iff]; omega
  have e1 : decide (xf ≤ xl) = true := by rw [decide_eq_true_iff]; omega
  by_cases g2 : xb ≤ xl
  case neg =>
    have d2 : decide ((xb : Int) ≤ (xl : Int)) = false := by rw [decide_eq_false_iff_not]; omega
    have e2 : decide (xb ≤ xl) = false := by rw [decide_eq_false_iff_not]; omega
    have HF := Lib.hid (show rightR ⟨xf, xl, xb, xo, xr, xw⟩ = false by simp [rightR, g2])
    obtain ⟨z0, z1, z2, z3, z4, z5⟩ := HCl.out _ (Below.refl _ _)
    clear g2 HN1 HN2
    go_wp2_with fail
    go_ret
    rw [HF.out]
    exact ⟨rfl, HB1.out⟩
  have d2 : decide ((xb : Int) ≤ (xl : Int)) = true := by rw [decide_eq_true_iff]; omega
  have e2 : decide (xb ≤ xl) = true := by rw [decide_eq_true_iff]; omega
  have HRt := Lib.hid (show rightR ⟨xf, xl, xb, xo, xr, xw⟩ = (normB xr && normB xw) by simp [rightR, g0, g1, g2])
  clear g0 g1 g2
  obtain ⟨z0, z1, z2, z3, z4, z5⟩ := HCl.out _ (Below.refl _ _)
  go_wp2_with fail
  refine HN1.out.mono ?_
  rintro r w2 ⟨rfl, hb2⟩
  clear z0 z1 z2 z3 z4 z5 HN1
  obtain ⟨z0, z1, z2, z3, z4, z5⟩ := HCl.out _ hb2
  have HN := Lib.hid (HN2.out w2 hb2)
  have HB2 := Lib.hid (HB1.out.trans (hb2.mono HB1.out.size))
  clear hb2 HN2
  cases q : normB xr with
  | false =>
    have HF := Lib.hid (show rightR ⟨xf, xl, xb, xo, xr, xw⟩ = false by rw [HRt.out, q]; rfl)
    go_wp2_with fail
    go_ret
    rw [HF.out]
    exact ⟨rfl, HB2.out⟩
  | true =>
    go_wp2_with fail
    refine HN.out.mono ?_
    rintro r w3 ⟨rfl, hb3⟩
    have HF := Lib.hid (show rightR ⟨xf, xl, xb, xo, xr, xw⟩ = normB xw by rw [HRt.out, q]; rfl)
    have HB3 := Lib.hid (HB2.out.trans (hb3.mono HB2.out.size))
    clear hb3
    cases q2 : normB xw
    all_goals
      go_wp2_with fail
      go_ret
      rw [HF.out, q2]
      exact ⟨rfl, HB3.out⟩
set_option maxRecDepth 100000 in
set_option maxHeartbeats 4000000 in
theorem dLeastM_any (a b : Nat) (w : World) (ha : a < 18446744073709551616) (hb : b < 18446744073709551616) :
    Calls Try.prog 26 #[.int .u64 a, .int .u64 b] w fun r w' => r = .returned (.int .u64 (leastR a b : Nat)) ∧ Below w.heap.size w w' := by
  by_cases h1 : a = 0
  · subst h1
    have e : leastR 0 b = b := by unfold leastR; rw [if_pos (.inl rfl)]; omega
    rw [e]
    clear e
    go_enter Try.func26, Try.ntmps26
    go_wp2
    go_ret
    exact ⟨by first | rfl | (show Ending.returned (Value.int .u64 (min (a : Int) (b : Int))) = _; congr 2; omega), Below.refl _ _⟩
  · have d1 : (((a : Int)) == 0) = false := by rw [beq_eq_false_iff_ne]; omega
    by_cases h2 : b = 0
    · subst h2
      have e : leastR a 0 = a := by unfold leastR; rw [if_pos (.inr rfl)]; omega
      rw [e]
      clear e h1
      go_enter Try.func26, Try.ntmps26
      go_wp2
      go_ret
      exact ⟨by first | rfl | (show Ending.returned (Value.int .u64 (min (a : Int) (b : Int))) = _; congr 2; omega), Below.refl _ _⟩
    · have d2 : (((b : Int)) == 0) = false := by rw [beq_eq_false_iff_ne]; omega
      have HE := Lib.hid (show leastR a b = min a b by unfold leastR; rw [if_neg (by omega)])
      clear h1 h2
      go_enter Try.func26, Try.ntmps26
      go_wp2
      go_ret
      rw [HE.out]
      exact ⟨by first | rfl | (show Ending.returned (Value.int .u64 (min (a : Int) (b : Int))) = _; congr 2; omega), Below.refl _ _⟩
set_option maxRecDepth 100000 in
set_option maxHeartbeats 8000000 in
theorem dSameOneM_any (K : SpanC) (x y : MR) (w : World) (hox : okR x.r) (hoy : okR y.r) (hx : OkMR w w.heap.size x) (hy : OkMR w w.heap.size y) :
    Calls Try.prog 35 #[recVal x, recVal y] w fun r w' => r = .returned (.bool (sameOneR x.r y.r)) ∧ Below w.heap.size w w' := by
  obtain ⟨⟨xf, xl, xb, xo, xr, xw⟩, xA, xc, xB, xd⟩ := x
  obtain ⟨⟨yf, yl, yb, yo, yr, yw⟩, yA, yc, yB, yd⟩ := y
  unfold recVal
  have HX := Lib.hid hx
  have HY := Lib.hid hy
  have HOX := Lib.hid hox
  have HOY := Lib.hid hoy
  clear hx hy hox hoy
  simp only at HX HY HOX HOY
  go_enter Try.func35, Try.ntmps35
  go_upto_region 1 with fail
  obtain ⟨w1, hw1⟩ : ∃ y, (w.alloc (.cells #[.int .u64 xf, .int .u64 xl, .int .u64 xb, .int .u64 xo, .slice xA xr.length xc, .slice xB xw.length xd] 29)).alloc (.cells #[.int .u64 yf, .int .u64 yl, .int .u64 yb, .int .u64 yo, .slice yA yr.length yc, .slice yB yw.length yd] 29) = y := ⟨_, rfl⟩
  rw [hw1]
  have hb1 : Below w.heap.size w w1 := by rw [← hw1]; exact ((Below.refl _ w).alloc (Nat.le_refl _) _).alloc (by simp) _
  have hx1 : w1.heap[w.heap.size]? = some (.cells #[.int .u64 xf, .int .u64 xl, .int .u64 xb, .int .u64 xo, .slice xA xr.length xc, .slice xB xw.length xd] 29 (0, 0)) := by rw [← hw1]; exact heap_allocs (heap_alloc_new w _) _
  have hx2 : w1.heap[w.heap.size + 1]? = some (.cells #[.int .u64 yf, .int .u64 yl, .int .u64 yb, .int .u64 yo, .slice yA yr.length yc, .slice yB yw.length yd] 29 (0, 0)) := by rw [← hw1]; exact heap_new2 w _ _
  clear hw1
  have HB1 := Lib.hid hb1
  have HCl := Lib.hid (fun (W : World) (h : Below w1.heap.size w1 W) => And.intro (six_of (heap_below hx1 h (lt_of_heap hx1))) (six_of (heap_below hx2 h (lt_of_heap hx2))))
  have HXr := Lib.hid (HX.out.reads.below hb1 (Nat.le_refl _) hb1.size)
  have HXw := Lib.hid (HX.out.writes.below hb1 (Nat.le_refl _) hb1.size)
  have HYr := Lib.hid (HY.out.reads.below hb1 (Nat.le_refl _) hb1.size)
  have HYw := Lib.hid (HY.out.writes.below hb1 (Nat.le_refl _) hb1.size)
  have HN1 := Lib.hid (K.same xr yr xA yA xc yc w1 HOX.out.1 HOY.out.1 HXr.out HYr.out)
  have HN2 := Lib.hid (fun (W : World) (h : Below w1.heap.size w1 W) => K.same xw yw xB yB xd yd W HOX.out.2 HOY.out.2 (HXw.out.below h (Nat.le_refl _) h.size) (HYw.out.below h (Nat.le_refl _) h.size))
  clear hb1 hx1 hx2 HOX HOY HX HY HXr HXw HYr HYw
  obtain ⟨⟨z0, z1, z2, z3, z4, z5⟩, ⟨y0, y1, y2, y3, y4, y5⟩⟩ := HCl.out _ (Below.refl _ _)
  by_cases g0 : xf = yf
  case neg =>
    have d0 : (((xf : Int)) == (yf : Int)) = false := by rw [beq_eq_false_iff_ne]; omega
    have HF := Lib.hid (show sameOneR ⟨xf, xl, xb, xo, xr, xw⟩ ⟨yf, yl, yb, yo, yr, yw⟩ = false by simp [sameOneR, g0])
    clear g0 HN1 HN2
    go_wp2_with fail
    go_ret
    rw [HF.out]
    exact ⟨rfl, HB1.out⟩
  have d0 : (((xf : Int)) == (yf : Int)) = true := by rw [beq_iff_eq]; omega
  by_cases g1 : xl = yl
  case neg =>
    have d1 : (((xl : Int)) == (yl : Int)) = false := by rw [beq_eq_false_iff_ne]; omega
    have HF := Lib.hid (show sameOneR ⟨xf, xl, xb, xo, xr, xw⟩ ⟨yf, yl, yb, yo, yr, yw⟩ = false by simp [sameOneR, g1])
    clear g1 HN1 HN2
    go_wp2_with fail
    go_ret
    rw [HF.out]
    exact ⟨rfl, HB1.out⟩
  have d1 : (((xl : Int)) == (yl : Int)) = true := by rw [beq_iff_eq]; omega
  by_cases g2 : xb = yb
  case neg =>
    have d2 : (((xb : Int)) == (yb : Int)) = false := by rw [beq_eq_false_iff_ne]; omega
    have HF := Lib.hid (show sameOneR ⟨xf, xl, xb, xo, xr, xw⟩ ⟨yf, yl, yb, yo, yr, yw⟩ = false by simp [sameOneR, g2])
    clear g2 HN1 HN2
    go_wp2_with fail
    go_ret
    rw [HF.out]
    exact ⟨rfl, HB1.out⟩
  have d2 : (((xb : Int)) == (yb : Int)) = true := by rw [beq_iff_eq]; omega
  by_cases g3 : xo = yo
  case neg =>
    have d3 : (((xo : Int)) == (yo : Int)) = false := by rw [beq_eq_false_iff_ne]; omega
    have HF := Lib.hid (show sameOneR ⟨xf, xl, xb, xo, xr, xw⟩ ⟨yf, yl, yb, yo, yr, yw⟩ = false by simp [sameOneR, g3])
    clear g3 HN1 HN2
    go_wp2_with fail
    go_ret
    rw [HF.out]
    exact ⟨rfl, HB1.out⟩
  have d3 : (((xo : Int)) == (yo : Int)) = true := by rw [beq_iff_eq]; omega
  have HRt := Lib.hid (show sameOneR ⟨xf, xl, xb, xo, xr, xw⟩ ⟨yf, yl, yb, yo, yr, yw⟩ = (sameI xr yr && sameI xw yw) by simp [sameOneR, sameI, g0, g1, g2, g3])
  clear g0 g1 g2 g3
  go_wp2_with fail
  refine HN1.out.mono ?_
  rintro r w2 ⟨rfl, hb2⟩
  clear z0 z1 z2 z3 z4 z5 y0 y1 y2 y3 y4 y5 HN1
  obtain ⟨⟨z0, z1, z2, z3, z4, z5⟩, ⟨y0, y1, y2, y3, y4, y5⟩⟩ := HCl.out _ hb2
  have HN := Lib.hid (HN2.out w2 hb2)
  have HB2 := Lib.hid (HB1.out.trans (hb2.mono HB1.out.size))
  clear hb2 HN2
  cases q : sameI xr yr with
  | false =>
    have HF := Lib.hid (show sameOneR ⟨xf, xl, xb, xo, xr, xw⟩ ⟨yf, yl, yb, yo, yr, yw⟩ = false by rw [HRt.out, q]; rfl)
    go_wp2_with fail
    go_ret
    rw [HF.out]
    exact ⟨rfl, HB2.out⟩
  | true =>
    go_wp2_with fail
    refine HN.out.mono ?_
    rintro r w3 ⟨rfl, hb3⟩
    have HF := Lib.hid (show sameOneR ⟨xf, xl, xb, xo, xr, xw⟩ ⟨yf, yl, yb, yo, yr, yw⟩ = sameI xw yw by rw [HRt.out, q]; rfl)
    have HB3 := Lib.hid (HB2.out.trans (hb3.mono HB2.out.size))
    clear hb3
    cases q2 : sameI xw yw
    all_goals
      go_wp2_with fail
      go_ret
      rw [HF.out, q2]
      exact ⟨rfl, HB3.out⟩
end Go.Proofs.Ytjkmodfbbiojmaa
