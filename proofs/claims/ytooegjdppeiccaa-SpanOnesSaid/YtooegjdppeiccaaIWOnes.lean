/-
  The walk of SpanOnes: any key's stretch, which stretches are right, what lies in them, and which two meet.
-/
import Derived.Test.YtooegjdppeiccaaILaw
import Derived.Deep.DeepCutAuto
import Derived.Deep.RegionHeld3
import Derived.Test.YtooegjdppeiccaaIPoint
import Derived.Test.YtooegjdppeiccaaQuiet
namespace Go.Proofs.Ytooegjdppeiccaa.spanOnes
open Go.RowKit

set_option maxRecDepth 100000 in
set_option maxHeartbeats 8000000 in
theorem walk (K : SpanC) (a b : Sp) (k : List UInt8) (w : World) :
    Calls Try.prog 4 #[spVal a, spVal b, .string (bs k)] w fun r w' => r = .returned (.bool true) ∧ Below w.heap.size w w' := by
  obtain ⟨sl, sh⟩ := a
  obtain ⟨tl, th⟩ := b
  unfold spVal
  simp only
  obtain ⟨w0, hw0⟩ : ∃ y, ((w.alloc (.cells #[.string (bs sl), .string (bs sh)] 60)).alloc (.cells #[.string (bs tl), .string (bs th)] 60)) = y := ⟨_, rfl⟩
  have hb0 : Below w.heap.size w w0 := by rw [← hw0]; exact ((Below.refl _ w).alloc (Nat.le_refl _) _).alloc (by simp) _
  have hx0 : w0.heap[w.heap.size]? = some (.cells #[.string (bs sl), .string (bs sh)] 60 (0, 0)) := by rw [← hw0]; exact heap_allocs (heap_alloc_new w _) _
  have hx1 : w0.heap[w.heap.size + 1]? = some (.cells #[.string (bs tl), .string (bs th)] 60 (0, 0)) := by rw [← hw0]; exact heap_new2 w _ _
  have BX0 := Lib.hid hx0
  have BX1 := Lib.hid hx1
  have HW0 := Lib.hid hw0
  have HK := Lib.hid K
  have HB := Lib.hid hb0
  clear K hw0 hb0 hx0 hx1
  cases hh : fewI [⟨sl, sh⟩, ⟨tl, th⟩] with
  | false =>
    have h := Lib.hid hh
    clear hh
    go_enter Try.func4, Try.ntmps4
    go_upto_region 1 with fail
    rw [HW0.out]
    clear HW0
    have HT := Lib.hid (liveI_any HK.out w0)
    go_wp2_with fail
    refine HT.out.mono ?_
    rintro r w1 ⟨rfl, hb1⟩
    clear HT
    have HB := Lib.hid (HB.out.trans (hb1.mono HB.out.size))
    have BX0 := Lib.hid (box_at BX0.out hb1)
    have BX1 := Lib.hid (box_at BX1.out hb1)
    clear hb1
    obtain ⟨BX0r0, BX0r1⟩ := box_read BX0.out
    obtain ⟨BX1r0, BX1r1⟩ := box_read BX1.out
    have HT := Lib.hid (fewNo (l := [⟨sl, sh⟩, ⟨tl, th⟩]) h.out (chI_two (heap_alloc_new w1 (.cells #[.string (bs sl), .string (bs sh), .string (bs tl), .string (bs th)] 60))))
    go_wp2_with fail
    refine HT.out.mono ?_
    rintro r w2 ⟨rfl, hb8⟩
    have hb2 := ((Below.refl w1.heap.size w1).alloc (Nat.le_refl _) (.cells #[.string (bs sl), .string (bs sh), .string (bs tl), .string (bs th)] 60)).trans (hb8.mono (by simp))
    clear HT hb8
    clear BX0r0 BX0r1 BX1r0 BX1r1
    have HB := Lib.hid (HB.out.trans (hb2.mono HB.out.size))
    have BX0 := Lib.hid (box_at BX0.out hb2)
    have BX1 := Lib.hid (box_at BX1.out hb2)
    clear hb2
    have HT := Lib.hid (liveI_any HK.out w2)
    go_wp2_with fail
    refine HT.out.mono ?_
    rintro r w3 ⟨rfl, hb3⟩
    clear HT
    have HB := Lib.hid (HB.out.trans (hb3.mono HB.out.size))
    have BX0 := Lib.hid (box_at BX0.out hb3)
    have BX1 := Lib.hid (box_at BX1.out hb3)
    clear hb3
    go_wp2_with fail
    go_ret
    exact ⟨rfl, HB.out⟩
  | true =>
    by_cases h3 : k.length ≤ 300
    · skip
      have h := Lib.hid hh
      clear hh
      have d1 : decide ((300 : Int) < (k.length : Int)) = false := by rw [decide_eq_false_iff_not]; omega
      have d1x : decide (300 < k.length) = false := by rw [decide_eq_false_iff_not]; omega
      have kz : ((bs k).size : Int) = (k.length : Int) := by rw [bs_size]
      have HK3 := Lib.hid (show k.length ≤ 1000000 by omega)
      clear h3
      go_enter Try.func4, Try.ntmps4
      go_upto_region 1 with fail
      rw [HW0.out]
      clear HW0
      have HT := Lib.hid (liveI_any HK.out w0)
      go_wp2_with fail
      refine HT.out.mono ?_
      rintro r w1 ⟨rfl, hb1⟩
      clear HT
      have HB := Lib.hid (HB.out.trans (hb1.mono HB.out.size))
      have BX0 := Lib.hid (box_at BX0.out hb1)
      have BX1 := Lib.hid (box_at BX1.out hb1)
      clear hb1
      obtain ⟨BX0r0, BX0r1⟩ := box_read BX0.out
      obtain ⟨BX1r0, BX1r1⟩ := box_read BX1.out
      have HT := Lib.hid (fewYes (l := [⟨sl, sh⟩, ⟨tl, th⟩]) h.out (chI_two (heap_alloc_new w1 (.cells #[.string (bs sl), .string (bs sh), .string (bs tl), .string (bs th)] 60))))
      go_wp2_with fail
      refine HT.out.mono ?_
      rintro r w2 ⟨rfl, hb8⟩
      have hb2 := ((Below.refl w1.heap.size w1).alloc (Nat.le_refl _) (.cells #[.string (bs sl), .string (bs sh), .string (bs tl), .string (bs th)] 60)).trans (hb8.mono (by simp))
      clear HT hb8
      clear BX0r0 BX0r1 BX1r0 BX1r1
      have HB := Lib.hid (HB.out.trans (hb2.mono HB.out.size))
      have BX0 := Lib.hid (box_at BX0.out hb2)
      have BX1 := Lib.hid (box_at BX1.out hb2)
      clear hb2
      have HKp := Lib.hid (fun (W : World) (h : Below w2.heap.size w2 W) => And.intro (box_read (box_at BX0.out h)).1 (And.intro (box_read (box_at BX0.out h)).2 (And.intro (box_read (box_at BX1.out h)).1 (box_read (box_at BX1.out h)).2)))
      have C1 : Hid (∀ (W : World), Below w2.heap.size w2 W → Calls Try.prog 31 #[.string (bs k)] W fun r w' => r = .returned (.agg #[.string (bs k), .string (bs (k ++ [0]))]) ∧ Below w2.heap.size w2 w') := Lib.hid fun W h => (HK.out.point k W HK3.out).mono fun _ _ q => ⟨q.1, h.trans (q.2.mono h.size)⟩
      have C2 : Hid (∀ (W : World), Below w2.heap.size w2 W → Calls Try.prog 32 #[.string (bs k)] W fun r w' => r = .returned (.agg #[.string (bs k), .string (bs (k ++ [0]))]) ∧ Below w2.heap.size w2 w') := Lib.hid fun W h => (refPointI_any k W HK3.out).mono fun _ _ q => ⟨q.1, h.trans (q.2.mono h.size)⟩
      have C3 : Hid (∀ (W : World), Below w2.heap.size w2 W → Calls Try.prog 33 #[.agg #[.string (bs sl), .string (bs sh)]] W fun r w' => r = .returned (.bool (rightS ⟨sl, sh⟩)) ∧ Below w2.heap.size w2 w') := Lib.hid fun W h => (HK.out.right ⟨sl, sh⟩ W).mono fun _ _ q => ⟨q.1, h.trans (q.2.mono h.size)⟩
      have C4 : Hid (∀ (W : World), Below w2.heap.size w2 W → Calls Try.prog 34 #[.agg #[.string (bs sl), .string (bs sh)]] W fun r w' => r = .returned (.bool (rightS ⟨sl, sh⟩)) ∧ Below w2.heap.size w2 w') := Lib.hid fun W h => (refRightI_any ⟨sl, sh⟩ W).mono fun _ _ q => ⟨q.1, h.trans (q.2.mono h.size)⟩
      have C5 : Hid (∀ (W : World), Below w2.heap.size w2 W → Calls Try.prog 35 #[.agg #[.string (bs sl), .string (bs sh)], .string (bs k)] W fun r w' => r = .returned (.bool (hasS ⟨sl, sh⟩ k)) ∧ Below w2.heap.size w2 w') := Lib.hid fun W h => (HK.out.has ⟨sl, sh⟩ k W).mono fun _ _ q => ⟨q.1, h.trans (q.2.mono h.size)⟩
      have C6 : Hid (∀ (W : World), Below w2.heap.size w2 W → Calls Try.prog 36 #[.agg #[.string (bs sl), .string (bs sh)], .string (bs k)] W fun r w' => r = .returned (.bool (hasS ⟨sl, sh⟩ k)) ∧ Below w2.heap.size w2 w') := Lib.hid fun W h => (refHasI_any ⟨sl, sh⟩ k W).mono fun _ _ q => ⟨q.1, h.trans (q.2.mono h.size)⟩
      have C7 : Hid (∀ (W : World), Below w2.heap.size w2 W → Calls Try.prog 37 #[.agg #[.string (bs sl), .string (bs sh)], .agg #[.string (bs tl), .string (bs th)]] W fun r w' => r = .returned (.bool (meetsS ⟨sl, sh⟩ ⟨tl, th⟩)) ∧ Below w2.heap.size w2 w') := Lib.hid fun W h => (HK.out.meets ⟨sl, sh⟩ ⟨tl, th⟩ W).mono fun _ _ q => ⟨q.1, h.trans (q.2.mono h.size)⟩
      have C8 : Hid (∀ (W : World), Below w2.heap.size w2 W → Calls Try.prog 38 #[.agg #[.string (bs sl), .string (bs sh)], .agg #[.string (bs tl), .string (bs th)]] W fun r w' => r = .returned (.bool (meetsS ⟨sl, sh⟩ ⟨tl, th⟩)) ∧ Below w2.heap.size w2 w') := Lib.hid fun W h => (refMeetsI_any ⟨sl, sh⟩ ⟨tl, th⟩ W).mono fun _ _ q => ⟨q.1, h.trans (q.2.mono h.size)⟩
      generalize rightS ⟨sl, sh⟩ = p at *
      generalize hasS ⟨sl, sh⟩ k = q at *
      generalize meetsS ⟨sl, sh⟩ ⟨tl, th⟩ = m at *
      generalize bs (k ++ [0]) = K0 at *
      clear HK
      go_wp2_with fail
      refine wp_region_classJ (C := fun W => Below w2.heap.size w2 W) (by kernel_rfl) (by kernel_rfl) ((Below.refl _ _).drew) ?_
      repeat (
        refine no_implicit_lambda% (wpQuiet_step ?_)
        intro K hK
        go_simp
        first
        | (refine no_implicit_lambda% (hK _ ?_); clear hK K)
        | (apply Exists.intro
           refine ⟨fun _ => ?_, hK _ ?_⟩
           (first
             | (intro hw; with_reducible exact C1.out _ hw)
             | (intro hw; with_reducible exact C2.out _ hw)
             | (intro hw; with_reducible exact C3.out _ hw)
             | (intro hw; with_reducible exact C4.out _ hw)
             | (intro hw; with_reducible exact C5.out _ hw)
             | (intro hw; with_reducible exact C6.out _ hw)
             | (intro hw; with_reducible exact C7.out _ hw)
             | (intro hw; with_reducible exact C8.out _ hw)
             | (intro hw; obtain ⟨z0, z1, z2, z3⟩ := HKp.out _ hw; go_simp; with_reducible exact ⟨rfl, rfl⟩)
             | (intro hw; obtain ⟨z0, z1, z2, z3⟩ := HKp.out _ hw; go_simp; with_reducible rfl)
             | (intro _; with_reducible rfl)
             | (intro hw; go_simp; with_reducible exact ⟨rfl, rfl⟩))
           clear hK K))
      refine wpQuiet_nil ?_
      intro w8 hb8
      have hb9 := HB.out.trans (hb8.mono HB.out.size)
      go_wp2_with fail
      go_ret
      exact ⟨by simp, hb9⟩
    · skip
      have h := Lib.hid hh
      clear hh
      have d1 : decide ((300 : Int) < (k.length : Int)) = true := by rw [decide_eq_true_iff]; omega
      have d1x : decide (300 < k.length) = true := by rw [decide_eq_true_iff]; omega
      have kz : ((bs k).size : Int) = (k.length : Int) := by rw [bs_size]
      clear h3
      go_enter Try.func4, Try.ntmps4
      go_upto_region 1 with fail
      rw [HW0.out]
      clear HW0
      have HT := Lib.hid (liveI_any HK.out w0)
      go_wp2_with fail
      refine HT.out.mono ?_
      rintro r w1 ⟨rfl, hb1⟩
      clear HT
      have HB := Lib.hid (HB.out.trans (hb1.mono HB.out.size))
      have BX0 := Lib.hid (box_at BX0.out hb1)
      have BX1 := Lib.hid (box_at BX1.out hb1)
      clear hb1
      obtain ⟨BX0r0, BX0r1⟩ := box_read BX0.out
      obtain ⟨BX1r0, BX1r1⟩ := box_read BX1.out
      have HT := Lib.hid (fewYes (l := [⟨sl, sh⟩, ⟨tl, th⟩]) h.out (chI_two (heap_alloc_new w1 (.cells #[.string (bs sl), .string (bs sh), .string (bs tl), .string (bs th)] 60))))
      go_wp2_with fail
      refine HT.out.mono ?_
      rintro r w2 ⟨rfl, hb8⟩
      have hb2 := ((Below.refl w1.heap.size w1).alloc (Nat.le_refl _) (.cells #[.string (bs sl), .string (bs sh), .string (bs tl), .string (bs th)] 60)).trans (hb8.mono (by simp))
      clear HT hb8
      clear BX0r0 BX0r1 BX1r0 BX1r1
      have HB := Lib.hid (HB.out.trans (hb2.mono HB.out.size))
      have BX0 := Lib.hid (box_at BX0.out hb2)
      have BX1 := Lib.hid (box_at BX1.out hb2)
      clear hb2
      have HT := Lib.hid (liveI_any HK.out w2)
      go_wp2_with fail
      refine HT.out.mono ?_
      rintro r w3 ⟨rfl, hb3⟩
      clear HT
      have HB := Lib.hid (HB.out.trans (hb3.mono HB.out.size))
      have BX0 := Lib.hid (box_at BX0.out hb3)
      have BX1 := Lib.hid (box_at BX1.out hb3)
      clear hb3
      go_wp2_with fail
      go_ret
      exact ⟨rfl, HB.out⟩
end Go.Proofs.Ytooegjdppeiccaa.spanOnes
