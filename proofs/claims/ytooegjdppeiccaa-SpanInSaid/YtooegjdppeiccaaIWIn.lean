/-
  The walk of SpanIn: what lies in a list and a stretch lies in both added, and nothing else, and that is normal.
-/
import Derived.Test.YtooegjdppeiccaaILaw
import Derived.Deep.DeepCutAuto
import Derived.Deep.RegionHeld3
namespace Go.Proofs.Ytooegjdppeiccaa.spanIn
open Go.RowKit

set_option maxRecDepth 100000 in
set_option maxHeartbeats 8000000 in
theorem walk (K : SpanC) (l : List Sp) (A : Option Addr) (c : Nat) (s : Sp) (k : List UInt8) (hk : k.length ≤ maxLen) (w : World) (hl : ChI w w.heap.size A c l) :
    Calls Try.prog 7 #[.slice A l.length c, spVal s, .string (bs k)] w fun r w' => r = .returned (.bool true) ∧ Below w.heap.size w w' := by
  obtain ⟨sl, sh⟩ := s
  unfold spVal
  simp only
  obtain ⟨w0, hw0⟩ : ∃ y, (w.alloc (.cells #[.string (bs sl), .string (bs sh)] 60)) = y := ⟨_, rfl⟩
  have hb0 : Below w.heap.size w w0 := by rw [← hw0]; exact (Below.refl _ w).alloc (Nat.le_refl _) _
  have hx0 : w0.heap[w.heap.size]? = some (.cells #[.string (bs sl), .string (bs sh)] 60 (0, 0)) := by rw [← hw0]; exact heap_alloc_new w _
  have BX0 := Lib.hid hx0
  have HW0 := Lib.hid hw0
  have HK := Lib.hid K
  have HL := Lib.hid (hl.below hb0 (Nat.le_refl _) hb0.size)
  have HB := Lib.hid hb0
  clear K hl hw0 hb0 hx0
  cases hf : fewI l with
  | false =>
    have f := Lib.hid hf
    clear hf
    go_enter Try.func7, Try.ntmps7
    go_upto_region 1 with fail
    rw [HW0.out]
    clear HW0
    have HT := Lib.hid (liveI_any HK.out w0)
    go_wp2_with fail
    refine HT.out.mono ?_
    rintro r w1 ⟨rfl, hb1⟩
    clear HT
    have HL := Lib.hid (HL.out.below hb1 (Nat.le_refl _) hb1.size)
    have HB := Lib.hid (HB.out.trans (hb1.mono HB.out.size))
    have BX0 := Lib.hid (box_at BX0.out hb1)
    clear hb1
    have HT := Lib.hid (fewNo f.out HL.out)
    go_wp2_with fail
    refine HT.out.mono ?_
    rintro r w2 ⟨rfl, hb2⟩
    clear HT
    have HL := Lib.hid (HL.out.below hb2 (Nat.le_refl _) hb2.size)
    have HB := Lib.hid (HB.out.trans (hb2.mono HB.out.size))
    have BX0 := Lib.hid (box_at BX0.out hb2)
    clear hb2
    have HT := Lib.hid (liveI_any HK.out w2)
    go_wp2_with fail
    refine HT.out.mono ?_
    rintro r w3 ⟨rfl, hb3⟩
    clear HT
    have HL := Lib.hid (HL.out.below hb3 (Nat.le_refl _) hb3.size)
    have HB := Lib.hid (HB.out.trans (hb3.mono HB.out.size))
    have BX0 := Lib.hid (box_at BX0.out hb3)
    clear hb3
    go_wp2_with fail
    go_ret
    exact ⟨rfl, HB.out⟩
  | true =>
    cases hg : fewI [⟨sl, sh⟩] with
    | false =>
      have f := Lib.hid hf
      have g := Lib.hid hg
      clear hf hg
      go_enter Try.func7, Try.ntmps7
      go_upto_region 1 with fail
      rw [HW0.out]
      clear HW0
      have HT := Lib.hid (liveI_any HK.out w0)
      go_wp2_with fail
      refine HT.out.mono ?_
      rintro r w1 ⟨rfl, hb1⟩
      clear HT
      have HL := Lib.hid (HL.out.below hb1 (Nat.le_refl _) hb1.size)
      have HB := Lib.hid (HB.out.trans (hb1.mono HB.out.size))
      have BX0 := Lib.hid (box_at BX0.out hb1)
      clear hb1
      have HT := Lib.hid (fewYes f.out HL.out)
      go_wp2_with fail
      refine HT.out.mono ?_
      rintro r w2 ⟨rfl, hb2⟩
      clear HT
      have HL := Lib.hid (HL.out.below hb2 (Nat.le_refl _) hb2.size)
      have HB := Lib.hid (HB.out.trans (hb2.mono HB.out.size))
      have BX0 := Lib.hid (box_at BX0.out hb2)
      clear hb2
      obtain ⟨BX0r0, BX0r1⟩ := box_read BX0.out
      have HT := Lib.hid (fewNo (l := [⟨sl, sh⟩]) g.out (chI_one (heap_alloc_new w2 (.cells #[.string (bs sl), .string (bs sh)] 60))))
      go_wp2_with fail
      refine HT.out.mono ?_
      rintro r w3 ⟨rfl, hb8⟩
      have hb3 := ((Below.refl w2.heap.size w2).alloc (Nat.le_refl _) (.cells #[.string (bs sl), .string (bs sh)] 60)).trans (hb8.mono (by simp))
      clear HT hb8
      clear BX0r0 BX0r1
      have HL := Lib.hid (HL.out.below hb3 (Nat.le_refl _) hb3.size)
      have HB := Lib.hid (HB.out.trans (hb3.mono HB.out.size))
      have BX0 := Lib.hid (box_at BX0.out hb3)
      clear hb3
      have HT := Lib.hid (liveI_any HK.out w3)
      go_wp2_with fail
      refine HT.out.mono ?_
      rintro r w4 ⟨rfl, hb4⟩
      clear HT
      have HL := Lib.hid (HL.out.below hb4 (Nat.le_refl _) hb4.size)
      have HB := Lib.hid (HB.out.trans (hb4.mono HB.out.size))
      have BX0 := Lib.hid (box_at BX0.out hb4)
      clear hb4
      go_wp2_with fail
      go_ret
      exact ⟨rfl, HB.out⟩
    | true =>
      by_cases h3 : k.length ≤ 300
      · skip
        have f := Lib.hid hf
        have g := Lib.hid hg
        have hq := fewI_ok hf
        have HQ := Lib.hid hq
        clear hf hg
        have d1 : decide ((300 : Int) < (k.length : Int)) = false := by rw [decide_eq_false_iff_not]; omega
        have d1x : decide (300 < k.length) = false := by rw [decide_eq_false_iff_not]; omega
        have kz : ((bs k).size : Int) = (k.length : Int) := by rw [bs_size]
        clear h3
        have hnm := normB_iff.2 (join_norm (l ++ [⟨sl, sh⟩]))
        have hin := join_in (l ++ [⟨sl, sh⟩]) k
        have hok := okI_join (a := l) (b := [⟨sl, sh⟩]) (by unfold okI at hq; have := (fewI_yes f.out).2; simp; omega)
        rw [in_append, in_one] at hin
        have HAdd := Lib.hid (fun (W : World) (h : ChI W W.heap.size A c l) => HK.out.add l ⟨sl, sh⟩ A c W HQ.out h)
        have HHas := Lib.hid (fun (W : World) => HK.out.has ⟨sl, sh⟩ k W)
        unfold spVal at HAdd HHas
        simp only at HAdd HHas
        generalize joinSp (l ++ [⟨sl, sh⟩]) = M at *
        have HNo := Lib.hid (fun (B : Option Addr) (d : Nat) (W : World) (h : ChI W W.heap.size B d M) => HK.out.normal M B d W hok h)
        have HI1 := Lib.hid (fun (B : Option Addr) (d : Nat) (W : World) (h : ChI W W.heap.size B d M) => HK.out.has_in M B d k W hok h)
        have HI2 := Lib.hid (fun (W : World) (h : ChI W W.heap.size A c l) => HK.out.has_in l A c k W HQ.out h)
        rw [hnm] at HNo
        rw [hin] at HI1
        generalize hasS ⟨sl, sh⟩ k = y at *
        clear hnm hin hok hq
        cases hx : inS l k with
        | false =>
          rw [hx] at HI1 HI2
          clear hx
          rw [Bool.false_or] at HI1
          go_enter Try.func7, Try.ntmps7
          go_upto_region 1 with fail
          rw [HW0.out]
          clear HW0
          have HT := Lib.hid (liveI_any HK.out w0)
          go_wp2_with fail
          refine HT.out.mono ?_
          rintro r w1 ⟨rfl, hb1⟩
          clear HT
          have HL := Lib.hid (HL.out.below hb1 (Nat.le_refl _) hb1.size)
          have HB := Lib.hid (HB.out.trans (hb1.mono HB.out.size))
          have BX0 := Lib.hid (box_at BX0.out hb1)
          clear hb1
          have HT := Lib.hid (fewYes f.out HL.out)
          go_wp2_with fail
          refine HT.out.mono ?_
          rintro r w2 ⟨rfl, hb2⟩
          clear HT
          have HL := Lib.hid (HL.out.below hb2 (Nat.le_refl _) hb2.size)
          have HB := Lib.hid (HB.out.trans (hb2.mono HB.out.size))
          have BX0 := Lib.hid (box_at BX0.out hb2)
          clear hb2
          obtain ⟨BX0r0, BX0r1⟩ := box_read BX0.out
          have HT := Lib.hid (fewYes (l := [⟨sl, sh⟩]) g.out (chI_one (heap_alloc_new w2 (.cells #[.string (bs sl), .string (bs sh)] 60))))
          go_wp2_with fail
          refine HT.out.mono ?_
          rintro r w3 ⟨rfl, hb8⟩
          have hb3 := ((Below.refl w2.heap.size w2).alloc (Nat.le_refl _) (.cells #[.string (bs sl), .string (bs sh)] 60)).trans (hb8.mono (by simp))
          clear HT hb8
          clear BX0r0 BX0r1
          have HL := Lib.hid (HL.out.below hb3 (Nat.le_refl _) hb3.size)
          have HB := Lib.hid (HB.out.trans (hb3.mono HB.out.size))
          have BX0 := Lib.hid (box_at BX0.out hb3)
          clear hb3
          obtain ⟨BX0r0, BX0r1⟩ := box_read BX0.out
          have HT := Lib.hid (HAdd.out w3 HL.out)
          go_wp2_with fail
          refine HT.out.mono ?_
          rintro r w4 ⟨A5, c5, rfl, h5, hb4⟩
          clear HT
          clear BX0r0 BX0r1
          have HL := Lib.hid (HL.out.below hb4 (Nat.le_refl _) hb4.size)
          have HB := Lib.hid (HB.out.trans (hb4.mono HB.out.size))
          have BX0 := Lib.hid (box_at BX0.out hb4)
          have H5 := Lib.hid h5
          clear h5
          clear hb4
          have HT := Lib.hid (HNo.out A5 c5 w4 H5.out)
          go_wp2_with fail
          refine HT.out.mono ?_
          rintro r w5 ⟨rfl, hb5⟩
          clear HT
          have HL := Lib.hid (HL.out.below hb5 (Nat.le_refl _) hb5.size)
          have HB := Lib.hid (HB.out.trans (hb5.mono HB.out.size))
          have BX0 := Lib.hid (box_at BX0.out hb5)
          have H5 := Lib.hid (H5.out.below hb5 (Nat.le_refl _) hb5.size)
          clear hb5
          have HT := Lib.hid (HI1.out A5 c5 w5 H5.out)
          go_wp2_with fail
          refine HT.out.mono ?_
          rintro r w6 ⟨rfl, hb6⟩
          clear HT
          have HL := Lib.hid (HL.out.below hb6 (Nat.le_refl _) hb6.size)
          have HB := Lib.hid (HB.out.trans (hb6.mono HB.out.size))
          have BX0 := Lib.hid (box_at BX0.out hb6)
          have H5 := Lib.hid (H5.out.below hb6 (Nat.le_refl _) hb6.size)
          clear hb6
          have HT := Lib.hid (HI2.out w6 HL.out)
          go_wp2_with fail
          refine HT.out.mono ?_
          rintro r w7 ⟨rfl, hb7⟩
          clear HT
          have HL := Lib.hid (HL.out.below hb7 (Nat.le_refl _) hb7.size)
          have HB := Lib.hid (HB.out.trans (hb7.mono HB.out.size))
          have BX0 := Lib.hid (box_at BX0.out hb7)
          have H5 := Lib.hid (H5.out.below hb7 (Nat.le_refl _) hb7.size)
          clear hb7
          obtain ⟨BX0r0, BX0r1⟩ := box_read BX0.out
          have HT := Lib.hid (HHas.out w7)
          go_wp2_with fail
          refine HT.out.mono ?_
          rintro r w8 ⟨rfl, hb8⟩
          clear HT
          clear BX0r0 BX0r1
          have HL := Lib.hid (HL.out.below hb8 (Nat.le_refl _) hb8.size)
          have HB := Lib.hid (HB.out.trans (hb8.mono HB.out.size))
          have BX0 := Lib.hid (box_at BX0.out hb8)
          have H5 := Lib.hid (H5.out.below hb8 (Nat.le_refl _) hb8.size)
          clear hb8
          cases y
          · go_wp2_with fail
            go_ret
            exact ⟨rfl, HB.out⟩
          · go_wp2_with fail
            go_ret
            exact ⟨rfl, HB.out⟩
        | true =>
          rw [hx] at HI1 HI2
          clear hx
          rw [Bool.true_or] at HI1
          go_enter Try.func7, Try.ntmps7
          go_upto_region 1 with fail
          rw [HW0.out]
          clear HW0
          have HT := Lib.hid (liveI_any HK.out w0)
          go_wp2_with fail
          refine HT.out.mono ?_
          rintro r w1 ⟨rfl, hb1⟩
          clear HT
          have HL := Lib.hid (HL.out.below hb1 (Nat.le_refl _) hb1.size)
          have HB := Lib.hid (HB.out.trans (hb1.mono HB.out.size))
          have BX0 := Lib.hid (box_at BX0.out hb1)
          clear hb1
          have HT := Lib.hid (fewYes f.out HL.out)
          go_wp2_with fail
          refine HT.out.mono ?_
          rintro r w2 ⟨rfl, hb2⟩
          clear HT
          have HL := Lib.hid (HL.out.below hb2 (Nat.le_refl _) hb2.size)
          have HB := Lib.hid (HB.out.trans (hb2.mono HB.out.size))
          have BX0 := Lib.hid (box_at BX0.out hb2)
          clear hb2
          obtain ⟨BX0r0, BX0r1⟩ := box_read BX0.out
          have HT := Lib.hid (fewYes (l := [⟨sl, sh⟩]) g.out (chI_one (heap_alloc_new w2 (.cells #[.string (bs sl), .string (bs sh)] 60))))
          go_wp2_with fail
          refine HT.out.mono ?_
          rintro r w3 ⟨rfl, hb8⟩
          have hb3 := ((Below.refl w2.heap.size w2).alloc (Nat.le_refl _) (.cells #[.string (bs sl), .string (bs sh)] 60)).trans (hb8.mono (by simp))
          clear HT hb8
          clear BX0r0 BX0r1
          have HL := Lib.hid (HL.out.below hb3 (Nat.le_refl _) hb3.size)
          have HB := Lib.hid (HB.out.trans (hb3.mono HB.out.size))
          have BX0 := Lib.hid (box_at BX0.out hb3)
          clear hb3
          obtain ⟨BX0r0, BX0r1⟩ := box_read BX0.out
          have HT := Lib.hid (HAdd.out w3 HL.out)
          go_wp2_with fail
          refine HT.out.mono ?_
          rintro r w4 ⟨A5, c5, rfl, h5, hb4⟩
          clear HT
          clear BX0r0 BX0r1
          have HL := Lib.hid (HL.out.below hb4 (Nat.le_refl _) hb4.size)
          have HB := Lib.hid (HB.out.trans (hb4.mono HB.out.size))
          have BX0 := Lib.hid (box_at BX0.out hb4)
          have H5 := Lib.hid h5
          clear h5
          clear hb4
          have HT := Lib.hid (HNo.out A5 c5 w4 H5.out)
          go_wp2_with fail
          refine HT.out.mono ?_
          rintro r w5 ⟨rfl, hb5⟩
          clear HT
          have HL := Lib.hid (HL.out.below hb5 (Nat.le_refl _) hb5.size)
          have HB := Lib.hid (HB.out.trans (hb5.mono HB.out.size))
          have BX0 := Lib.hid (box_at BX0.out hb5)
          have H5 := Lib.hid (H5.out.below hb5 (Nat.le_refl _) hb5.size)
          clear hb5
          have HT := Lib.hid (HI1.out A5 c5 w5 H5.out)
          go_wp2_with fail
          refine HT.out.mono ?_
          rintro r w6 ⟨rfl, hb6⟩
          clear HT
          have HL := Lib.hid (HL.out.below hb6 (Nat.le_refl _) hb6.size)
          have HB := Lib.hid (HB.out.trans (hb6.mono HB.out.size))
          have BX0 := Lib.hid (box_at BX0.out hb6)
          have H5 := Lib.hid (H5.out.below hb6 (Nat.le_refl _) hb6.size)
          clear hb6
          have HT := Lib.hid (HI2.out w6 HL.out)
          go_wp2_with fail
          refine HT.out.mono ?_
          rintro r w7 ⟨rfl, hb7⟩
          clear HT
          have HL := Lib.hid (HL.out.below hb7 (Nat.le_refl _) hb7.size)
          have HB := Lib.hid (HB.out.trans (hb7.mono HB.out.size))
          have BX0 := Lib.hid (box_at BX0.out hb7)
          have H5 := Lib.hid (H5.out.below hb7 (Nat.le_refl _) hb7.size)
          clear hb7
          go_wp2_with fail
          go_ret
          exact ⟨rfl, HB.out⟩
      · skip
        have f := Lib.hid hf
        have g := Lib.hid hg
        clear hf hg
        have d1 : decide ((300 : Int) < (k.length : Int)) = true := by rw [decide_eq_true_iff]; omega
        have d1x : decide (300 < k.length) = true := by rw [decide_eq_true_iff]; omega
        have kz : ((bs k).size : Int) = (k.length : Int) := by rw [bs_size]
        clear h3
        go_enter Try.func7, Try.ntmps7
        go_upto_region 1 with fail
        rw [HW0.out]
        clear HW0
        have HT := Lib.hid (liveI_any HK.out w0)
        go_wp2_with fail
        refine HT.out.mono ?_
        rintro r w1 ⟨rfl, hb1⟩
        clear HT
        have HL := Lib.hid (HL.out.below hb1 (Nat.le_refl _) hb1.size)
        have HB := Lib.hid (HB.out.trans (hb1.mono HB.out.size))
        have BX0 := Lib.hid (box_at BX0.out hb1)
        clear hb1
        have HT := Lib.hid (fewYes f.out HL.out)
        go_wp2_with fail
        refine HT.out.mono ?_
        rintro r w2 ⟨rfl, hb2⟩
        clear HT
        have HL := Lib.hid (HL.out.below hb2 (Nat.le_refl _) hb2.size)
        have HB := Lib.hid (HB.out.trans (hb2.mono HB.out.size))
        have BX0 := Lib.hid (box_at BX0.out hb2)
        clear hb2
        obtain ⟨BX0r0, BX0r1⟩ := box_read BX0.out
        have HT := Lib.hid (fewYes (l := [⟨sl, sh⟩]) g.out (chI_one (heap_alloc_new w2 (.cells #[.string (bs sl), .string (bs sh)] 60))))
        go_wp2_with fail
        refine HT.out.mono ?_
        rintro r w3 ⟨rfl, hb8⟩
        have hb3 := ((Below.refl w2.heap.size w2).alloc (Nat.le_refl _) (.cells #[.string (bs sl), .string (bs sh)] 60)).trans (hb8.mono (by simp))
        clear HT hb8
        clear BX0r0 BX0r1
        have HL := Lib.hid (HL.out.below hb3 (Nat.le_refl _) hb3.size)
        have HB := Lib.hid (HB.out.trans (hb3.mono HB.out.size))
        have BX0 := Lib.hid (box_at BX0.out hb3)
        clear hb3
        have HT := Lib.hid (liveI_any HK.out w3)
        go_wp2_with fail
        refine HT.out.mono ?_
        rintro r w4 ⟨rfl, hb4⟩
        clear HT
        have HL := Lib.hid (HL.out.below hb4 (Nat.le_refl _) hb4.size)
        have HB := Lib.hid (HB.out.trans (hb4.mono HB.out.size))
        have BX0 := Lib.hid (box_at BX0.out hb4)
        clear hb4
        go_wp2_with fail
        go_ret
        exact ⟨rfl, HB.out⟩
end Go.Proofs.Ytooegjdppeiccaa.spanIn
