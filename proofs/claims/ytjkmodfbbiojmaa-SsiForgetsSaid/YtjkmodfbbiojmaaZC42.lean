import Derived.Test.YtjkmodfbbiojmaaZC18
import Derived.Deep.DeepCutAuto
import Derived.Test.YtjkmodfbbiojmaaZC16
/-
  The walk of SsiForgets: records that are not beside a transaction make no difference.
-/
namespace Go.Proofs.Ytjkmodfbbiojmaa.ssiForgets
open Go.RowKit

set_option maxRecDepth 100000 in
set_option maxHeartbeats 16000000 in
theorem walk (K : SsiC) (l : List RecS) (A : Option Addr) (c : Nat) (x : MR) (low : Nat) (w : World) (hl : ChR w w.heap.size A c l) (hx : OkMR w w.heap.size x) (hlow : low < 18446744073709551616) :
    Calls Try.prog 5 #[.slice A l.length c, recVal x, .int .u64 low] w fun r w' => r = .returned (.bool true) ∧ Below w.heap.size w w' := by
  obtain ⟨⟨tf, tl, tb, to_, tr, tw⟩, tA, tc, tB, td⟩ := x
  unfold recVal
  (try simp only at hx)
  obtain ⟨w0, hw0⟩ : ∃ y, w.alloc (.cells #[.int .u64 tf, .int .u64 tl, .int .u64 tb, .int .u64 to_, .slice tA tr.length tc, .slice tB tw.length td] 29) = y := ⟨_, rfl⟩
  have hb0 : Below w.heap.size w w0 := by rw [← hw0]; exact (Below.refl _ w).alloc (Nat.le_refl _) _
  have hx0 : w0.heap[w.heap.size]? = some (.cells #[.int .u64 tf, .int .u64 tl, .int .u64 tb, .int .u64 to_, .slice tA tr.length tc, .slice tB tw.length td] 29 (0, 0)) := by rw [← hw0]; exact heap_alloc_new w _
  have HW0 := Lib.hid hw0
  have BT := Lib.hid hx0
  have HK := Lib.hid K
  have HL := Lib.hid (hl.below hb0 (Nat.le_refl _) hb0.size)
  have HX := Lib.hid (show OkMR w0 w0.heap.size ⟨⟨tf, tl, tb, to_, tr, tw⟩, tA, tc, tB, td⟩ from hx.below hb0 (Nat.le_refl _) hb0.size)
  have HB := Lib.hid hb0
  have htb := hx.began
  (try simp only at htb)
  have HLow := Lib.hid hlow
  clear K hl hx hw0 hb0 hx0
  cases hf : fewR l with
  | false =>
    have f := Lib.hid hf
    clear hf
    go_enter Try.func5, Try.ntmps5
    go_upto_region 1 with fail
    rw [HW0.out]
    clear HW0
    have HT := Lib.hid (liveM_any HK.out w0)
    go_wp2_with fail
    refine HT.out.mono ?_
    rintro r w1 ⟨rfl, hb1⟩
    clear HT
    have HL := Lib.hid (HL.out.below hb1 (Nat.le_refl _) hb1.size)
    have HX := Lib.hid (HX.out.below hb1 (Nat.le_refl _) hb1.size)
    have HB := Lib.hid (HB.out.trans (hb1.mono HB.out.size))
    have BT := Lib.hid (heap_below BT.out hb1 (lt_of_heap BT.out))
    clear hb1
    have HT := Lib.hid (fewRno f.out HL.out)
    go_wp2_with fail
    refine HT.out.mono ?_
    rintro r w2 ⟨rfl, hb2⟩
    clear HT
    have HL := Lib.hid (HL.out.below hb2 (Nat.le_refl _) hb2.size)
    have HX := Lib.hid (HX.out.below hb2 (Nat.le_refl _) hb2.size)
    have HB := Lib.hid (HB.out.trans (hb2.mono HB.out.size))
    have BT := Lib.hid (heap_below BT.out hb2 (lt_of_heap BT.out))
    clear hb2
    have HT := Lib.hid (liveM_any HK.out w2)
    go_wp2_with fail
    refine HT.out.mono ?_
    rintro r w3 ⟨rfl, hb3⟩
    clear HT
    have HL := Lib.hid (HL.out.below hb3 (Nat.le_refl _) hb3.size)
    have HX := Lib.hid (HX.out.below hb3 (Nat.le_refl _) hb3.size)
    have HB := Lib.hid (HB.out.trans (hb3.mono HB.out.size))
    have BT := Lib.hid (heap_below BT.out hb3 (lt_of_heap BT.out))
    clear hb3
    go_wp2_with fail
    go_ret
    exact ⟨rfl, HB.out⟩
  | true =>
    cases hg : fewR [(⟨tf, tl, tb, to_, tr, tw⟩ : RecS)] with
    | false =>
      have f := Lib.hid hf
      have g := Lib.hid hg
      clear hf hg
      go_enter Try.func5, Try.ntmps5
      go_upto_region 1 with fail
      rw [HW0.out]
      clear HW0
      have HT := Lib.hid (liveM_any HK.out w0)
      go_wp2_with fail
      refine HT.out.mono ?_
      rintro r w1 ⟨rfl, hb1⟩
      clear HT
      have HL := Lib.hid (HL.out.below hb1 (Nat.le_refl _) hb1.size)
      have HX := Lib.hid (HX.out.below hb1 (Nat.le_refl _) hb1.size)
      have HB := Lib.hid (HB.out.trans (hb1.mono HB.out.size))
      have BT := Lib.hid (heap_below BT.out hb1 (lt_of_heap BT.out))
      clear hb1
      have HT := Lib.hid (fewRyes f.out HL.out)
      go_wp2_with fail
      refine HT.out.mono ?_
      rintro r w2 ⟨rfl, hb2⟩
      clear HT
      have HL := Lib.hid (HL.out.below hb2 (Nat.le_refl _) hb2.size)
      have HX := Lib.hid (HX.out.below hb2 (Nat.le_refl _) hb2.size)
      have HB := Lib.hid (HB.out.trans (hb2.mono HB.out.size))
      have BT := Lib.hid (heap_below BT.out hb2 (lt_of_heap BT.out))
      clear hb2
      obtain ⟨BTr0, BTr1, BTr2, BTr3, BTr4, BTr5⟩ := six_of BT.out
      have HT := Lib.hid (fewRno (l := [(⟨tf, tl, tb, to_, tr, tw⟩ : RecS)]) g.out (chR_one (x := ⟨⟨tf, tl, tb, to_, tr, tw⟩, tA, tc, tB, td⟩) (heap_alloc_new w2 (.cells #[.int .u64 tf, .int .u64 tl, .int .u64 tb, .int .u64 to_, .slice tA tr.length tc, .slice tB tw.length td] 29)) (HX.out.below ((Below.refl _ w2).alloc (Nat.le_refl _) _) (Nat.le_refl _) (by simp))))
      go_wp2_with fail
      refine HT.out.mono ?_
      rintro r w3 ⟨rfl, hb8⟩
      have hb3 := ((Below.refl w2.heap.size w2).alloc (Nat.le_refl _) (.cells #[.int .u64 tf, .int .u64 tl, .int .u64 tb, .int .u64 to_, .slice tA tr.length tc, .slice tB tw.length td] 29)).trans (hb8.mono (by simp))
      clear HT hb8
      clear BTr0 BTr1 BTr2 BTr3 BTr4 BTr5
      have HL := Lib.hid (HL.out.below hb3 (Nat.le_refl _) hb3.size)
      have HX := Lib.hid (HX.out.below hb3 (Nat.le_refl _) hb3.size)
      have HB := Lib.hid (HB.out.trans (hb3.mono HB.out.size))
      have BT := Lib.hid (heap_below BT.out hb3 (lt_of_heap BT.out))
      clear hb3
      have HT := Lib.hid (liveM_any HK.out w3)
      go_wp2_with fail
      refine HT.out.mono ?_
      rintro r w4 ⟨rfl, hb4⟩
      clear HT
      have HL := Lib.hid (HL.out.below hb4 (Nat.le_refl _) hb4.size)
      have HX := Lib.hid (HX.out.below hb4 (Nat.le_refl _) hb4.size)
      have HB := Lib.hid (HB.out.trans (hb4.mono HB.out.size))
      have BT := Lib.hid (heap_below BT.out hb4 (lt_of_heap BT.out))
      clear hb4
      go_wp2_with fail
      go_ret
      exact ⟨rfl, HB.out⟩
    | true =>
      by_cases hlt : tb < low
      · have f := Lib.hid hf
        have g := Lib.hid hg
        have d1 : decide ((tb : Int) < (low : Int)) = true := by rw [decide_eq_true_iff]; omega
        have d2 : decide (tb < low) = true := by rw [decide_eq_true_iff]; omega
        clear hf hg hlt
        go_enter Try.func5, Try.ntmps5
        go_upto_region 1 with fail
        rw [HW0.out]
        clear HW0
        have HT := Lib.hid (liveM_any HK.out w0)
        go_wp2_with fail
        refine HT.out.mono ?_
        rintro r w1 ⟨rfl, hb1⟩
        clear HT
        have HL := Lib.hid (HL.out.below hb1 (Nat.le_refl _) hb1.size)
        have HX := Lib.hid (HX.out.below hb1 (Nat.le_refl _) hb1.size)
        have HB := Lib.hid (HB.out.trans (hb1.mono HB.out.size))
        have BT := Lib.hid (heap_below BT.out hb1 (lt_of_heap BT.out))
        clear hb1
        have HT := Lib.hid (fewRyes f.out HL.out)
        go_wp2_with fail
        refine HT.out.mono ?_
        rintro r w2 ⟨rfl, hb2⟩
        clear HT
        have HL := Lib.hid (HL.out.below hb2 (Nat.le_refl _) hb2.size)
        have HX := Lib.hid (HX.out.below hb2 (Nat.le_refl _) hb2.size)
        have HB := Lib.hid (HB.out.trans (hb2.mono HB.out.size))
        have BT := Lib.hid (heap_below BT.out hb2 (lt_of_heap BT.out))
        clear hb2
        obtain ⟨BTr0, BTr1, BTr2, BTr3, BTr4, BTr5⟩ := six_of BT.out
        have HT := Lib.hid (fewRyes (l := [(⟨tf, tl, tb, to_, tr, tw⟩ : RecS)]) g.out (chR_one (x := ⟨⟨tf, tl, tb, to_, tr, tw⟩, tA, tc, tB, td⟩) (heap_alloc_new w2 (.cells #[.int .u64 tf, .int .u64 tl, .int .u64 tb, .int .u64 to_, .slice tA tr.length tc, .slice tB tw.length td] 29)) (HX.out.below ((Below.refl _ w2).alloc (Nat.le_refl _) _) (Nat.le_refl _) (by simp))))
        go_wp2_with fail
        refine HT.out.mono ?_
        rintro r w3 ⟨rfl, hb8⟩
        have hb3 := ((Below.refl w2.heap.size w2).alloc (Nat.le_refl _) (.cells #[.int .u64 tf, .int .u64 tl, .int .u64 tb, .int .u64 to_, .slice tA tr.length tc, .slice tB tw.length td] 29)).trans (hb8.mono (by simp))
        clear HT hb8
        clear BTr0 BTr1 BTr2 BTr3 BTr4 BTr5
        have HL := Lib.hid (HL.out.below hb3 (Nat.le_refl _) hb3.size)
        have HX := Lib.hid (HX.out.below hb3 (Nat.le_refl _) hb3.size)
        have HB := Lib.hid (HB.out.trans (hb3.mono HB.out.size))
        have BT := Lib.hid (heap_below BT.out hb3 (lt_of_heap BT.out))
        clear hb3
        obtain ⟨BTr0, BTr1, BTr2, BTr3, BTr4, BTr5⟩ := six_of BT.out
        have HT := Lib.hid (liveM_any HK.out w3)
        go_wp2_with fail
        refine HT.out.mono ?_
        rintro r w4 ⟨rfl, hb4⟩
        clear HT
        have HL := Lib.hid (HL.out.below hb4 (Nat.le_refl _) hb4.size)
        have HX := Lib.hid (HX.out.below hb4 (Nat.le_refl _) hb4.size)
        have HB := Lib.hid (HB.out.trans (hb4.mono HB.out.size))
        have BT := Lib.hid (heap_below BT.out hb4 (lt_of_heap BT.out))
        clear hb4
        clear BTr0 BTr1 BTr2 BTr3 BTr4 BTr5
        go_wp2_with fail
        go_ret
        exact ⟨rfl, HB.out⟩
      · have f := Lib.hid hf
        have g := Lib.hid hg
        have d1 : decide ((tb : Int) < (low : Int)) = false := by rw [decide_eq_false_iff_not]; omega
        have d2 : decide (tb < low) = false := by rw [decide_eq_false_iff_not]; omega
        have HOl := Lib.hid (fewR_ok hf)
        have HOt := Lib.hid (fewR_one hg)
        have hE := judge_forget l (⟨tf, tl, tb, to_, tr, tw⟩ : RecS) (low := low) (Nat.le_of_not_lt hlt)
        obtain ⟨J, hJ⟩ : ∃ J, judgeR l (⟨tf, tl, tb, to_, tr, tw⟩ : RecS) = J := ⟨_, rfl⟩
        rw [hJ] at hE
        have HJ := Lib.hid hJ
        have HE := Lib.hid hE
        clear hf hg hlt hE hJ
        go_enter Try.func5, Try.ntmps5
        go_upto_region 1 with fail
        rw [HW0.out]
        clear HW0
        have HT := Lib.hid (liveM_any HK.out w0)
        go_wp2_with fail
        refine HT.out.mono ?_
        rintro r w1 ⟨rfl, hb1⟩
        clear HT
        have HL := Lib.hid (HL.out.below hb1 (Nat.le_refl _) hb1.size)
        have HX := Lib.hid (HX.out.below hb1 (Nat.le_refl _) hb1.size)
        have HB := Lib.hid (HB.out.trans (hb1.mono HB.out.size))
        have BT := Lib.hid (heap_below BT.out hb1 (lt_of_heap BT.out))
        clear hb1
        have HT := Lib.hid (fewRyes f.out HL.out)
        go_wp2_with fail
        refine HT.out.mono ?_
        rintro r w2 ⟨rfl, hb2⟩
        clear HT
        have HL := Lib.hid (HL.out.below hb2 (Nat.le_refl _) hb2.size)
        have HX := Lib.hid (HX.out.below hb2 (Nat.le_refl _) hb2.size)
        have HB := Lib.hid (HB.out.trans (hb2.mono HB.out.size))
        have BT := Lib.hid (heap_below BT.out hb2 (lt_of_heap BT.out))
        clear hb2
        obtain ⟨BTr0, BTr1, BTr2, BTr3, BTr4, BTr5⟩ := six_of BT.out
        have HT := Lib.hid (fewRyes (l := [(⟨tf, tl, tb, to_, tr, tw⟩ : RecS)]) g.out (chR_one (x := ⟨⟨tf, tl, tb, to_, tr, tw⟩, tA, tc, tB, td⟩) (heap_alloc_new w2 (.cells #[.int .u64 tf, .int .u64 tl, .int .u64 tb, .int .u64 to_, .slice tA tr.length tc, .slice tB tw.length td] 29)) (HX.out.below ((Below.refl _ w2).alloc (Nat.le_refl _) _) (Nat.le_refl _) (by simp))))
        go_wp2_with fail
        refine HT.out.mono ?_
        rintro r w3 ⟨rfl, hb8⟩
        have hb3 := ((Below.refl w2.heap.size w2).alloc (Nat.le_refl _) (.cells #[.int .u64 tf, .int .u64 tl, .int .u64 tb, .int .u64 to_, .slice tA tr.length tc, .slice tB tw.length td] 29)).trans (hb8.mono (by simp))
        clear HT hb8
        clear BTr0 BTr1 BTr2 BTr3 BTr4 BTr5
        have HL := Lib.hid (HL.out.below hb3 (Nat.le_refl _) hb3.size)
        have HX := Lib.hid (HX.out.below hb3 (Nat.le_refl _) hb3.size)
        have HB := Lib.hid (HB.out.trans (hb3.mono HB.out.size))
        have BT := Lib.hid (heap_below BT.out hb3 (lt_of_heap BT.out))
        clear hb3
        obtain ⟨BTr0, BTr1, BTr2, BTr3, BTr4, BTr5⟩ := six_of BT.out
        have HT := Lib.hid (judgeCall HK.out ⟨⟨tf, tl, tb, to_, tr, tw⟩, tA, tc, tB, td⟩ HJ.out HOl.out HOt.out HL.out HX.out)
        go_wp2_with fail
        refine HT.out.mono ?_
        rintro r w4 ⟨rfl, hb4⟩
        clear HT
        clear BTr0 BTr1 BTr2 BTr3 BTr4 BTr5
        have HL := Lib.hid (HL.out.below hb4 (Nat.le_refl _) hb4.size)
        have HX := Lib.hid (HX.out.below hb4 (Nat.le_refl _) hb4.size)
        have HB := Lib.hid (HB.out.trans (hb4.mono HB.out.size))
        have BT := Lib.hid (heap_below BT.out hb4 (lt_of_heap BT.out))
        clear hb4
        have HFg := Lib.hid (HK.out.forget l A c low w4 HOl.out HLow.out HL.out)
        have HBt := Lib.hid (fun (W : World) (h : Below w4.heap.size w4 W) => heap_below BT.out h (lt_of_heap BT.out))
        have HXt := Lib.hid (fun (W : World) (h : Below w4.heap.size w4 W) => HX.out.below h (Nat.le_refl _) h.size)
        have HJ2 := Lib.hid (fun (A5 : Option Addr) (c5 : Nat) (W : World) (h5 : ChR W W.heap.size A5 c5 (forgetR l low)) (h : Below w4.heap.size w4 W) => (judgeCall HK.out ⟨⟨tf, tl, tb, to_, tr, tw⟩, tA, tc, tB, td⟩ HE.out (HOl.out.forget low) HOt.out h5 (HXt.out W h)))
        unfold recVal at HJ2
        simp only at HJ2
        obtain ⟨S, hS1, hS2⟩ : ∃ S : World → Prop, (∀ W : World, Below w4.heap.size w4 W → S W) ∧ ∀ W : World, S W → W.cell? ⟨w.heap.size, 0, none⟩ = some (.int .u64 tf) ∧ W.cell? ⟨w.heap.size, 1, none⟩ = some (.int .u64 tl) ∧ W.cell? ⟨w.heap.size, 2, none⟩ = some (.int .u64 tb) ∧ W.cell? ⟨w.heap.size, 3, none⟩ = some (.int .u64 to_) ∧ W.cell? ⟨w.heap.size, 4, none⟩ = some (.slice tA tr.length tc) ∧ W.cell? ⟨w.heap.size, 5, none⟩ = some (.slice tB tw.length td) := ⟨fun W => Below w4.heap.size w4 W, fun _ h => h, fun W h => six_of (HBt.out W h)⟩
        have HKp := Lib.hid hS1
        have HRd := Lib.hid hS2
        have HFd := Lib.hid (fun (W : World) (h : Below w4.heap.size w4.drew W) => (show Below w4.heap.size w4 W from (Below.refl _ w4).drew.trans h))
        have HFg2 := Lib.hid (HK.out.forget l A c low w4.drew HOl.out HLow.out (HL.out.below (Below.refl _ w4).drew (Nat.le_refl _) (Nat.le_refl _)))
        clear hS1 hS2 HBt HFg
        cases J
        all_goals
          unfold judgeVal
          simp only
          go_wp2_with fail
          refine wp_region_held_drew (S := S) (by kernel_rfl) ?_ (fun hHeld => ?_)
          · exact HKp.out _ (Below.refl _ _).drew
          refine take_held (i := 0) (v := ?_) rfl (by kernel_rfl) (by kernel_rfl) (by kernel_rfl) (fun _ _ _ h => h) (by rfl) (fun w hSw => ?_) (by assumption) ?_
          rotate_left
          · go_simp <;> with_reducible rfl
          (try simp only [Act.put, List.setIfInBounds_toArray, List.set_cons_zero, List.set_cons_succ])
          refine take_held (i := 1) (v := ?_) rfl (by kernel_rfl) (by kernel_rfl) (by kernel_rfl) (fun _ _ _ h => h) (by rfl) (fun w hSw => ?_) (by assumption) ?_
          rotate_left
          · go_simp <;> with_reducible rfl
          (try simp only [Act.put, List.setIfInBounds_toArray, List.set_cons_zero, List.set_cons_succ])
          refine take_held (i := 3) (v := ?_) rfl (by kernel_rfl) (by kernel_rfl) (by kernel_rfl) (fun _ _ _ h => h) (by rfl) (fun w hSw => ?_) (by assumption) ?_
          rotate_left
          · obtain ⟨z0, z1, z2, z3, z4, z5⟩ := HRd.out _ hSw; go_simp <;> with_reducible rfl
          (try simp only [Act.put, List.setIfInBounds_toArray, List.set_cons_zero, List.set_cons_succ])
          refine step_held (i := 2) (by kernel_rfl) rfl (fun K' hK => ?_)
          go_simp
          go_at_call 14; refine HFg2.out.mono ?_; rintro r w8 ⟨A5, c5, rfl, h5, hb8⟩; have HB8 := Lib.hid (HFd.out _ hb8); have H5 := Lib.hid h5; clear hb8 h5
          (first | (refine hK.out _ _ ?_ (fun hHeld2 => ?_)) | (go_wp2_with fail; refine hK.out _ _ ?_ (fun hHeld2 => ?_)))
          · exact HKp.out _ HB8.out
          clear hK K' hHeld
          have hHeld := hHeld2
          clear hHeld2
          (try simp only [Act.put, List.setIfInBounds_toArray, List.set_cons_zero, List.set_cons_succ])
          refine step_held (i := 4) (by kernel_rfl) rfl (fun K' hK => ?_)
          go_simp
          go_at_call 21; refine (HJ2.out _ _ _ H5.out HB8.out).mono ?_; rintro r w9 ⟨rfl, hb9⟩; have HB9 := Lib.hid (HB8.out.trans (hb9.mono HB8.out.size)); clear hb9; unfold judgeVal; (try simp only)
          (first | (refine hK.out _ _ ?_ (fun hHeld2 => ?_)) | (go_wp2_with fail; refine hK.out _ _ ?_ (fun hHeld2 => ?_)))
          · exact HKp.out _ HB9.out
          clear hK K' hHeld
          have hHeld := hHeld2
          clear hHeld2
          (try simp only [Act.put, List.setIfInBounds_toArray, List.set_cons_zero, List.set_cons_succ])
          refine take_held (i := 5) (v := ?_) rfl (by kernel_rfl) (by kernel_rfl) (by kernel_rfl) (fun _ _ _ h => h) (by rfl) (fun w hSw => ?_) (by assumption) ?_
          rotate_left
          · go_simp <;> with_reducible rfl
          (try simp only [Act.put, List.setIfInBounds_toArray, List.set_cons_zero, List.set_cons_succ])
          refine take_held (i := 6) (v := ?_) rfl (by kernel_rfl) (by kernel_rfl) (by kernel_rfl) (fun _ _ _ h => h) (by rfl) (fun w hSw => ?_) (by assumption) ?_
          rotate_left
          · go_simp <;> with_reducible rfl
          (try simp only [Act.put, List.setIfInBounds_toArray, List.set_cons_zero, List.set_cons_succ])
          refine take_held (i := 7) (v := ?_) rfl (by kernel_rfl) (by kernel_rfl) (by kernel_rfl) (fun _ _ _ h => h) (by rfl) (fun w hSw => ?_) (by assumption) ?_
          rotate_left
          · go_simp <;> with_reducible rfl
          (try simp only [Act.put, List.setIfInBounds_toArray, List.set_cons_zero, List.set_cons_succ])
          refine take_held (i := 8) (v := ?_) rfl (by kernel_rfl) (by kernel_rfl) (by kernel_rfl) (fun _ _ _ h => h) (by rfl) (fun w hSw => ?_) (by assumption) ?_
          rotate_left
          · go_simp <;> with_reducible rfl
          (try simp only [Act.put, List.setIfInBounds_toArray, List.set_cons_zero, List.set_cons_succ])
          refine take_held (i := 9) (v := ?_) rfl (by kernel_rfl) (by kernel_rfl) (by kernel_rfl) (fun _ _ _ h => h) (by rfl) (fun w hSw => ?_) (by assumption) ?_
          rotate_left
          · go_simp <;> with_reducible rfl
          (try simp only [Act.put, List.setIfInBounds_toArray, List.set_cons_zero, List.set_cons_succ])
          refine wpAnyH_done (by kernel_rfl) ?_ _
          go_wp2_with fail
          go_ret
          exact ⟨rfl, HB.out.trans (HB9.out.mono HB.out.size)⟩
end Go.Proofs.Ytjkmodfbbiojmaa.ssiForgets
