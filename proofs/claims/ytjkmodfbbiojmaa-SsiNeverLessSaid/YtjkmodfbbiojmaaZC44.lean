import Derived.Test.YtjkmodfbbiojmaaZC18
import Derived.Deep.DeepCutAuto
import Derived.Test.YtjkmodfbbiojmaaZC16
import Derived.Test.YtjkmodfbbiojmaaZC35
import Derived.Deep.LoopGhost
import Derived.Lib.MinMax
/-
  The walk of SsiNeverLess: of right records, what is judged OK with records joined is judged OK without, and the time that is told is not below; there are few then, with few stretches, and they are right.
-/
namespace Go.Proofs.Ytjkmodfbbiojmaa.ssiNeverLess
open Go.RowKit

set_option maxRecDepth 100000 in
set_option maxHeartbeats 16000000 in
theorem walk (K : SsiC) (l : List RecS) (A : Option Addr) (c : Nat) (x : MR) (n marks : Int) (w : World) (hl : ChR w w.heap.size A c l) (hx : OkMR w w.heap.size x) (hn1 : -9223372036854775808 ≤ n) (hn2 : n ≤ 9223372036854775807) (hm1 : -9223372036854775808 ≤ marks) (hm2 : marks ≤ 9223372036854775807) :
    Calls Try.prog 4 #[.slice A l.length c, recVal x, .int .i64 n, .int .i64 marks] w fun r w' => r = .returned (.bool true) ∧ Below w.heap.size w w' := by
  obtain ⟨⟨tf, tl, tb, to_, tr, tw⟩, tA, tc, tB, td⟩ := x
  unfold recVal
  (try simp only at hx)
  obtain ⟨w0, hw0⟩ : ∃ y, w.alloc (.cells #[.int .u64 tf, .int .u64 tl, .int .u64 tb, .int .u64 to_, .slice tA tr.length tc, .slice tB tw.length td] 29) = y := ⟨_, rfl⟩
  have hb0 : Below w.heap.size w w0 := by rw [← hw0]; exact (Below.refl _ w).alloc (Nat.le_refl _) _
  have hx0 : w0.heap[w.heap.size]? = some (.cells #[.int .u64 tf, .int .u64 tl, .int .u64 tb, .int .u64 to_, .slice tA tr.length tc, .slice tB tw.length td] 29 (0, 0)) := by rw [← hw0]; exact heap_alloc_new w _
  have HW0 := Lib.hid hw0
  have BT := Lib.hid hx0
  have HK := Lib.hid K
  have HL := Lib.hid (hl.below hb0 (Nat.le_refl _) hb0.size)
  have HX := Lib.hid (show OkMR w0 w0.heap.size ⟨⟨tf, tl, tb, to_, tr, tw⟩, tA, tc, tB, td⟩ from hx.below hb0 (Nat.le_refl _) hb0.size)
  have HB := Lib.hid hb0
  have HN1 := Lib.hid hn1
  have HN2 := Lib.hid hn2
  have HM1 := Lib.hid hm1
  have HM2 := Lib.hid hm2
  clear K hl hx hw0 hb0 hx0 hn1 hn2 hm1 hm2
  cases hf : fewR l with
  | false =>
    have f := Lib.hid hf
    clear hf
    go_enter Try.func4, Try.ntmps4
    go_upto_region 1 with fail
    rw [HW0.out]
    clear HW0
    have HT := Lib.hid (liveM_any HK.out w0)
    go_wp2_with fail
    refine HT.out.mono ?_
    rintro r w1 ⟨rfl, hb1⟩
    clear HT
    have HL := Lib.hid (HL.out.below hb1 (Nat.le_refl _) hb1.size)
    have HX := Lib.hid (HX.out.below hb1 (Nat.le_refl _) hb1.size)
    have HB := Lib.hid (HB.out.trans (hb1.mono HB.out.size))
    have BT := Lib.hid (heap_below BT.out hb1 (lt_of_heap BT.out))
    clear hb1
    have HT := Lib.hid (fewRno f.out HL.out)
    go_wp2_with fail
    refine HT.out.mono ?_
    rintro r w2 ⟨rfl, hb2⟩
    clear HT
    have HL := Lib.hid (HL.out.below hb2 (Nat.le_refl _) hb2.size)
    have HX := Lib.hid (HX.out.below hb2 (Nat.le_refl _) hb2.size)
    have HB := Lib.hid (HB.out.trans (hb2.mono HB.out.size))
    have BT := Lib.hid (heap_below BT.out hb2 (lt_of_heap BT.out))
    clear hb2
    have HT := Lib.hid (liveM_any HK.out w2)
    go_wp2_with fail
    refine HT.out.mono ?_
    rintro r w3 ⟨rfl, hb3⟩
    clear HT
    have HL := Lib.hid (HL.out.below hb3 (Nat.le_refl _) hb3.size)
    have HX := Lib.hid (HX.out.below hb3 (Nat.le_refl _) hb3.size)
    have HB := Lib.hid (HB.out.trans (hb3.mono HB.out.size))
    have BT := Lib.hid (heap_below BT.out hb3 (lt_of_heap BT.out))
    clear hb3
    go_wp2_with fail
    go_ret
    exact ⟨rfl, HB.out⟩
  | true =>
    cases hg : fewR [(⟨tf, tl, tb, to_, tr, tw⟩ : RecS)] with
    | false =>
      have f := Lib.hid hf
      have g := Lib.hid hg
      clear hf hg
      go_enter Try.func4, Try.ntmps4
      go_upto_region 1 with fail
      rw [HW0.out]
      clear HW0
      have HT := Lib.hid (liveM_any HK.out w0)
      go_wp2_with fail
      refine HT.out.mono ?_
      rintro r w1 ⟨rfl, hb1⟩
      clear HT
      have HL := Lib.hid (HL.out.below hb1 (Nat.le_refl _) hb1.size)
      have HX := Lib.hid (HX.out.below hb1 (Nat.le_refl _) hb1.size)
      have HB := Lib.hid (HB.out.trans (hb1.mono HB.out.size))
      have BT := Lib.hid (heap_below BT.out hb1 (lt_of_heap BT.out))
      clear hb1
      have HT := Lib.hid (fewRyes f.out HL.out)
      go_wp2_with fail
      refine HT.out.mono ?_
      rintro r w2 ⟨rfl, hb2⟩
      clear HT
      have HL := Lib.hid (HL.out.below hb2 (Nat.le_refl _) hb2.size)
      have HX := Lib.hid (HX.out.below hb2 (Nat.le_refl _) hb2.size)
      have HB := Lib.hid (HB.out.trans (hb2.mono HB.out.size))
      have BT := Lib.hid (heap_below BT.out hb2 (lt_of_heap BT.out))
      clear hb2
      obtain ⟨BTr0, BTr1, BTr2, BTr3, BTr4, BTr5⟩ := six_of BT.out
      have HT := Lib.hid (fewRno (l := [(⟨tf, tl, tb, to_, tr, tw⟩ : RecS)]) g.out (chR_one (x := ⟨⟨tf, tl, tb, to_, tr, tw⟩, tA, tc, tB, td⟩) (heap_alloc_new w2 (.cells #[.int .u64 tf, .int .u64 tl, .int .u64 tb, .int .u64 to_, .slice tA tr.length tc, .slice tB tw.length td] 29)) (HX.out.below ((Below.refl _ w2).alloc (Nat.le_refl _) _) (Nat.le_refl _) (by simp))))
      go_wp2_with fail
      refine HT.out.mono ?_
      rintro r w3 ⟨rfl, hb8⟩
      have hb3 := ((Below.refl w2.heap.size w2).alloc (Nat.le_refl _) (.cells #[.int .u64 tf, .int .u64 tl, .int .u64 tb, .int .u64 to_, .slice tA tr.length tc, .slice tB tw.length td] 29)).trans (hb8.mono (by simp))
      clear HT hb8
      clear BTr0 BTr1 BTr2 BTr3 BTr4 BTr5
      have HL := Lib.hid (HL.out.below hb3 (Nat.le_refl _) hb3.size)
      have HX := Lib.hid (HX.out.below hb3 (Nat.le_refl _) hb3.size)
      have HB := Lib.hid (HB.out.trans (hb3.mono HB.out.size))
      have BT := Lib.hid (heap_below BT.out hb3 (lt_of_heap BT.out))
      clear hb3
      have HT := Lib.hid (liveM_any HK.out w3)
      go_wp2_with fail
      refine HT.out.mono ?_
      rintro r w4 ⟨rfl, hb4⟩
      clear HT
      have HL := Lib.hid (HL.out.below hb4 (Nat.le_refl _) hb4.size)
      have HX := Lib.hid (HX.out.below hb4 (Nat.le_refl _) hb4.size)
      have HB := Lib.hid (HB.out.trans (hb4.mono HB.out.size))
      have BT := Lib.hid (heap_below BT.out hb4 (lt_of_heap BT.out))
      clear hb4
      go_wp2_with fail
      go_ret
      exact ⟨rfl, HB.out⟩
    | true =>
      cases hh : l.all rightR with
      | false =>
        have f := Lib.hid hf
        have g := Lib.hid hg
        have h := Lib.hid hh
        have HOl := Lib.hid (fewR_ok hf)
        clear hf hg hh
        go_enter Try.func4, Try.ntmps4
        go_upto_region 1 with fail
        rw [HW0.out]
        clear HW0
        have HT := Lib.hid (liveM_any HK.out w0)
        go_wp2_with fail
        refine HT.out.mono ?_
        rintro r w1 ⟨rfl, hb1⟩
        clear HT
        have HL := Lib.hid (HL.out.below hb1 (Nat.le_refl _) hb1.size)
        have HX := Lib.hid (HX.out.below hb1 (Nat.le_refl _) hb1.size)
        have HB := Lib.hid (HB.out.trans (hb1.mono HB.out.size))
        have BT := Lib.hid (heap_below BT.out hb1 (lt_of_heap BT.out))
        clear hb1
        have HT := Lib.hid (fewRyes f.out HL.out)
        go_wp2_with fail
        refine HT.out.mono ?_
        rintro r w2 ⟨rfl, hb2⟩
        clear HT
        have HL := Lib.hid (HL.out.below hb2 (Nat.le_refl _) hb2.size)
        have HX := Lib.hid (HX.out.below hb2 (Nat.le_refl _) hb2.size)
        have HB := Lib.hid (HB.out.trans (hb2.mono HB.out.size))
        have BT := Lib.hid (heap_below BT.out hb2 (lt_of_heap BT.out))
        clear hb2
        obtain ⟨BTr0, BTr1, BTr2, BTr3, BTr4, BTr5⟩ := six_of BT.out
        have HT := Lib.hid (fewRyes (l := [(⟨tf, tl, tb, to_, tr, tw⟩ : RecS)]) g.out (chR_one (x := ⟨⟨tf, tl, tb, to_, tr, tw⟩, tA, tc, tB, td⟩) (heap_alloc_new w2 (.cells #[.int .u64 tf, .int .u64 tl, .int .u64 tb, .int .u64 to_, .slice tA tr.length tc, .slice tB tw.length td] 29)) (HX.out.below ((Below.refl _ w2).alloc (Nat.le_refl _) _) (Nat.le_refl _) (by simp))))
        go_wp2_with fail
        refine HT.out.mono ?_
        rintro r w3 ⟨rfl, hb8⟩
        have hb3 := ((Below.refl w2.heap.size w2).alloc (Nat.le_refl _) (.cells #[.int .u64 tf, .int .u64 tl, .int .u64 tb, .int .u64 to_, .slice tA tr.length tc, .slice tB tw.length td] 29)).trans (hb8.mono (by simp))
        clear HT hb8
        clear BTr0 BTr1 BTr2 BTr3 BTr4 BTr5
        have HL := Lib.hid (HL.out.below hb3 (Nat.le_refl _) hb3.size)
        have HX := Lib.hid (HX.out.below hb3 (Nat.le_refl _) hb3.size)
        have HB := Lib.hid (HB.out.trans (hb3.mono HB.out.size))
        have BT := Lib.hid (heap_below BT.out hb3 (lt_of_heap BT.out))
        clear hb3
        have HT := Lib.hid (rightNo h.out HOl.out HL.out)
        go_wp2_with fail
        refine HT.out.mono ?_
        rintro r w4 ⟨rfl, hb4⟩
        clear HT
        have HL := Lib.hid (HL.out.below hb4 (Nat.le_refl _) hb4.size)
        have HX := Lib.hid (HX.out.below hb4 (Nat.le_refl _) hb4.size)
        have HB := Lib.hid (HB.out.trans (hb4.mono HB.out.size))
        have BT := Lib.hid (heap_below BT.out hb4 (lt_of_heap BT.out))
        clear hb4
        have HT := Lib.hid (liveM_any HK.out w4)
        go_wp2_with fail
        refine HT.out.mono ?_
        rintro r w5 ⟨rfl, hb5⟩
        clear HT
        have HL := Lib.hid (HL.out.below hb5 (Nat.le_refl _) hb5.size)
        have HX := Lib.hid (HX.out.below hb5 (Nat.le_refl _) hb5.size)
        have HB := Lib.hid (HB.out.trans (hb5.mono HB.out.size))
        have BT := Lib.hid (heap_below BT.out hb5 (lt_of_heap BT.out))
        clear hb5
        go_wp2_with fail
        go_ret
        exact ⟨rfl, HB.out⟩
      | true =>
        have f := Lib.hid hf
        have g := Lib.hid hg
        have h := Lib.hid hh
        have HOl := Lib.hid (fewR_ok hf)
        have HOt := Lib.hid (fewR_one hg)
        have hr := fun r (hr : r ∈ l) => List.all_eq_true.1 hh r hr
        have hNB := judge_fit (jI_c marks) n.toNat hr (⟨tf, tl, tb, to_, tr, tw⟩ : RecS)
        have hup := (fitR_up (jI_c marks) n.toNat _ l (Nat.le_refl _) hr).1
        have hln := fun (h : max n.toNat 1 ≤ l.length) => fitR_len (J := jI marks) n.toNat _ l (Nat.le_refl _) h
        have hMo := (fewR_ok hf).fit marks n.toNat
        have HMx := fitN_cast n
        have HNt := fitN_nat n
        rw [HNt] at hln
        obtain ⟨M, hM⟩ : ∃ M, fitR (jI marks) n.toNat l = M := ⟨_, rfl⟩
        rw [hM] at hNB hup hln hMo
        obtain ⟨J, hJ⟩ : ∃ J, judgeR l (⟨tf, tl, tb, to_, tr, tw⟩ : RecS) = J := ⟨_, rfl⟩
        obtain ⟨J1, hJ1⟩ : ∃ J, judgeR M (⟨tf, tl, tb, to_, tr, tw⟩ : RecS) = J := ⟨_, rfl⟩
        rw [hJ, hJ1] at hNB
        have HNB := Lib.hid hNB
        have HJ := Lib.hid hJ
        have HJ1 := Lib.hid hJ1
        have HUp := Lib.hid hup
        have HLn := Lib.hid hln
        have HMo := Lib.hid hMo
        have HE := Lib.hid hM
        clear hf hg hh hJ hJ1 hNB hup hln hMo hM hr HNt
        go_enter Try.func4, Try.ntmps4
        go_upto_region 1 with fail
        rw [HW0.out]
        clear HW0
        have HT := Lib.hid (liveM_any HK.out w0)
        go_wp2_with fail
        refine HT.out.mono ?_
        rintro r w1 ⟨rfl, hb1⟩
        clear HT
        have HL := Lib.hid (HL.out.below hb1 (Nat.le_refl _) hb1.size)
        have HX := Lib.hid (HX.out.below hb1 (Nat.le_refl _) hb1.size)
        have HB := Lib.hid (HB.out.trans (hb1.mono HB.out.size))
        have BT := Lib.hid (heap_below BT.out hb1 (lt_of_heap BT.out))
        clear hb1
        have HT := Lib.hid (fewRyes f.out HL.out)
        go_wp2_with fail
        refine HT.out.mono ?_
        rintro r w2 ⟨rfl, hb2⟩
        clear HT
        have HL := Lib.hid (HL.out.below hb2 (Nat.le_refl _) hb2.size)
        have HX := Lib.hid (HX.out.below hb2 (Nat.le_refl _) hb2.size)
        have HB := Lib.hid (HB.out.trans (hb2.mono HB.out.size))
        have BT := Lib.hid (heap_below BT.out hb2 (lt_of_heap BT.out))
        clear hb2
        obtain ⟨BTr0, BTr1, BTr2, BTr3, BTr4, BTr5⟩ := six_of BT.out
        have HT := Lib.hid (fewRyes (l := [(⟨tf, tl, tb, to_, tr, tw⟩ : RecS)]) g.out (chR_one (x := ⟨⟨tf, tl, tb, to_, tr, tw⟩, tA, tc, tB, td⟩) (heap_alloc_new w2 (.cells #[.int .u64 tf, .int .u64 tl, .int .u64 tb, .int .u64 to_, .slice tA tr.length tc, .slice tB tw.length td] 29)) (HX.out.below ((Below.refl _ w2).alloc (Nat.le_refl _) _) (Nat.le_refl _) (by simp))))
        go_wp2_with fail
        refine HT.out.mono ?_
        rintro r w3 ⟨rfl, hb8⟩
        have hb3 := ((Below.refl w2.heap.size w2).alloc (Nat.le_refl _) (.cells #[.int .u64 tf, .int .u64 tl, .int .u64 tb, .int .u64 to_, .slice tA tr.length tc, .slice tB tw.length td] 29)).trans (hb8.mono (by simp))
        clear HT hb8
        clear BTr0 BTr1 BTr2 BTr3 BTr4 BTr5
        have HL := Lib.hid (HL.out.below hb3 (Nat.le_refl _) hb3.size)
        have HX := Lib.hid (HX.out.below hb3 (Nat.le_refl _) hb3.size)
        have HB := Lib.hid (HB.out.trans (hb3.mono HB.out.size))
        have BT := Lib.hid (heap_below BT.out hb3 (lt_of_heap BT.out))
        clear hb3
        have HT := Lib.hid (rightYes h.out HOl.out HL.out)
        go_wp2_with fail
        refine HT.out.mono ?_
        rintro r w4 ⟨rfl, hb4⟩
        clear HT
        have HL := Lib.hid (HL.out.below hb4 (Nat.le_refl _) hb4.size)
        have HX := Lib.hid (HX.out.below hb4 (Nat.le_refl _) hb4.size)
        have HB := Lib.hid (HB.out.trans (hb4.mono HB.out.size))
        have BT := Lib.hid (heap_below BT.out hb4 (lt_of_heap BT.out))
        clear hb4
        have HFt := HK.out.fit l A c n marks w4 HOl.out HN1.out HN2.out HM1.out HM2.out HL.out
        rw [HE.out] at HFt
        have HFt2 := Lib.hid HFt
        clear HFt
        have HT := Lib.hid (HFt2.out)
        go_wp2_with fail
        refine HT.out.mono ?_
        rintro r w5 ⟨AM, cM, rfl, hM, hb5⟩
        clear HT
        have HL := Lib.hid (HL.out.below hb5 (Nat.le_refl _) hb5.size)
        have HX := Lib.hid (HX.out.below hb5 (Nat.le_refl _) hb5.size)
        have HB := Lib.hid (HB.out.trans (hb5.mono HB.out.size))
        have BT := Lib.hid (heap_below BT.out hb5 (lt_of_heap BT.out))
        have HM := Lib.hid hM
        clear hM
        clear hb5
        have hmm := HM.out.len
        have hll := HL.out.len
        go_wp2_with fail
        go_loopg [41] M.length (fun q i wr => ∃ j : Nat, j + q = M.length ∧ i = .int .i64 j ∧ Below w5.heap.size w5 wr)
        case atStart => exact ⟨0, by omega, rfl, Below.refl _ _⟩
        case round =>
          obtain ⟨j, hk, rfl, hb⟩ := hrel
          obtain ⟨wo, hwo⟩ : ∃ y, y = wr := ⟨_, rfl⟩
          subst hwo
          have HK2 := Lib.hid hk
          have HB2 := Lib.hid hb
          clear hk hb
          by_cases hj : j < M.length
          · have hlt : decide ((j : Int) < (M.length : Int)) = true := by simpa using hj
            have hlt3 : decide (j < M.length) = true := by simpa using hj
            obtain ⟨b0, o, rfl, hbl, x, hx, hok, c0, c1, c2, c3, c4, c5⟩ := (HM.out.below HB2.out (Nat.le_refl _) HB2.out.size).2.2.2.at_ hj
            have hox : okR x.r := by rw [hx]; exact HMo.out.mem (List.getElem_mem hj)
            have hrx : rightR x.r = true := by rw [hx]; exact HUp.out _ (List.getElem_mem hj)
            have hC := fun (W : World) (h : Below wo.heap.size wo W) => HK.out.right x W hox (hok.below h (Nat.le_refl _) h.size)
            rw [hrx] at hC
            clear hx hok hox hrx
            obtain ⟨⟨xf, xl, xb, xo, xr, xw⟩, xA, xc, xB, xd⟩ := x
            unfold recVal at hC
            simp only at c0 c1 c2 c3 c4 c5 hC
            have HC := Lib.hid hC
            clear hC
            go_upto_region 7 with fail
            clear c0 c1 c2 c3 c4 c5 hbl
            obtain ⟨wt, hwt⟩ : ∃ y, wo.alloc (.cells #[.int .u64 xf, .int .u64 xl, .int .u64 xb, .int .u64 xo, .slice xA xr.length xc, .slice xB xw.length xd] 29) = y := ⟨_, rfl⟩
            rw [hwt]
            have hbt : Below wo.heap.size wo wt := by rw [← hwt]; exact (Below.refl _ wo).alloc (Nat.le_refl _) _
            have hxt : wt.heap[wo.heap.size]? = some (.cells #[.int .u64 xf, .int .u64 xl, .int .u64 xb, .int .u64 xo, .slice xA xr.length xc, .slice xB xw.length xd] 29 (0, 0)) := by rw [← hwt]; exact heap_alloc_new wo _
            clear hwt
            obtain ⟨z0, z1, z2, z3, z4, z5⟩ := six_of hxt
            have HC1 := Lib.hid (HC.out wt hbt)
            have HBt := Lib.hid (HB2.out.trans (hbt.mono HB2.out.size))
            clear hbt hxt HC
            go_wp2_with fail
            refine HC1.out.mono ?_
            rintro r w9 ⟨rfl, hb9⟩
            have HB9 := Lib.hid (HBt.out.trans (hb9.mono HBt.out.size))
            clear hb9 z0 z1 z2 z3 z4 z5 HC1
            go_wp2_with fail
            go_roundg (gk - 1)
            case measure => have := HK2.out; omega
            case rel => exact ⟨j + 1, by have := HK2.out; omega, by go_num, HB9.out⟩
          · have hj' : j = M.length := by have := HK2.out; omega
            have hlt : decide ((j : Int) < (M.length : Int)) = false := by simpa using hj
            have hlt2 : decide (j < M.length) = false := by simpa using hj
            have hb2 := HB2.out
            clear HK2 hj
            have HL := Lib.hid (HL.out.below hb2 (Nat.le_refl _) hb2.size)
            have HX := Lib.hid (HX.out.below hb2 (Nat.le_refl _) hb2.size)
            have HB := Lib.hid (HB.out.trans (hb2.mono HB.out.size))
            have BT := Lib.hid (heap_below BT.out hb2 (lt_of_heap BT.out))
            have HM := Lib.hid (HM.out.below hb2 (Nat.le_refl _) hb2.size)
            clear hb2
            obtain ⟨BTr0, BTr1, BTr2, BTr3, BTr4, BTr5⟩ := six_of BT.out
            have HT := Lib.hid (judgeCall HK.out ⟨⟨tf, tl, tb, to_, tr, tw⟩, tA, tc, tB, td⟩ HJ1.out HMo.out HOt.out HM.out HX.out)
            go_wp2_with fail
            refine HT.out.mono ?_
            rintro r w6 ⟨rfl, hb6⟩
            clear HT
            clear BTr0 BTr1 BTr2 BTr3 BTr4 BTr5
            have HL := Lib.hid (HL.out.below hb6 (Nat.le_refl _) hb6.size)
            have HX := Lib.hid (HX.out.below hb6 (Nat.le_refl _) hb6.size)
            have HB := Lib.hid (HB.out.trans (hb6.mono HB.out.size))
            have BT := Lib.hid (heap_below BT.out hb6 (lt_of_heap BT.out))
            have HM := Lib.hid (HM.out.below hb6 (Nat.le_refl _) hb6.size)
            clear hb6
            unfold judgeVal
            cases J1 with
            | none =>
              simp only
              obtain ⟨BTr0, BTr1, BTr2, BTr3, BTr4, BTr5⟩ := six_of BT.out
              have HT := Lib.hid (judgeCall HK.out ⟨⟨tf, tl, tb, to_, tr, tw⟩, tA, tc, tB, td⟩ HJ.out HOl.out HOt.out HL.out HX.out)
              go_wp2_with fail
              refine HT.out.mono ?_
              rintro r w7 ⟨rfl, hb7⟩
              clear HT
              clear BTr0 BTr1 BTr2 BTr3 BTr4 BTr5
              have HL := Lib.hid (HL.out.below hb7 (Nat.le_refl _) hb7.size)
              have HX := Lib.hid (HX.out.below hb7 (Nat.le_refl _) hb7.size)
              have HB := Lib.hid (HB.out.trans (hb7.mono HB.out.size))
              have BT := Lib.hid (heap_below BT.out hb7 (lt_of_heap BT.out))
              have HM := Lib.hid (HM.out.below hb7 (Nat.le_refl _) hb7.size)
              clear hb7
              unfold judgeVal
              cases J
              all_goals
                simp only
                go_wp2_with fail
                go_ret
                exact ⟨rfl, HB.out⟩
            | some a =>
              simp only
              obtain ⟨b, rfl, hab⟩ := HNB.out a rfl
              obtain ⟨BTr0, BTr1, BTr2, BTr3, BTr4, BTr5⟩ := six_of BT.out
              have HT := Lib.hid (judgeCall HK.out ⟨⟨tf, tl, tb, to_, tr, tw⟩, tA, tc, tB, td⟩ HJ.out HOl.out HOt.out HL.out HX.out)
              go_wp2_with fail
              refine HT.out.mono ?_
              rintro r w7 ⟨rfl, hb7⟩
              clear HT
              clear BTr0 BTr1 BTr2 BTr3 BTr4 BTr5
              have HL := Lib.hid (HL.out.below hb7 (Nat.le_refl _) hb7.size)
              have HX := Lib.hid (HX.out.below hb7 (Nat.le_refl _) hb7.size)
              have HB := Lib.hid (HB.out.trans (hb7.mono HB.out.size))
              have BT := Lib.hid (heap_below BT.out hb7 (lt_of_heap BT.out))
              have HM := Lib.hid (HM.out.below hb7 (Nat.le_refl _) hb7.size)
              clear hb7
              unfold judgeVal
              simp only
              have hM2 : l.length ≤ fitN n ∨ (¬ l.length ≤ fitN n ∧ M.length = fitN n) := by
                by_cases h : l.length ≤ fitN n
                · exact .inl h
                · exact .inr ⟨h, HLn.out (by omega)⟩
              have HM3 := Lib.hid hM2
              clear hM2
              by_cases hb : b = 0
              · subst hb
                clear hab
                rcases HM3.out with h1 | ⟨h1, h2⟩
                · have d1 : decide ((l.length : Int) ≤ (fitN n : Int)) = true := by rw [decide_eq_true_iff]; omega
                  have d2 : decide (l.length ≤ fitN n) = true := by rw [decide_eq_true_iff]; omega
                  clear h1
                  go_wp2_with fail
                  go_ret
                  exact ⟨rfl, HB.out⟩
                · have d1 : decide ((l.length : Int) ≤ (fitN n : Int)) = false := by rw [decide_eq_false_iff_not]; omega
                  have d2 : decide (l.length ≤ fitN n) = false := by rw [decide_eq_false_iff_not]; omega
                  have d3 : ((M.length : Int) == (fitN n : Int)) = true := by rw [beq_iff_eq]; omega
                  clear h1 h2
                  go_wp2_with fail
                  go_ret
                  exact ⟨rfl, HB.out⟩
              · obtain ⟨ha, hle⟩ : a ≠ 0 ∧ a ≤ b := hab.resolve_left hb
                have e1 : ((b : Int) == 0) = false := by rw [beq_eq_false_iff_ne]; omega
                have e2 : ((a : Int) == 0) = false := by rw [beq_eq_false_iff_ne]; omega
                have e3 : ((a : Int) != 0) = true := by rw [bne, e2]; rfl
                have e4 : decide ((a : Int) ≤ (b : Int)) = true := by rw [decide_eq_true_iff]; omega
                have e5 : decide (a ≤ b) = true := by rw [decide_eq_true_iff]; omega
                clear hab
                rcases HM3.out with h1 | ⟨h1, h2⟩
                · have d1 : decide ((l.length : Int) ≤ (fitN n : Int)) = true := by rw [decide_eq_true_iff]; omega
                  have d2 : decide (l.length ≤ fitN n) = true := by rw [decide_eq_true_iff]; omega
                  clear h1
                  go_wp2_with fail
                  go_ret
                  exact ⟨rfl, HB.out⟩
                · have d1 : decide ((l.length : Int) ≤ (fitN n : Int)) = false := by rw [decide_eq_false_iff_not]; omega
                  have d2 : decide (l.length ≤ fitN n) = false := by rw [decide_eq_false_iff_not]; omega
                  have d3 : ((M.length : Int) == (fitN n : Int)) = true := by rw [beq_iff_eq]; omega
                  clear h1 h2
                  go_wp2_with fail
                  go_ret
                  exact ⟨rfl, HB.out⟩
end Go.Proofs.Ytjkmodfbbiojmaa.ssiNeverLess
