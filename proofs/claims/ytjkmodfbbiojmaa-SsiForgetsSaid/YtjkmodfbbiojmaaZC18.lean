import Derived.Test.YtjkmodfbbiojmaaZC17
import Derived.Deep.DeepCutAuto
import Derived.Test.YtjkmodfbbiojmaaZC16
import Derived.Deep.LoopGhost
/-
  Records: the contracts in the forms that the walks of the statements ask.
-/
namespace Go.Proofs.Ytjkmodfbbiojmaa
open Go.RowKit

section
variable {w : World} {l m : List RecS} {A B : Option Addr} {c d : Nat}
theorem fewRyes (f : fewR l = true) (h : ChR w w.heap.size A c l) : Calls Try.prog 9 #[.slice A l.length c] w fun r w' => r = .returned (.bool true) ∧ Below w.heap.size w w' := by
  have := fewR_any l A c w h
  rwa [f] at this
theorem fewRno (f : fewR l = false) (h : ChR w w.heap.size A c l) : Calls Try.prog 9 #[.slice A l.length c] w fun r w' => r = .returned (.bool false) ∧ Below w.heap.size w w' := by
  have := fewR_any l A c w h
  rwa [f] at this
theorem rightYes (f : l.all rightR = true) (ho : okRs l) (h : ChR w w.heap.size A c l) : Calls Try.prog 19 #[.slice A l.length c] w fun r w' => r = .returned (.bool true) ∧ Below w.heap.size w w' := by
  have := rightAll_any l A c w ho h
  rwa [f] at this
theorem rightNo (f : l.all rightR = false) (ho : okRs l) (h : ChR w w.heap.size A c l) : Calls Try.prog 19 #[.slice A l.length c] w fun r w' => r = .returned (.bool false) ∧ Below w.heap.size w w' := by
  have := rightAll_any l A c w ho h
  rwa [f] at this
theorem chR_one {g : Nat} {x : MR} (h : w.heap[g]? = some (.cells (mrCells x).toArray 29 (0, 0))) (ok : OkMR w w.heap.size x) : ChR w w.heap.size (some ⟨g, 0, none⟩) 1 [x.r] :=
  ⟨Nat.le_refl _, by simp [maxLen], (fun e => by cases e), [x], rfl, (RowG.one h).wide (Nat.zero_le _) (lt_of_heap h), fun y hy => by rw [List.mem_singleton] at hy; subst hy; exact ok⟩
theorem judgeCall (K : SsiC) {J : Option Nat} (x : MR) (hj : judgeR l x.r = J) (ho : okRs l) (hx : okR x.r) (h : ChR w w.heap.size A c l) (ok : OkMR w w.heap.size x) :
    Calls Try.prog 21 #[.slice A l.length c, recVal x] w fun r w' => r = .returned (judgeVal J) ∧ Below w.heap.size w w' := by
  subst hj
  exact K.judge l A c x w ho hx h ok
end
end Go.Proofs.Ytjkmodfbbiojmaa

/-
  The walk of SsiAlone: who is beside nobody, or reads nothing, is not refused; who is refused is beside somebody that wrote what it read.
-/
namespace Go.Proofs.Ytjkmodfbbiojmaa.ssiAlone
open Go.RowKit

theorem alone_none {l : List RecS} {t : RecS} (h : l.any (writesB t) = false) : judgeR l t = some 0 := by
  refine judge_alone ?_
  cases he : aheadR (forgetR l t.began) t with
  | nil => rfl
  | cons a m =>
    obtain ⟨h1, h2⟩ := writes_iff.2 (show a ∈ aheadR (forgetR l t.began) t by rw [he]; exact List.mem_cons_self ..)
    rw [List.any_eq_false] at h
    exact absurd h2 (h a h1)
theorem any_next {l : List RecS} {t : RecS} {j : Nat} (hj : j < l.length) : (l.take (j + 1)).any (writesB t) = ((l.take j).any (writesB t) || writesB t (l[j]'hj)) := by
  rw [List.take_succ_eq_append_getElem hj, List.any_append]
  simp
set_option maxRecDepth 100000 in
set_option maxHeartbeats 16000000 in
theorem walk (K : SsiC) (l : List RecS) (A : Option Addr) (c : Nat) (x : MR) (w : World) (hl : ChR w w.heap.size A c l) (hx : OkMR w w.heap.size x) :
    Calls Try.prog 7 #[.slice A l.length c, recVal x] w fun r w' => r = .returned (.bool true) ∧ Below w.heap.size w w' := by
  obtain ⟨⟨tf, tl, tb, to_, tr, tw⟩, tA, tc, tB, td⟩ := x
  unfold recVal
  (try simp only at hx)
  obtain ⟨w0, hw0⟩ : ∃ y, w.alloc (.cells #[.int .u64 tf, .int .u64 tl, .int .u64 tb, .int .u64 to_, .slice tA tr.length tc, .slice tB tw.length td] 29) = y := ⟨_, rfl⟩
  have hb0 : Below w.heap.size w w0 := by rw [← hw0]; exact (Below.refl _ w).alloc (Nat.le_refl _) _
  have hx0 : w0.heap[w.heap.size]? = some (.cells #[.int .u64 tf, .int .u64 tl, .int .u64 tb, .int .u64 to_, .slice tA tr.length tc, .slice tB tw.length td] 29 (0, 0)) := by rw [← hw0]; exact heap_alloc_new w _
  have HW0 := Lib.hid hw0
  have BT := Lib.hid hx0
  have HK := Lib.hid K
  have HL := Lib.hid (hl.below hb0 (Nat.le_refl _) hb0.size)
  have HX := Lib.hid (show OkMR w0 w0.heap.size ⟨⟨tf, tl, tb, to_, tr, tw⟩, tA, tc, tB, td⟩ from hx.below hb0 (Nat.le_refl _) hb0.size)
  have HB := Lib.hid hb0
  have htb := hx.began
  (try simp only at htb)
  clear K hl hx hw0 hb0 hx0
  cases hf : fewR l with
  | false =>
    have f := Lib.hid hf
    clear hf
    go_enter Try.func7, Try.ntmps7
    go_upto_region 1 with fail
    rw [HW0.out]
    clear HW0
    have HT := Lib.hid (liveM_any HK.out w0)
    go_wp2_with fail
    refine HT.out.mono ?_
    rintro r w1 ⟨rfl, hb1⟩
    clear HT
    have HL := Lib.hid (HL.out.below hb1 (Nat.le_refl _) hb1.size)
    have HX := Lib.hid (HX.out.below hb1 (Nat.le_refl _) hb1.size)
    have HB := Lib.hid (HB.out.trans (hb1.mono HB.out.size))
    have BT := Lib.hid (heap_below BT.out hb1 (lt_of_heap BT.out))
    clear hb1
    have HT := Lib.hid (fewRno f.out HL.out)
    go_wp2_with fail
    refine HT.out.mono ?_
    rintro r w2 ⟨rfl, hb2⟩
    clear HT
    have HL := Lib.hid (HL.out.below hb2 (Nat.le_refl _) hb2.size)
    have HX := Lib.hid (HX.out.below hb2 (Nat.le_refl _) hb2.size)
    have HB := Lib.hid (HB.out.trans (hb2.mono HB.out.size))
    have BT := Lib.hid (heap_below BT.out hb2 (lt_of_heap BT.out))
    clear hb2
    have HT := Lib.hid (liveM_any HK.out w2)
    go_wp2_with fail
    refine HT.out.mono ?_
    rintro r w3 ⟨rfl, hb3⟩
    clear HT
    have HL := Lib.hid (HL.out.below hb3 (Nat.le_refl _) hb3.size)
    have HX := Lib.hid (HX.out.below hb3 (Nat.le_refl _) hb3.size)
    have HB := Lib.hid (HB.out.trans (hb3.mono HB.out.size))
    have BT := Lib.hid (heap_below BT.out hb3 (lt_of_heap BT.out))
    clear hb3
    go_wp2_with fail
    go_ret
    exact ⟨rfl, HB.out⟩
  | true =>
    cases hg : fewR [(⟨tf, tl, tb, to_, tr, tw⟩ : RecS)] with
    | false =>
      have f := Lib.hid hf
      have g := Lib.hid hg
      clear hf hg
      go_enter Try.func7, Try.ntmps7
      go_upto_region 1 with fail
      rw [HW0.out]
      clear HW0
      have HT := Lib.hid (liveM_any HK.out w0)
      go_wp2_with fail
      refine HT.out.mono ?_
      rintro r w1 ⟨rfl, hb1⟩
      clear HT
      have HL := Lib.hid (HL.out.below hb1 (Nat.le_refl _) hb1.size)
      have HX := Lib.hid (HX.out.below hb1 (Nat.le_refl _) hb1.size)
      have HB := Lib.hid (HB.out.trans (hb1.mono HB.out.size))
      have BT := Lib.hid (heap_below BT.out hb1 (lt_of_heap BT.out))
      clear hb1
      have HT := Lib.hid (fewRyes f.out HL.out)
      go_wp2_with fail
      refine HT.out.mono ?_
      rintro r w2 ⟨rfl, hb2⟩
      clear HT
      have HL := Lib.hid (HL.out.below hb2 (Nat.le_refl _) hb2.size)
      have HX := Lib.hid (HX.out.below hb2 (Nat.le_refl _) hb2.size)
      have HB := Lib.hid (HB.out.trans (hb2.mono HB.out.size))
      have BT := Lib.hid (heap_below BT.out hb2 (lt_of_heap BT.out))
      clear hb2
      obtain ⟨BTr0, BTr1, BTr2, BTr3, BTr4, BTr5⟩ := six_of BT.out
      have HT := Lib.hid (fewRno (l := [(⟨tf, tl, tb, to_, tr, tw⟩ : RecS)]) g.out (chR_one (x := ⟨⟨tf, tl, tb, to_, tr, tw⟩, tA, tc, tB, td⟩) (heap_alloc_new w2 (.cells #[.int .u64 tf, .int .u64 tl, .int .u64 tb, .int .u64 to_, .slice tA tr.length tc, .slice tB tw.length td] 29)) (HX.out.below ((Below.refl _ w2).alloc (Nat.le_refl _) _) (Nat.le_refl _) (by simp))))
      go_wp2_with fail
      refine HT.out.mono ?_
      rintro r w3 ⟨rfl, hb8⟩
      have hb3 := ((Below.refl w2.heap.size w2).alloc (Nat.le_refl _) (.cells #[.int .u64 tf, .int .u64 tl, .int .u64 tb, .int .u64 to_, .slice tA tr.length tc, .slice tB tw.length td] 29)).trans (hb8.mono (by simp))
      clear HT hb8
      clear BTr0 BTr1 BTr2 BTr3 BTr4 BTr5
      have HL := Lib.hid (HL.out.below hb3 (Nat.le_refl _) hb3.size)
      have HX := Lib.hid (HX.out.below hb3 (Nat.le_refl _) hb3.size)
      have HB := Lib.hid (HB.out.trans (hb3.mono HB.out.size))
      have BT := Lib.hid (heap_below BT.out hb3 (lt_of_heap BT.out))
      clear hb3
      have HT := Lib.hid (liveM_any HK.out w3)
      go_wp2_with fail
      refine HT.out.mono ?_
      rintro r w4 ⟨rfl, hb4⟩
      clear HT
      have HL := Lib.hid (HL.out.below hb4 (Nat.le_refl _) hb4.size)
      have HX := Lib.hid (HX.out.below hb4 (Nat.le_refl _) hb4.size)
      have HB := Lib.hid (HB.out.trans (hb4.mono HB.out.size))
      have BT := Lib.hid (heap_below BT.out hb4 (lt_of_heap BT.out))
      clear hb4
      go_wp2_with fail
      go_ret
      exact ⟨rfl, HB.out⟩
    | true =>
      have f := Lib.hid hf
      have g := Lib.hid hg
      have HOl := Lib.hid (fewR_ok hf)
      have HOt := Lib.hid (fewR_one hg)
      have hE := alone_none (l := l) (t := (⟨tf, tl, tb, to_, tr, tw⟩ : RecS))
      obtain ⟨J, hJ⟩ : ∃ J, judgeR l (⟨tf, tl, tb, to_, tr, tw⟩ : RecS) = J := ⟨_, rfl⟩
      rw [hJ] at hE
      have HJ := Lib.hid hJ
      have HE := Lib.hid hE
      clear hf hg hE hJ
      go_enter Try.func7, Try.ntmps7
      go_upto_region 1 with fail
      rw [HW0.out]
      clear HW0
      have HT := Lib.hid (liveM_any HK.out w0)
      go_wp2_with fail
      refine HT.out.mono ?_
      rintro r w1 ⟨rfl, hb1⟩
      clear HT
      have HL := Lib.hid (HL.out.below hb1 (Nat.le_refl _) hb1.size)
      have HX := Lib.hid (HX.out.below hb1 (Nat.le_refl _) hb1.size)
      have HB := Lib.hid (HB.out.trans (hb1.mono HB.out.size))
      have BT := Lib.hid (heap_below BT.out hb1 (lt_of_heap BT.out))
      clear hb1
      have HT := Lib.hid (fewRyes f.out HL.out)
      go_wp2_with fail
      refine HT.out.mono ?_
      rintro r w2 ⟨rfl, hb2⟩
      clear HT
      have HL := Lib.hid (HL.out.below hb2 (Nat.le_refl _) hb2.size)
      have HX := Lib.hid (HX.out.below hb2 (Nat.le_refl _) hb2.size)
      have HB := Lib.hid (HB.out.trans (hb2.mono HB.out.size))
      have BT := Lib.hid (heap_below BT.out hb2 (lt_of_heap BT.out))
      clear hb2
      obtain ⟨BTr0, BTr1, BTr2, BTr3, BTr4, BTr5⟩ := six_of BT.out
      have HT := Lib.hid (fewRyes (l := [(⟨tf, tl, tb, to_, tr, tw⟩ : RecS)]) g.out (chR_one (x := ⟨⟨tf, tl, tb, to_, tr, tw⟩, tA, tc, tB, td⟩) (heap_alloc_new w2 (.cells #[.int .u64 tf, .int .u64 tl, .int .u64 tb, .int .u64 to_, .slice tA tr.length tc, .slice tB tw.length td] 29)) (HX.out.below ((Below.refl _ w2).alloc (Nat.le_refl _) _) (Nat.le_refl _) (by simp))))
      go_wp2_with fail
      refine HT.out.mono ?_
      rintro r w3 ⟨rfl, hb8⟩
      have hb3 := ((Below.refl w2.heap.size w2).alloc (Nat.le_refl _) (.cells #[.int .u64 tf, .int .u64 tl, .int .u64 tb, .int .u64 to_, .slice tA tr.length tc, .slice tB tw.length td] 29)).trans (hb8.mono (by simp))
      clear HT hb8
      clear BTr0 BTr1 BTr2 BTr3 BTr4 BTr5
      have HL := Lib.hid (HL.out.below hb3 (Nat.le_refl _) hb3.size)
      have HX := Lib.hid (HX.out.below hb3 (Nat.le_refl _) hb3.size)
      have HB := Lib.hid (HB.out.trans (hb3.mono HB.out.size))
      have BT := Lib.hid (heap_below BT.out hb3 (lt_of_heap BT.out))
      clear hb3
      obtain ⟨BTr0, BTr1, BTr2, BTr3, BTr4, BTr5⟩ := six_of BT.out
      have HT := Lib.hid (judgeCall HK.out ⟨⟨tf, tl, tb, to_, tr, tw⟩, tA, tc, tB, td⟩ HJ.out HOl.out HOt.out HL.out HX.out)
      go_wp2_with fail
      refine HT.out.mono ?_
      rintro r w4 ⟨rfl, hb4⟩
      clear HT
      clear BTr0 BTr1 BTr2 BTr3 BTr4 BTr5
      have HL := Lib.hid (HL.out.below hb4 (Nat.le_refl _) hb4.size)
      have HX := Lib.hid (HX.out.below hb4 (Nat.le_refl _) hb4.size)
      have HB := Lib.hid (HB.out.trans (hb4.mono HB.out.size))
      have BT := Lib.hid (heap_below BT.out hb4 (lt_of_heap BT.out))
      clear hb4
      have hll := HL.out.len
      cases J
      all_goals
        unfold judgeVal
        simp only
        go_wp2_with fail
        go_loopg [7, 32] l.length (fun q bb i wr => ∃ (j : Nat) (b : Bool), j + q = l.length ∧ i = .int .i64 j ∧ bb = .bool b ∧ b = (l.take j).any (writesB (⟨tf, tl, tb, to_, tr, tw⟩ : RecS)) ∧ wr.heap[w.heap.size]? = some (.cells #[.int .u64 tf, .int .u64 tl, .int .u64 tb, .int .u64 to_, .slice tA tr.length tc, .slice tB tw.length td] 29 (0, 0)) ∧ Below w4.heap.size w4 wr)
        case atStart => exact ⟨0, false, by omega, rfl, rfl, rfl, BT.out, Below.refl _ _⟩
        case round =>
          obtain ⟨j, b, hk, rfl, rfl, hbe, hp, hb⟩ := hrel
          obtain ⟨wo, hwo⟩ : ∃ y, y = wr := ⟨_, rfl⟩
          subst hwo
          have HK2 := Lib.hid hk
          have HBe := Lib.hid hbe
          have HP := Lib.hid hp
          have HB2 := Lib.hid hb
          clear hk hbe hp hb
          by_cases hj : j < l.length
          · have hlt : decide ((j : Int) < (l.length : Int)) = true := by simpa using hj
            have hlt3 : decide (j < l.length) = true := by simpa using hj
            obtain ⟨b0, o, rfl, hbl, x, hx, hok, c0, c1, c2, c3, c4, c5⟩ := (HL.out.below HB2.out (Nat.le_refl _) HB2.out.size).2.2.2.at_ hj
            have hox : okR x.r := by rw [hx]; exact HOl.out.mem (List.getElem_mem hj)
            have HNx := Lib.hid (show (l.take (j + 1)).any (writesB (⟨tf, tl, tb, to_, tr, tw⟩ : RecS)) = (b || writesB (⟨tf, tl, tb, to_, tr, tw⟩ : RecS) x.r) from by rw [any_next hj, ← HBe.out, ← hx])
            have hla := hok.last
            have HOk := Lib.hid hok
            clear hx hok
            obtain ⟨⟨xf, xl, xb, xo, xr, xw⟩, xA, xc, xB, xd⟩ := x
            simp only at c0 c1 c2 c3 c4 c5 HOk HNx hla hox
            obtain ⟨wt, hwt⟩ : ∃ y, wo.alloc (.cells #[.int .u64 xf, .int .u64 xl, .int .u64 xb, .int .u64 xo, .slice xA xr.length xc, .slice xB xw.length xd] 29) = y := ⟨_, rfl⟩
            have hbt : Below wo.heap.size wo wt := by rw [← hwt]; exact (Below.refl _ wo).alloc (Nat.le_refl _) _
            have hxt : wt.heap[wo.heap.size]? = some (.cells #[.int .u64 xf, .int .u64 xl, .int .u64 xb, .int .u64 xo, .slice xA xr.length xc, .slice xB xw.length xd] 29 (0, 0)) := by rw [← hwt]; exact heap_alloc_new wo _
            have hpt := heap_below HP.out hbt (lt_of_heap HP.out)
            have hbt2 := HB2.out.trans (hbt.mono HB2.out.size)
            have HMt := Lib.hid (refMeetI_any tr xw tA xB tc xd wt (by have := HOt.out.1; simp only at this; omega) (by have := hox.2; simp only at this; omega) (HX.out.reads.below hbt2 (Nat.le_refl _) hbt2.size).2.2.2 (HOk.out.writes.below hbt (Nat.le_refl _) hbt.size).2.2.2)
            have HWt := Lib.hid hwt
            have HBt := Lib.hid hbt
            have HPt := Lib.hid hpt
            have HC := Lib.hid (And.intro (six_of hxt) (six_of hpt))
            clear hwt hbt hxt hpt hbt2 hox
            go_upto_region 8 with fail
            rw [HWt.out]
            clear HWt c0 c1 c2 c3 c4 c5 hbl
            obtain ⟨⟨z0, z1, z2, z3, z4, z5⟩, ⟨y0, y1, y2, y3, y4, y5⟩⟩ := HC.out
            cases b with
            | true =>
              have HF := Lib.hid (show true = (l.take (j + 1)).any (writesB (⟨tf, tl, tb, to_, tr, tw⟩ : RecS)) from HNx.out.symm)
              go_wp2_with fail
              go_roundg (gk - 1)
              case measure => have := HK2.out; omega
              case rel => exact ⟨j + 1, true, by have := HK2.out; omega, by go_num, rfl, HF.out, HPt.out, HB2.out.trans (HBt.out.mono HB2.out.size)⟩
            | false =>
              by_cases hq : tb < xl
              · have d1 : decide ((tb : Int) < (xl : Int)) = true := by rw [decide_eq_true_iff]; omega
                have d2 : decide (tb < xl) = true := by rw [decide_eq_true_iff]; omega
                have HF := Lib.hid (show (l.take (j + 1)).any (writesB (⟨tf, tl, tb, to_, tr, tw⟩ : RecS)) = meetB tr xw from by
                  rw [HNx.out]
                  show (false || (decide (tb < xl) && meetB tr xw)) = meetB tr xw
                  rw [d2]
                  rfl)
                clear hq HNx
                go_wp2_with fail
                refine HMt.out.mono ?_
                rintro r w9 ⟨rfl, hb9⟩
                have HB9 := Lib.hid ((HBt.out.trans (hb9.mono HBt.out.size)))
                have HP9 := Lib.hid (heap_below HPt.out hb9 (lt_of_heap HPt.out))
                clear hb9 HMt z0 z1 z2 z3 z4 z5 y0 y1 y2 y3 y4 y5
                generalize meetB tr xw = m at *
                cases m
                all_goals
                  go_wp2_with fail
                  go_roundg (gk - 1)
                  case measure => have := HK2.out; omega
                  case rel => exact ⟨j + 1, _, by have := HK2.out; omega, by go_num, rfl, HF.out.symm, HP9.out, HB2.out.trans (HB9.out.mono HB2.out.size)⟩
              · have d1 : decide ((tb : Int) < (xl : Int)) = false := by rw [decide_eq_false_iff_not]; omega
                have d2 : decide (tb < xl) = false := by rw [decide_eq_false_iff_not]; omega
                have HF := Lib.hid (show (l.take (j + 1)).any (writesB (⟨tf, tl, tb, to_, tr, tw⟩ : RecS)) = false from by
                  rw [HNx.out]
                  show (false || (decide (tb < xl) && meetB tr xw)) = false
                  rw [d2]
                  rfl)
                clear hq HNx HMt
                go_wp2_with fail
                go_roundg (gk - 1)
                case measure => have := HK2.out; omega
                case rel => exact ⟨j + 1, false, by have := HK2.out; omega, by go_num, rfl, HF.out.symm, HPt.out, HB2.out.trans (HBt.out.mono HB2.out.size)⟩
          · have hj' : j = l.length := by have := HK2.out; omega
            have hlt : decide ((j : Int) < (l.length : Int)) = false := by simpa using hj
            have hlt2 : decide (j < l.length) = false := by simpa using hj
            have HA := Lib.hid (show b = l.any (writesB (⟨tf, tl, tb, to_, tr, tw⟩ : RecS)) from by have h := HBe.out; rwa [hj', List.take_length] at h)
            clear hj'
            cases b with
            | false =>
              have h0 := HE.out HA.out.symm
              first
              | (exfalso; cases h0; done)
              | (injection h0 with h0
                 subst h0
                 go_wp2_with fail
                 go_ret
                 exact ⟨rfl, HB.out.trans (HB2.out.mono HB.out.size)⟩)
            | true =>
              go_wp2_with fail
              go_ret
              exact ⟨rfl, HB.out.trans (HB2.out.mono HB.out.size)⟩
end Go.Proofs.Ytjkmodfbbiojmaa.ssiAlone
