import Derived.Test.YtjkmodfbbiojmaaZC18
import Derived.Deep.DeepCutAuto
import Derived.Test.YtjkmodfbbiojmaaZC16
import Derived.Test.YtjkmodfbbiojmaaZC32
/-
  The walk of SsiMore: beside right records, who reads and writes more is refused where who reads and writes less is.
-/
namespace Go.Proofs.Ytjkmodfbbiojmaa.ssiMore
open Go.RowKit

theorem chR_two {w : World} {g : Nat} {x y : MR} (h : w.heap[g]? = some (.cells #[.int .u64 x.r.first, .int .u64 x.r.last, .int .u64 x.r.began, .int .u64 x.r.out, .slice x.A x.r.reads.length x.c, .slice x.B x.r.writes.length x.d, .int .u64 y.r.first, .int .u64 y.r.last, .int .u64 y.r.began, .int .u64 y.r.out, .slice y.A y.r.reads.length y.c, .slice y.B y.r.writes.length y.d] 29 (0, 0))) (ok : OkMR w w.heap.size x) (ok2 : OkMR w w.heap.size y) : ChR w w.heap.size (some ⟨g, 0, none⟩) 2 [x.r, y.r] :=
  ⟨Nat.le_refl _, by simp [maxLen], (fun e => by cases e), [x, y], rfl, (RowG.block h (fun j u hu => by simpa [flatG, mrCells] using hu)).wide (Nat.zero_le _) (lt_of_heap h), fun z hz => by
    simp only [List.mem_cons, List.not_mem_nil, or_false] at hz
    rcases hz with rfl | rfl
    · exact ok
    · exact ok2⟩
/-- A slice in later blocks reads as before behind a store. -/
theorem chI_store {w : World} {lo hi b o : Nat} {A : Option Addr} {c : Nat} {l : List Sp} {v : Value} (h : ChI w hi A c l) (hr : RowG spCells w lo hi A l) (hb : b < lo) : ChI (w.setCell ⟨b, o, none⟩ v) hi A c l :=
  ⟨h.1, h.2.1, h.2.2.1, (hr.keep fun p h1 _ => World.cell?_of_block (set_far (by omega) o v)).wide (Nat.zero_le _) (Nat.le_refl _)⟩
theorem size_set (w : World) (b o : Nat) (v : Value) : (w.setCell ⟨b, o, none⟩ v).heap.size = w.heap.size := by simp [World.setCell]
set_option maxRecDepth 100000 in
set_option maxHeartbeats 16000000 in
theorem walk (K : SsiC) (l : List RecS) (A : Option Addr) (c : Nat) (x : MR) (rs ws : List Sp) (RA WA : Option Addr) (rc wc : Nat) (w : World) (hl : ChR w w.heap.size A c l) (hx : OkMR w w.heap.size x) (hrs : ChI w w.heap.size RA rc rs) (hws : ChI w w.heap.size WA wc ws) :
    Calls Try.prog 6 #[.slice A l.length c, recVal x, .slice RA rs.length rc, .slice WA ws.length wc] w fun r w' => r = .returned (.bool true) ∧ Below w.heap.size w w' := by
  obtain ⟨⟨tf, tl, tb, to_, tr, tw⟩, tA, tc, tB, td⟩ := x
  unfold recVal
  (try simp only at hx)
  obtain ⟨w0, hw0⟩ : ∃ y, w.alloc (.cells #[.int .u64 tf, .int .u64 tl, .int .u64 tb, .int .u64 to_, .slice tA tr.length tc, .slice tB tw.length td] 29) = y := ⟨_, rfl⟩
  have hb0 : Below w.heap.size w w0 := by rw [← hw0]; exact (Below.refl _ w).alloc (Nat.le_refl _) _
  have hx0 : w0.heap[w.heap.size]? = some (.cells #[.int .u64 tf, .int .u64 tl, .int .u64 tb, .int .u64 to_, .slice tA tr.length tc, .slice tB tw.length td] 29 (0, 0)) := by rw [← hw0]; exact heap_alloc_new w _
  have HW0 := Lib.hid hw0
  have BT := Lib.hid hx0
  have HK := Lib.hid K
  have HL := Lib.hid (hl.below hb0 (Nat.le_refl _) hb0.size)
  have HX := Lib.hid (show OkMR w0 w0.heap.size ⟨⟨tf, tl, tb, to_, tr, tw⟩, tA, tc, tB, td⟩ from hx.below hb0 (Nat.le_refl _) hb0.size)
  have HB := Lib.hid hb0
  have HRs := Lib.hid (hrs.below hb0 (Nat.le_refl _) hb0.size)
  have HWs := Lib.hid (hws.below hb0 (Nat.le_refl _) hb0.size)
  clear K hl hx hw0 hb0 hx0 hrs hws
  cases hf : fewR l with
  | false =>
    have f := Lib.hid hf
    clear hf
    go_enter Try.func6, Try.ntmps6
    go_upto_region 1 with fail
    rw [HW0.out]
    clear HW0
    have HT := Lib.hid (liveM_any HK.out w0)
    go_wp2_with fail
    refine HT.out.mono ?_
    rintro r w1 ⟨rfl, hb1⟩
    clear HT
    have HL := Lib.hid (HL.out.below hb1 (Nat.le_refl _) hb1.size)
    have HX := Lib.hid (HX.out.below hb1 (Nat.le_refl _) hb1.size)
    have HB := Lib.hid (HB.out.trans (hb1.mono HB.out.size))
    have BT := Lib.hid (heap_below BT.out hb1 (lt_of_heap BT.out))
    have HRs := Lib.hid (HRs.out.below hb1 (Nat.le_refl _) hb1.size)
    have HWs := Lib.hid (HWs.out.below hb1 (Nat.le_refl _) hb1.size)
    clear hb1
    have HT := Lib.hid (fewRno f.out HL.out)
    go_wp2_with fail
    refine HT.out.mono ?_
    rintro r w2 ⟨rfl, hb2⟩
    clear HT
    have HL := Lib.hid (HL.out.below hb2 (Nat.le_refl _) hb2.size)
    have HX := Lib.hid (HX.out.below hb2 (Nat.le_refl _) hb2.size)
    have HB := Lib.hid (HB.out.trans (hb2.mono HB.out.size))
    have BT := Lib.hid (heap_below BT.out hb2 (lt_of_heap BT.out))
    have HRs := Lib.hid (HRs.out.below hb2 (Nat.le_refl _) hb2.size)
    have HWs := Lib.hid (HWs.out.below hb2 (Nat.le_refl _) hb2.size)
    clear hb2
    have HT := Lib.hid (liveM_any HK.out w2)
    go_wp2_with fail
    refine HT.out.mono ?_
    rintro r w3 ⟨rfl, hb3⟩
    clear HT
    have HL := Lib.hid (HL.out.below hb3 (Nat.le_refl _) hb3.size)
    have HX := Lib.hid (HX.out.below hb3 (Nat.le_refl _) hb3.size)
    have HB := Lib.hid (HB.out.trans (hb3.mono HB.out.size))
    have BT := Lib.hid (heap_below BT.out hb3 (lt_of_heap BT.out))
    have HRs := Lib.hid (HRs.out.below hb3 (Nat.le_refl _) hb3.size)
    have HWs := Lib.hid (HWs.out.below hb3 (Nat.le_refl _) hb3.size)
    clear hb3
    go_wp2_with fail
    go_ret
    exact ⟨rfl, HB.out⟩
  | true =>
    cases hg : fewR [(⟨tf, tl, tb, to_, tr, tw⟩ : RecS), (⟨0, 0, 0, 0, rs, ws⟩ : RecS)] with
    | false =>
      have f := Lib.hid hf
      have g := Lib.hid hg
      clear hf hg
      go_enter Try.func6, Try.ntmps6
      go_upto_region 1 with fail
      rw [HW0.out]
      clear HW0
      have HT := Lib.hid (liveM_any HK.out w0)
      go_wp2_with fail
      refine HT.out.mono ?_
      rintro r w1 ⟨rfl, hb1⟩
      clear HT
      have HL := Lib.hid (HL.out.below hb1 (Nat.le_refl _) hb1.size)
      have HX := Lib.hid (HX.out.below hb1 (Nat.le_refl _) hb1.size)
      have HB := Lib.hid (HB.out.trans (hb1.mono HB.out.size))
      have BT := Lib.hid (heap_below BT.out hb1 (lt_of_heap BT.out))
      have HRs := Lib.hid (HRs.out.below hb1 (Nat.le_refl _) hb1.size)
      have HWs := Lib.hid (HWs.out.below hb1 (Nat.le_refl _) hb1.size)
      clear hb1
      have HT := Lib.hid (fewRyes f.out HL.out)
      go_wp2_with fail
      refine HT.out.mono ?_
      rintro r w2 ⟨rfl, hb2⟩
      clear HT
      have HL := Lib.hid (HL.out.below hb2 (Nat.le_refl _) hb2.size)
      have HX := Lib.hid (HX.out.below hb2 (Nat.le_refl _) hb2.size)
      have HB := Lib.hid (HB.out.trans (hb2.mono HB.out.size))
      have BT := Lib.hid (heap_below BT.out hb2 (lt_of_heap BT.out))
      have HRs := Lib.hid (HRs.out.below hb2 (Nat.le_refl _) hb2.size)
      have HWs := Lib.hid (HWs.out.below hb2 (Nat.le_refl _) hb2.size)
      clear hb2
      obtain ⟨BTr0, BTr1, BTr2, BTr3, BTr4, BTr5⟩ := six_of BT.out
      have HT := Lib.hid (fewRno (l := [(⟨tf, tl, tb, to_, tr, tw⟩ : RecS), (⟨0, 0, 0, 0, rs, ws⟩ : RecS)]) g.out (chR_two (x := ⟨⟨tf, tl, tb, to_, tr, tw⟩, tA, tc, tB, td⟩) (y := ⟨⟨0, 0, 0, 0, rs, ws⟩, RA, rc, WA, wc⟩) (heap_alloc_new w2 (.cells #[.int .u64 tf, .int .u64 tl, .int .u64 tb, .int .u64 to_, .slice tA tr.length tc, .slice tB tw.length td, .int .u64 0, .int .u64 0, .int .u64 0, .int .u64 0, .slice RA rs.length rc, .slice WA ws.length wc] 29)) (HX.out.below ((Below.refl _ w2).alloc (Nat.le_refl _) _) (Nat.le_refl _) (by simp)) ⟨by simp, by simp, by simp, by simp, HRs.out.below ((Below.refl _ w2).alloc (Nat.le_refl _) _) (Nat.le_refl _) (by simp), HWs.out.below ((Below.refl _ w2).alloc (Nat.le_refl _) _) (Nat.le_refl _) (by simp)⟩))
      go_wp2_with fail
      refine HT.out.mono ?_
      rintro r w3 ⟨rfl, hb8⟩
      have hb3 := ((Below.refl w2.heap.size w2).alloc (Nat.le_refl _) (.cells #[.int .u64 tf, .int .u64 tl, .int .u64 tb, .int .u64 to_, .slice tA tr.length tc, .slice tB tw.length td, .int .u64 0, .int .u64 0, .int .u64 0, .int .u64 0, .slice RA rs.length rc, .slice WA ws.length wc] 29)).trans (hb8.mono (by simp))
      clear HT hb8
      clear BTr0 BTr1 BTr2 BTr3 BTr4 BTr5
      have HL := Lib.hid (HL.out.below hb3 (Nat.le_refl _) hb3.size)
      have HX := Lib.hid (HX.out.below hb3 (Nat.le_refl _) hb3.size)
      have HB := Lib.hid (HB.out.trans (hb3.mono HB.out.size))
      have BT := Lib.hid (heap_below BT.out hb3 (lt_of_heap BT.out))
      have HRs := Lib.hid (HRs.out.below hb3 (Nat.le_refl _) hb3.size)
      have HWs := Lib.hid (HWs.out.below hb3 (Nat.le_refl _) hb3.size)
      clear hb3
      have HT := Lib.hid (liveM_any HK.out w3)
      go_wp2_with fail
      refine HT.out.mono ?_
      rintro r w4 ⟨rfl, hb4⟩
      clear HT
      have HL := Lib.hid (HL.out.below hb4 (Nat.le_refl _) hb4.size)
      have HX := Lib.hid (HX.out.below hb4 (Nat.le_refl _) hb4.size)
      have HB := Lib.hid (HB.out.trans (hb4.mono HB.out.size))
      have BT := Lib.hid (heap_below BT.out hb4 (lt_of_heap BT.out))
      have HRs := Lib.hid (HRs.out.below hb4 (Nat.le_refl _) hb4.size)
      have HWs := Lib.hid (HWs.out.below hb4 (Nat.le_refl _) hb4.size)
      clear hb4
      go_wp2_with fail
      go_ret
      exact ⟨rfl, HB.out⟩
    | true =>
      cases hh : l.all rightR with
      | false =>
        have f := Lib.hid hf
        have g := Lib.hid hg
        have h := Lib.hid hh
        have HOl := Lib.hid (fewR_ok hf)
        clear hf hg hh
        go_enter Try.func6, Try.ntmps6
        go_upto_region 1 with fail
        rw [HW0.out]
        clear HW0
        have HT := Lib.hid (liveM_any HK.out w0)
        go_wp2_with fail
        refine HT.out.mono ?_
        rintro r w1 ⟨rfl, hb1⟩
        clear HT
        have HL := Lib.hid (HL.out.below hb1 (Nat.le_refl _) hb1.size)
        have HX := Lib.hid (HX.out.below hb1 (Nat.le_refl _) hb1.size)
        have HB := Lib.hid (HB.out.trans (hb1.mono HB.out.size))
        have BT := Lib.hid (heap_below BT.out hb1 (lt_of_heap BT.out))
        have HRs := Lib.hid (HRs.out.below hb1 (Nat.le_refl _) hb1.size)
        have HWs := Lib.hid (HWs.out.below hb1 (Nat.le_refl _) hb1.size)
        clear hb1
        have HT := Lib.hid (fewRyes f.out HL.out)
        go_wp2_with fail
        refine HT.out.mono ?_
        rintro r w2 ⟨rfl, hb2⟩
        clear HT
        have HL := Lib.hid (HL.out.below hb2 (Nat.le_refl _) hb2.size)
        have HX := Lib.hid (HX.out.below hb2 (Nat.le_refl _) hb2.size)
        have HB := Lib.hid (HB.out.trans (hb2.mono HB.out.size))
        have BT := Lib.hid (heap_below BT.out hb2 (lt_of_heap BT.out))
        have HRs := Lib.hid (HRs.out.below hb2 (Nat.le_refl _) hb2.size)
        have HWs := Lib.hid (HWs.out.below hb2 (Nat.le_refl _) hb2.size)
        clear hb2
        obtain ⟨BTr0, BTr1, BTr2, BTr3, BTr4, BTr5⟩ := six_of BT.out
        have HT := Lib.hid (fewRyes (l := [(⟨tf, tl, tb, to_, tr, tw⟩ : RecS), (⟨0, 0, 0, 0, rs, ws⟩ : RecS)]) g.out (chR_two (x := ⟨⟨tf, tl, tb, to_, tr, tw⟩, tA, tc, tB, td⟩) (y := ⟨⟨0, 0, 0, 0, rs, ws⟩, RA, rc, WA, wc⟩) (heap_alloc_new w2 (.cells #[.int .u64 tf, .int .u64 tl, .int .u64 tb, .int .u64 to_, .slice tA tr.length tc, .slice tB tw.length td, .int .u64 0, .int .u64 0, .int .u64 0, .int .u64 0, .slice RA rs.length rc, .slice WA ws.length wc] 29)) (HX.out.below ((Below.refl _ w2).alloc (Nat.le_refl _) _) (Nat.le_refl _) (by simp)) ⟨by simp, by simp, by simp, by simp, HRs.out.below ((Below.refl _ w2).alloc (Nat.le_refl _) _) (Nat.le_refl _) (by simp), HWs.out.below ((Below.refl _ w2).alloc (Nat.le_refl _) _) (Nat.le_refl _) (by simp)⟩))
        go_wp2_with fail
        refine HT.out.mono ?_
        rintro r w3 ⟨rfl, hb8⟩
        have hb3 := ((Below.refl w2.heap.size w2).alloc (Nat.le_refl _) (.cells #[.int .u64 tf, .int .u64 tl, .int .u64 tb, .int .u64 to_, .slice tA tr.length tc, .slice tB tw.length td, .int .u64 0, .int .u64 0, .int .u64 0, .int .u64 0, .slice RA rs.length rc, .slice WA ws.length wc] 29)).trans (hb8.mono (by simp))
        clear HT hb8
        clear BTr0 BTr1 BTr2 BTr3 BTr4 BTr5
        have HL := Lib.hid (HL.out.below hb3 (Nat.le_refl _) hb3.size)
        have HX := Lib.hid (HX.out.below hb3 (Nat.le_refl _) hb3.size)
        have HB := Lib.hid (HB.out.trans (hb3.mono HB.out.size))
        have BT := Lib.hid (heap_below BT.out hb3 (lt_of_heap BT.out))
        have HRs := Lib.hid (HRs.out.below hb3 (Nat.le_refl _) hb3.size)
        have HWs := Lib.hid (HWs.out.below hb3 (Nat.le_refl _) hb3.size)
        clear hb3
        have HT := Lib.hid (rightNo h.out HOl.out HL.out)
        go_wp2_with fail
        refine HT.out.mono ?_
        rintro r w4 ⟨rfl, hb4⟩
        clear HT
        have HL := Lib.hid (HL.out.below hb4 (Nat.le_refl _) hb4.size)
        have HX := Lib.hid (HX.out.below hb4 (Nat.le_refl _) hb4.size)
        have HB := Lib.hid (HB.out.trans (hb4.mono HB.out.size))
        have BT := Lib.hid (heap_below BT.out hb4 (lt_of_heap BT.out))
        have HRs := Lib.hid (HRs.out.below hb4 (Nat.le_refl _) hb4.size)
        have HWs := Lib.hid (HWs.out.below hb4 (Nat.le_refl _) hb4.size)
        clear hb4
        have HT := Lib.hid (liveM_any HK.out w4)
        go_wp2_with fail
        refine HT.out.mono ?_
        rintro r w5 ⟨rfl, hb5⟩
        clear HT
        have HL := Lib.hid (HL.out.below hb5 (Nat.le_refl _) hb5.size)
        have HX := Lib.hid (HX.out.below hb5 (Nat.le_refl _) hb5.size)
        have HB := Lib.hid (HB.out.trans (hb5.mono HB.out.size))
        have BT := Lib.hid (heap_below BT.out hb5 (lt_of_heap BT.out))
        have HRs := Lib.hid (HRs.out.below hb5 (Nat.le_refl _) hb5.size)
        have HWs := Lib.hid (HWs.out.below hb5 (Nat.le_refl _) hb5.size)
        clear hb5
        go_wp2_with fail
        go_ret
        exact ⟨rfl, HB.out⟩
      | true =>
        have f := Lib.hid hf
        have g := Lib.hid hg
        have h := Lib.hid hh
        have HOl := Lib.hid (fewR_ok hf)
        have hfw := fewR_yes hg
        have h1 := (hfw.1 (⟨tf, tl, tb, to_, tr, tw⟩ : RecS) (by simp)).2.2
        have h2 := (hfw.1 (⟨0, 0, 0, 0, rs, ws⟩ : RecS) (by simp)).2.2
        simp only at h1 h2
        have HOt := Lib.hid (show okR (⟨tf, tl, tb, to_, tr, tw⟩ : RecS) from ⟨by simp only; omega, by simp only; omega⟩)
        have HOx := Lib.hid (show okR (moreR (⟨tf, tl, tb, to_, tr, tw⟩ : RecS) rs ws) from ⟨by show (tr ++ rs).length ≤ 1000; rw [List.length_append]; omega, by show (tw ++ ws).length ≤ 1000; rw [List.length_append]; omega⟩)
        have HLn := Lib.hid (And.intro (show tr.length + rs.length ≤ 1000 by omega) (show tw.length + ws.length ≤ 1000 by omega))
        have hNB := judge_more (l := l) (fun r hr => List.all_eq_true.1 hh r hr) (⟨tf, tl, tb, to_, tr, tw⟩ : RecS) rs ws
        obtain ⟨L1, hL1⟩ : ∃ L, tr ++ rs = L := ⟨_, rfl⟩
        obtain ⟨L2, hL2⟩ : ∃ L, tw ++ ws = L := ⟨_, rfl⟩
        obtain ⟨J, hJ⟩ : ∃ J, judgeR l (⟨tf, tl, tb, to_, tr, tw⟩ : RecS) = J := ⟨_, rfl⟩
        obtain ⟨J2, hJ2⟩ : ∃ J, judgeR l (moreR (⟨tf, tl, tb, to_, tr, tw⟩ : RecS) rs ws) = J := ⟨_, rfl⟩
        rw [hJ, hJ2] at hNB
        have hM : moreR (⟨tf, tl, tb, to_, tr, tw⟩ : RecS) rs ws = (⟨tf, tl, tb, to_, L1, L2⟩ : RecS) := by rw [← hL1, ← hL2]; rfl
        rw [hM] at hJ2 HOx
        have HE1 := Lib.hid hL1
        have HE2 := Lib.hid hL2
        clear hM hL1 hL2
        have HNB := Lib.hid hNB
        have HJ := Lib.hid hJ
        have HJ2 := Lib.hid hJ2
        clear hf hg hh hJ hJ2 hNB hfw h1 h2
        go_enter Try.func6, Try.ntmps6
        go_upto_region 1 with fail
        rw [HW0.out]
        clear HW0
        have HT := Lib.hid (liveM_any HK.out w0)
        go_wp2_with fail
        refine HT.out.mono ?_
        rintro r w1 ⟨rfl, hb1⟩
        clear HT
        have HL := Lib.hid (HL.out.below hb1 (Nat.le_refl _) hb1.size)
        have HX := Lib.hid (HX.out.below hb1 (Nat.le_refl _) hb1.size)
        have HB := Lib.hid (HB.out.trans (hb1.mono HB.out.size))
        have BT := Lib.hid (heap_below BT.out hb1 (lt_of_heap BT.out))
        have HRs := Lib.hid (HRs.out.below hb1 (Nat.le_refl _) hb1.size)
        have HWs := Lib.hid (HWs.out.below hb1 (Nat.le_refl _) hb1.size)
        clear hb1
        have HT := Lib.hid (fewRyes f.out HL.out)
        go_wp2_with fail
        refine HT.out.mono ?_
        rintro r w2 ⟨rfl, hb2⟩
        clear HT
        have HL := Lib.hid (HL.out.below hb2 (Nat.le_refl _) hb2.size)
        have HX := Lib.hid (HX.out.below hb2 (Nat.le_refl _) hb2.size)
        have HB := Lib.hid (HB.out.trans (hb2.mono HB.out.size))
        have BT := Lib.hid (heap_below BT.out hb2 (lt_of_heap BT.out))
        have HRs := Lib.hid (HRs.out.below hb2 (Nat.le_refl _) hb2.size)
        have HWs := Lib.hid (HWs.out.below hb2 (Nat.le_refl _) hb2.size)
        clear hb2
        obtain ⟨BTr0, BTr1, BTr2, BTr3, BTr4, BTr5⟩ := six_of BT.out
        have HT := Lib.hid (fewRyes (l := [(⟨tf, tl, tb, to_, tr, tw⟩ : RecS), (⟨0, 0, 0, 0, rs, ws⟩ : RecS)]) g.out (chR_two (x := ⟨⟨tf, tl, tb, to_, tr, tw⟩, tA, tc, tB, td⟩) (y := ⟨⟨0, 0, 0, 0, rs, ws⟩, RA, rc, WA, wc⟩) (heap_alloc_new w2 (.cells #[.int .u64 tf, .int .u64 tl, .int .u64 tb, .int .u64 to_, .slice tA tr.length tc, .slice tB tw.length td, .int .u64 0, .int .u64 0, .int .u64 0, .int .u64 0, .slice RA rs.length rc, .slice WA ws.length wc] 29)) (HX.out.below ((Below.refl _ w2).alloc (Nat.le_refl _) _) (Nat.le_refl _) (by simp)) ⟨by simp, by simp, by simp, by simp, HRs.out.below ((Below.refl _ w2).alloc (Nat.le_refl _) _) (Nat.le_refl _) (by simp), HWs.out.below ((Below.refl _ w2).alloc (Nat.le_refl _) _) (Nat.le_refl _) (by simp)⟩))
        go_wp2_with fail
        refine HT.out.mono ?_
        rintro r w3 ⟨rfl, hb8⟩
        have hb3 := ((Below.refl w2.heap.size w2).alloc (Nat.le_refl _) (.cells #[.int .u64 tf, .int .u64 tl, .int .u64 tb, .int .u64 to_, .slice tA tr.length tc, .slice tB tw.length td, .int .u64 0, .int .u64 0, .int .u64 0, .int .u64 0, .slice RA rs.length rc, .slice WA ws.length wc] 29)).trans (hb8.mono (by simp))
        clear HT hb8
        clear BTr0 BTr1 BTr2 BTr3 BTr4 BTr5
        have HL := Lib.hid (HL.out.below hb3 (Nat.le_refl _) hb3.size)
        have HX := Lib.hid (HX.out.below hb3 (Nat.le_refl _) hb3.size)
        have HB := Lib.hid (HB.out.trans (hb3.mono HB.out.size))
        have BT := Lib.hid (heap_below BT.out hb3 (lt_of_heap BT.out))
        have HRs := Lib.hid (HRs.out.below hb3 (Nat.le_refl _) hb3.size)
        have HWs := Lib.hid (HWs.out.below hb3 (Nat.le_refl _) hb3.size)
        clear hb3
        have HT := Lib.hid (rightYes h.out HOl.out HL.out)
        go_wp2_with fail
        refine HT.out.mono ?_
        rintro r w4 ⟨rfl, hb4⟩
        clear HT
        have HL := Lib.hid (HL.out.below hb4 (Nat.le_refl _) hb4.size)
        have HX := Lib.hid (HX.out.below hb4 (Nat.le_refl _) hb4.size)
        have HB := Lib.hid (HB.out.trans (hb4.mono HB.out.size))
        have BT := Lib.hid (heap_below BT.out hb4 (lt_of_heap BT.out))
        have HRs := Lib.hid (HRs.out.below hb4 (Nat.le_refl _) hb4.size)
        have HWs := Lib.hid (HWs.out.below hb4 (Nat.le_refl _) hb4.size)
        clear hb4
        obtain ⟨BTr0, BTr1, BTr2, BTr3, BTr4, BTr5⟩ := six_of BT.out
        obtain ⟨wx, hwx⟩ : ∃ y, w4.alloc (.cells #[.int .u64 tf, .int .u64 tl, .int .u64 tb, .int .u64 to_, .slice tA tr.length tc, .slice tB tw.length td] 29) = y := ⟨_, rfl⟩
        have hbx : Below w4.heap.size w4 wx := by rw [← hwx]; exact (Below.refl _ w4).alloc (Nat.le_refl _) _
        have hxx : wx.heap[w4.heap.size]? = some (.cells #[.int .u64 tf, .int .u64 tl, .int .u64 tb, .int .u64 to_, .slice tA tr.length tc, .slice tB tw.length td] 29 (0, 0)) := by rw [← hwx]; exact heap_alloc_new w4 _
        have BX := Lib.hid hxx
        have HBo := Lib.hid hbx
        have HWx := Lib.hid hwx
        clear hwx hxx hbx
        go_upto_region 4 with fail
        rw [HWx.out]
        clear HWx
        clear BTr0 BTr1 BTr2 BTr3 BTr4 BTr5
        have HBt := Lib.hid (heap_below BT.out HBo.out (lt_of_heap BT.out))
        have HV := Lib.hid ((HX.out.reads.below HBo.out (Nat.le_refl _) HBo.out.size).below ((Below.refl wx.heap.size wx).alloc (Nat.le_refl _) (.cells #[] 58)) (Nat.le_refl _) (Nat.le_refl _))
        have HU := Lib.hid (HRs.out.below HBo.out (Nat.le_refl _) HBo.out.size)
        have HLk := Lib.hid (lt_of_heap BX.out)
        obtain ⟨b0, b1, b2, b3, b4, b5⟩ := six_of (heap_allocs HBt.out (.cells #[] 58))
        go_upto_region 5 with (first
          | (at_builtin; refine append_row _ rfl _ _ 27 58 32 spF spInfo Try.underlying27 rfl wx.heap.size _ [] rfl (OwnG.made wx 58 2 spCells) 0 _ tA tr.length tc tr rfl rfl HV.out.2.2.1 HV.out.2.2.2 (by have := HLn.out.1; simp [maxLen]; omega) (by have := HLn.out.1; simp; omega) (by simp) ?_; intro v5 w5 ho5 hg5; have HO5 := Lib.hid ho5; have HB5 := Lib.hid (((Below.refl wx.heap.size wx).alloc (Nat.le_refl _) _).grown hg5 (by simp) (fun k hk => ((OwnG.made wx 58 2 spCells).lt k hk).1)); clear ho5 hg5)
          | (at_builtin; refine append_row _ rfl _ _ 27 58 32 spF spInfo Try.underlying27 rfl wx.heap.size v5 ([] ++ tr) rfl HO5.out 0 _ RA rs.length rc rs rfl rfl HU.out.2.2.1 (HU.out.below HB5.out (Nat.le_refl _) (Nat.le_refl _)).2.2.2 (by have := HLn.out.1; simp [maxLen]; omega) (by have := HLn.out.1; simp; omega) HB5.out.size ?_; intro v6 w6 ho6 hg6; have HB6 := Lib.hid (HB5.out.grown hg6 HB5.out.size (fun k hk => (HO5.out.lt k hk).1)); rw [List.nil_append, HE1.out] at ho6; obtain ⟨A1, c1, rfl, j1, j2, j3, j4⟩ := ho6.form; have HJ1 := Lib.hid (And.intro j1 (And.intro j2 (And.intro j3 j4))); have hx6 := heap_below BX.out HB6.out HLk.out; have HX6 := Lib.hid hx6; obtain ⟨x0, x1, x2, x3, x4, x5⟩ := six_of hx6; have xf := frozen_of hx6 4; clear ho6 hg6 j1 j2 j3 j4 hx6))
        clear b0 b1 b2 b3 b4 b5
        obtain ⟨wy, hw9⟩ : ∃ y, w6.setCell ⟨w4.heap.size, 4, none⟩ (.slice A1 L1.length c1) = y := ⟨_, rfl⟩
        rw [hw9]
        have hx9 : wy.heap[w4.heap.size]? = some (.cells #[.int .u64 tf, .int .u64 tl, .int .u64 tb, .int .u64 to_, .slice A1 L1.length c1, .slice tB tw.length td] 29 (0, 0)) := by rw [← hw9, set_at HX6.out 4]; rfl
        have hs9 : wy.heap.size = w6.heap.size := by rw [← hw9]; exact size_set _ _ _ _
        have hlo : w4.heap.size < wx.heap.size := HLk.out
        have HF1 := Lib.hid (show ChI wy wy.heap.size A1 c1 L1 ∧ RowG spCells wy wx.heap.size wy.heap.size A1 L1 from by
          rw [hs9, ← hw9]
          exact ⟨chI_store ⟨HJ1.out.1, HJ1.out.2.1, HJ1.out.2.2.1, HJ1.out.2.2.2.wide (Nat.zero_le _) (Nat.le_refl _)⟩ HJ1.out.2.2.2 hlo, HJ1.out.2.2.2.keep fun p h1 _ => World.cell?_of_block (set_far (by omega) _ _)⟩)
        have HS1 := Lib.hid (show wx.heap.size ≤ wy.heap.size from by rw [hs9]; exact HB6.out.size)
        have HBo := Lib.hid (show Below w4.heap.size w4 wy from HBo.out.trans (by rw [← hw9]; exact (HB6.out.mono (Nat.le_of_lt hlo)).setCell (Nat.le_refl _) _))
        have BX := Lib.hid hx9
        have HG1 := Lib.hid (fun (g : Nat) (h1 : g < wx.heap.size) (h2 : g ≠ w4.heap.size) => (show wy.heap[g]? = wx.heap[g]? from by rw [← hw9, set_far h2]; exact HB6.out.block g h1))
        have HQ1 := HLk
        clear hw9 hx9 hs9 hlo x0 x1 x2 x3 x4 x5 xf HB6 HX6 HJ1 HO5 HB5 HV HU HLk HBt
        have HBt := Lib.hid (heap_below BT.out HBo.out (lt_of_heap BT.out))
        have HV := Lib.hid ((HX.out.writes.below HBo.out (Nat.le_refl _) HBo.out.size).below ((Below.refl wy.heap.size wy).alloc (Nat.le_refl _) (.cells #[] 58)) (Nat.le_refl _) (Nat.le_refl _))
        have HU := Lib.hid (HWs.out.below HBo.out (Nat.le_refl _) HBo.out.size)
        have HLk := Lib.hid (lt_of_heap BX.out)
        obtain ⟨b0, b1, b2, b3, b4, b5⟩ := six_of (heap_allocs HBt.out (.cells #[] 58))
        go_upto_region 6 with (first
          | (at_builtin; refine append_row _ rfl _ _ 27 58 32 spF spInfo Try.underlying27 rfl wy.heap.size _ [] rfl (OwnG.made wy 58 2 spCells) 0 _ tB tw.length td tw rfl rfl HV.out.2.2.1 HV.out.2.2.2 (by have := HLn.out.2; simp [maxLen]; omega) (by have := HLn.out.2; simp; omega) (by simp) ?_; intro v5 w5 ho5 hg5; have HO5 := Lib.hid ho5; have HB5 := Lib.hid (((Below.refl wy.heap.size wy).alloc (Nat.le_refl _) _).grown hg5 (by simp) (fun k hk => ((OwnG.made wy 58 2 spCells).lt k hk).1)); clear ho5 hg5)
          | (at_builtin; refine append_row _ rfl _ _ 27 58 32 spF spInfo Try.underlying27 rfl wy.heap.size v5 ([] ++ tw) rfl HO5.out 0 _ WA ws.length wc ws rfl rfl HU.out.2.2.1 (HU.out.below HB5.out (Nat.le_refl _) (Nat.le_refl _)).2.2.2 (by have := HLn.out.2; simp [maxLen]; omega) (by have := HLn.out.2; simp; omega) HB5.out.size ?_; intro v6 w6 ho6 hg6; have HB6 := Lib.hid (HB5.out.grown hg6 HB5.out.size (fun k hk => (HO5.out.lt k hk).1)); rw [List.nil_append, HE2.out] at ho6; obtain ⟨A2, c2, rfl, j1, j2, j3, j4⟩ := ho6.form; have HJ2 := Lib.hid (And.intro j1 (And.intro j2 (And.intro j3 j4))); have hx6 := heap_below BX.out HB6.out HLk.out; have HX6 := Lib.hid hx6; obtain ⟨x0, x1, x2, x3, x4, x5⟩ := six_of hx6; have xf := frozen_of hx6 5; clear ho6 hg6 j1 j2 j3 j4 hx6))
        clear b0 b1 b2 b3 b4 b5
        obtain ⟨wz, hw9⟩ : ∃ y, w6.setCell ⟨w4.heap.size, 5, none⟩ (.slice A2 L2.length c2) = y := ⟨_, rfl⟩
        rw [hw9]
        have hx9 : wz.heap[w4.heap.size]? = some (.cells #[.int .u64 tf, .int .u64 tl, .int .u64 tb, .int .u64 to_, .slice A1 L1.length c1, .slice A2 L2.length c2] 29 (0, 0)) := by rw [← hw9, set_at HX6.out 5]; rfl
        have hs9 : wz.heap.size = w6.heap.size := by rw [← hw9]; exact size_set _ _ _ _
        have hlo : w4.heap.size < wy.heap.size := HLk.out
        have HF2 := Lib.hid (show ChI wz wz.heap.size A2 c2 L2 ∧ RowG spCells wz wy.heap.size wz.heap.size A2 L2 from by
          rw [hs9, ← hw9]
          exact ⟨chI_store ⟨HJ2.out.1, HJ2.out.2.1, HJ2.out.2.2.1, HJ2.out.2.2.2.wide (Nat.zero_le _) (Nat.le_refl _)⟩ HJ2.out.2.2.2 hlo, HJ2.out.2.2.2.keep fun p h1 _ => World.cell?_of_block (set_far (by omega) _ _)⟩)
        have HS2 := Lib.hid (show wy.heap.size ≤ wz.heap.size from by rw [hs9]; exact HB6.out.size)
        have HBo := Lib.hid (show Below w4.heap.size w4 wz from HBo.out.trans (by rw [← hw9]; exact (HB6.out.mono (Nat.le_of_lt hlo)).setCell (Nat.le_refl _) _))
        have BX := Lib.hid hx9
        have HG2 := Lib.hid (fun (g : Nat) (h1 : g < wy.heap.size) (h2 : g ≠ w4.heap.size) => (show wz.heap[g]? = wy.heap[g]? from by rw [← hw9, set_far h2]; exact HB6.out.block g h1))
        have HQ2 := HLk
        clear hw9 hx9 hs9 hlo x0 x1 x2 x3 x4 x5 xf HB6 HX6 HJ2 HO5 HB5 HV HU HLk HBt
        have HR1 := Lib.hid (show ChI wz wz.heap.size A1 c1 L1 from ⟨HF1.out.1.1, HF1.out.1.2.1, HF1.out.1.2.2.1, ((HF1.out.2.keep fun p h1 h2 => World.cell?_of_block (HG2.out _ h2 (by have := HQ1.out; omega))).wide (Nat.zero_le _) HS2.out)⟩)
        have HOX := Lib.hid (show OkMR wz wz.heap.size ⟨⟨tf, tl, tb, to_, L1, L2⟩, A1, c1, A2, c2⟩ from ⟨HX.out.first, HX.out.last, HX.out.began, HX.out.out, HR1.out, HF2.out.1⟩)
        have HBt := Lib.hid (heap_below BT.out HBo.out (lt_of_heap BT.out))
        have HLz := Lib.hid (HL.out.below HBo.out (Nat.le_refl _) HBo.out.size)
        have HXz := Lib.hid (HX.out.below HBo.out (Nat.le_refl _) HBo.out.size)
        have HBz := Lib.hid (HB.out.trans (HBo.out.mono HB.out.size))
        clear HF1 HF2 HS1 HS2 HG1 HG2 HQ1 HQ2 HR1 HL HX HRs HWs HB BT HBo
        have HB := HBz
        have HL := HLz
        have HX := HXz
        have BT := HBt
        clear HBz HLz HXz HBt
        obtain ⟨BTr0, BTr1, BTr2, BTr3, BTr4, BTr5⟩ := six_of BT.out
        have HT := Lib.hid (judgeCall HK.out ⟨⟨tf, tl, tb, to_, tr, tw⟩, tA, tc, tB, td⟩ HJ.out HOl.out HOt.out HL.out HX.out)
        go_wp2_with fail
        refine HT.out.mono ?_
        rintro r w5 ⟨rfl, hb5⟩
        clear HT
        clear BTr0 BTr1 BTr2 BTr3 BTr4 BTr5
        have HL := Lib.hid (HL.out.below hb5 (Nat.le_refl _) hb5.size)
        have HX := Lib.hid (HX.out.below hb5 (Nat.le_refl _) hb5.size)
        have HB := Lib.hid (HB.out.trans (hb5.mono HB.out.size))
        have BT := Lib.hid (heap_below BT.out hb5 (lt_of_heap BT.out))
        have BX := Lib.hid (heap_below BX.out hb5 (lt_of_heap BX.out))
        have HOX := Lib.hid (HOX.out.below hb5 (Nat.le_refl _) hb5.size)
        clear hb5
        have HJc := Lib.hid (judgeCall HK.out ⟨⟨tf, tl, tb, to_, L1, L2⟩, A1, c1, A2, c2⟩ HJ2.out HOl.out HOx.out HL.out HOX.out)
        unfold recVal at HJc
        simp only at HJc
        cases J2 with
        | none =>
          cases J
          all_goals
            obtain ⟨BXr0, BXr1, BXr2, BXr3, BXr4, BXr5⟩ := six_of BX.out
            unfold judgeVal
            simp only
            go_wp2_with fail
            refine HJc.out.mono ?_
            rintro r w30 ⟨rfl, hb30⟩
            have HB30 := Lib.hid (HB.out.trans (hb30.mono HB.out.size))
            clear hb30 HJc
            unfold judgeVal
            simp only
            clear BXr0 BXr1 BXr2 BXr3 BXr4 BXr5
            go_wp2_with fail
            go_ret
            exact ⟨rfl, HB30.out⟩
        | some b =>
          obtain ⟨a, rfl, hab⟩ := HNB.out b rfl
          by_cases ha : a = 0
          · subst ha
            clear hab
            obtain ⟨BXr0, BXr1, BXr2, BXr3, BXr4, BXr5⟩ := six_of BX.out
            unfold judgeVal
            simp only
            go_wp2_with fail
            refine HJc.out.mono ?_
            rintro r w30 ⟨rfl, hb30⟩
            have HB30 := Lib.hid (HB.out.trans (hb30.mono HB.out.size))
            clear hb30 HJc
            unfold judgeVal
            simp only
            clear BXr0 BXr1 BXr2 BXr3 BXr4 BXr5
            go_wp2_with fail
            go_ret
            exact ⟨rfl, HB30.out⟩
          · obtain ⟨hb0, hle⟩ : b ≠ 0 ∧ b ≤ a := hab.resolve_left ha
            have d1 : ((a : Int) == 0) = false := by rw [beq_eq_false_iff_ne]; omega
            have d2 : ((b : Int) == 0) = false := by rw [beq_eq_false_iff_ne]; omega
            have d3 : ((b : Int) != 0) = true := by rw [bne, d2]; rfl
            have d4 : decide ((b : Int) ≤ (a : Int)) = true := by rw [decide_eq_true_iff]; omega
            have d5 : decide (b ≤ a) = true := by rw [decide_eq_true_iff]; omega
            clear hab
            obtain ⟨BXr0, BXr1, BXr2, BXr3, BXr4, BXr5⟩ := six_of BX.out
            unfold judgeVal
            simp only
            go_wp2_with fail
            refine HJc.out.mono ?_
            rintro r w30 ⟨rfl, hb30⟩
            have HB30 := Lib.hid (HB.out.trans (hb30.mono HB.out.size))
            clear hb30 HJc
            unfold judgeVal
            simp only
            clear BXr0 BXr1 BXr2 BXr3 BXr4 BXr5
            go_wp2_with fail
            go_ret
            exact ⟨rfl, HB30.out⟩
end Go.Proofs.Ytjkmodfbbiojmaa.ssiMore
