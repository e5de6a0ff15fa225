import Derived.Test.YtfdiidhilonkoaaZC22
import Derived.Test.YtfdiidhilonkoaaZC21
import Derived.Test.YtfdiidhilonkoaaZC25
import Derived.Test.YtfdiidhilonkoaaZC10
import Derived.Deep.DeepCutAuto
set_option linter.unusedVariables false
/-
  Package order and the document's own answers: must one stand ahead of another one?
-/
namespace Go.Proofs.Ytfdiidhilonkoaa
open Go.RowKit

theorem seven_of {w : World} {b : Nat} {a0 a1 a2 a3 a4 a5 a6 : Value} {e : TypeId} (h : w.heap[b]? = some (.cells #[a0, a1, a2, a3, a4, a5, a6] e (0, 0))) :
    w.cell? ⟨b, 0, none⟩ = some a0 ∧ w.cell? ⟨b, 1, none⟩ = some a1 ∧ w.cell? ⟨b, 2, none⟩ = some a2 ∧ w.cell? ⟨b, 3, none⟩ = some a3 ∧ w.cell? ⟨b, 4, none⟩ = some a4 ∧ w.cell? ⟨b, 5, none⟩ = some a5 ∧ w.cell? ⟨b, 6, none⟩ = some a6 :=
  ⟨cell_of_row _ _ 0 _ _ _ h, cell_of_row _ _ 1 _ _ _ h, cell_of_row _ _ 2 _ _ _ h, cell_of_row _ _ 3 _ _ _ h, cell_of_row _ _ 4 _ _ _ h, cell_of_row _ _ 5 _ _ _ h, cell_of_row _ _ 6 _ _ _ h⟩
def endsZ (a b : DoneZ) : Bool := decide (a.end_ < b.start)
theorem edge_is (a b : DoneZ) : edgeD a b = (endsZ a b || readsZ a b) := rfl
set_option maxRecDepth 100000 in
set_option maxHeartbeats 4000000 in
theorem refEdge_any (x y : MZ) (w : World) (hfx : fewMZ x) (hfy : fewMZ y) (hx : OkMZ w w.heap.size x) (hy : OkMZ w w.heap.size y) :
    Calls Try.prog 10 #[mzVal x, mzVal y] w fun r w' => r = .returned (.bool (edgeD x.d y.d)) ∧ Below w.heap.size w w' := by
  obtain ⟨⟨xi, xb, xa, xs, xe, xr, xw⟩, xA, xc, xB, xd⟩ := x
  obtain ⟨⟨yi, yb, ya, ys, ye, yr, yw⟩, yA, yc, yB, yd⟩ := y
  unfold mzVal
  unfold fewMZ at hfx hfy
  unfold OkMZ at hx hy
  simp only at hx hy hfx hfy
  have HX := Lib.hid hx
  have HY := Lib.hid hy
  have HOX := Lib.hid hfx
  have HOY := Lib.hid hfy
  clear hx hy hfx hfy
  go_enter Try.func10, Try.ntmps10
  go_upto_region 1 with fail
  obtain ⟨w1, hw1⟩ : ∃ v, (w.alloc (.cells #[.int .i64 xi, .int .u64 xb, .int .u64 xa, .int .i64 xs, .int .i64 xe, .slice xA xr.length xc, .slice xB xw.length xd] 29)).alloc (.cells #[.int .i64 yi, .int .u64 yb, .int .u64 ya, .int .i64 ys, .int .i64 ye, .slice yA yr.length yc, .slice yB yw.length yd] 29) = v := ⟨_, rfl⟩
  rw [hw1]
  have hb1 : Below w.heap.size w w1 := by rw [← hw1]; exact ((Below.refl _ w).alloc (Nat.le_refl _) _).alloc (by simp) _
  have hx1 : w1.heap[w.heap.size]? = some (.cells #[.int .i64 xi, .int .u64 xb, .int .u64 xa, .int .i64 xs, .int .i64 xe, .slice xA xr.length xc, .slice xB xw.length xd] 29 (0, 0)) := by rw [← hw1]; exact heap_allocs (heap_alloc_new w _) _
  have hx2 : w1.heap[w.heap.size + 1]? = some (.cells #[.int .i64 yi, .int .u64 yb, .int .u64 ya, .int .i64 ys, .int .i64 ye, .slice yA yr.length yc, .slice yB yw.length yd] 29 (0, 0)) := by rw [← hw1]; exact heap_new2 w _ _
  clear hw1
  have HB1 := Lib.hid hb1
  have HCl := Lib.hid (fun (W : World) (h : Below w1.heap.size w1 W) => And.intro (seven_of (heap_below hx1 h (lt_of_heap hx1))) (seven_of (heap_below hx2 h (lt_of_heap hx2))))
  have HXr := Lib.hid (HX.out.1.below hb1 (Nat.le_refl _) hb1.size)
  have HXw := Lib.hid (HX.out.2.below hb1 (Nat.le_refl _) hb1.size)
  have HYr := Lib.hid (HY.out.1.below hb1 (Nat.le_refl _) hb1.size)
  have HYw := Lib.hid (HY.out.2.below hb1 (Nat.le_refl _) hb1.size)
  have HMt := Lib.hid (fun (W : World) (h : Below w1.heap.size w1 W) => (refMeetI_any xr yw xA yB xc yd W (by have := HOX.out.1; omega) (by have := HOY.out.2; omega) (HXr.out.below h (Nat.le_refl _) h.size).2.2.2 (HYw.out.below h (Nat.le_refl _) h.size).2.2.2).mono fun r w' (q : r = .returned (.bool (meetB xr yw)) ∧ Below W.heap.size W w') => (⟨q.1, h.trans (q.2.mono h.size)⟩ : r = .returned (.bool (meetB xr yw)) ∧ Below w1.heap.size w1 w'))
  clear hb1 hx1 hx2 HX HY HXr HXw HYr HYw HOX HOY
  by_cases g1 : xe < ys
  · have d1 : decide (xe < ys) = true := by simpa using g1
    have HF := Lib.hid (show edgeD ⟨xi, xb, xa, xs, xe, xr, xw⟩ ⟨yi, yb, ya, ys, ye, yr, yw⟩ = true by unfold edgeD; simp [g1])
    clear HMt
    obtain ⟨⟨z0, z1, z2, z3, z4, z5, z6⟩, ⟨y0, y1, y2, y3, y4, y5, y6⟩⟩ := HCl.out _ (Below.refl _ _)
    have hb0 := Below.refl w1.heap.size w1
    have HB8 := Lib.hid (HB1.out.trans (hb0.mono HB1.out.size))
    go_wp2_with fail
    go_ret
    rw [HF.out]
    exact ⟨rfl, HB8.out⟩
  · have d1 : decide (xe < ys) = false := by simpa using g1
    have HF0 := Lib.hid (show edgeD ⟨xi, xb, xa, xs, xe, xr, xw⟩ ⟨yi, yb, ya, ys, ye, yr, yw⟩ = (meetB xr yw && decide (xb < ya)) by unfold edgeD; simp [g1])
    cases hm : meetB xr yw with
    | false =>
      have HF := Lib.hid (show edgeD ⟨xi, xb, xa, xs, xe, xr, xw⟩ ⟨yi, yb, ya, ys, ye, yr, yw⟩ = false by rw [HF0.out, hm]; rfl)
      rw [hm] at HMt
      clear HF0 hm
      obtain ⟨⟨z0, z1, z2, z3, z4, z5, z6⟩, ⟨y0, y1, y2, y3, y4, y5, y6⟩⟩ := HCl.out _ (Below.refl _ _)
      have hb0 := Below.refl w1.heap.size w1
      go_wp2_with fail
      refine (HMt.out _ hb0).mono ?_
      rintro r w4 ⟨rfl, hq0⟩
      clear z0 z1 z2 z3 z4 z5 z6 y0 y1 y2 y3 y4 y5 y6
      obtain ⟨⟨z0, z1, z2, z3, z4, z5, z6⟩, ⟨y0, y1, y2, y3, y4, y5, y6⟩⟩ := HCl.out _ hq0
      have HB8 := Lib.hid (HB1.out.trans (hq0.mono HB1.out.size))
      go_wp2_with fail
      go_ret
      rw [HF.out]
      exact ⟨rfl, HB8.out⟩
    | true =>
      by_cases g2 : xb < ya
      · have d2 : decide (ya > xb) = true := by simpa using g2
        have d2' : decide ((ya : Int) > (xb : Int)) = true := by simpa using g2
        have HF := Lib.hid (show edgeD ⟨xi, xb, xa, xs, xe, xr, xw⟩ ⟨yi, yb, ya, ys, ye, yr, yw⟩ = true by rw [HF0.out, hm]; simp [g2])
        rw [hm] at HMt
        clear HF0 hm
        obtain ⟨⟨z0, z1, z2, z3, z4, z5, z6⟩, ⟨y0, y1, y2, y3, y4, y5, y6⟩⟩ := HCl.out _ (Below.refl _ _)
        have hb0 := Below.refl w1.heap.size w1
        go_wp2_with fail
        refine (HMt.out _ hb0).mono ?_
        rintro r w4 ⟨rfl, hq0⟩
        clear z0 z1 z2 z3 z4 z5 z6 y0 y1 y2 y3 y4 y5 y6
        obtain ⟨⟨z0, z1, z2, z3, z4, z5, z6⟩, ⟨y0, y1, y2, y3, y4, y5, y6⟩⟩ := HCl.out _ hq0
        have HB8 := Lib.hid (HB1.out.trans (hq0.mono HB1.out.size))
        go_wp2_with fail
        go_ret
        rw [HF.out]
        exact ⟨rfl, HB8.out⟩
      · have d2 : decide (ya > xb) = false := by simpa using g2
        have d2' : decide ((ya : Int) > (xb : Int)) = false := by simpa using g2
        have HF := Lib.hid (show edgeD ⟨xi, xb, xa, xs, xe, xr, xw⟩ ⟨yi, yb, ya, ys, ye, yr, yw⟩ = false by rw [HF0.out, hm]; simp [g2])
        rw [hm] at HMt
        clear HF0 hm
        obtain ⟨⟨z0, z1, z2, z3, z4, z5, z6⟩, ⟨y0, y1, y2, y3, y4, y5, y6⟩⟩ := HCl.out _ (Below.refl _ _)
        have hb0 := Below.refl w1.heap.size w1
        go_wp2_with fail
        refine (HMt.out _ hb0).mono ?_
        rintro r w4 ⟨rfl, hq0⟩
        clear z0 z1 z2 z3 z4 z5 z6 y0 y1 y2 y3 y4 y5 y6
        obtain ⟨⟨z0, z1, z2, z3, z4, z5, z6⟩, ⟨y0, y1, y2, y3, y4, y5, y6⟩⟩ := HCl.out _ hq0
        have HB8 := Lib.hid (HB1.out.trans (hq0.mono HB1.out.size))
        go_wp2_with fail
        go_ret
        rw [HF.out]
        exact ⟨rfl, HB8.out⟩
set_option maxRecDepth 100000 in
set_option maxHeartbeats 4000000 in
theorem dEnds_any (x y : MZ) (w : World) (hfx : fewMZ x) (hfy : fewMZ y) (hx : OkMZ w w.heap.size x) (hy : OkMZ w w.heap.size y) :
    Calls Try.prog 19 #[mzVal x, mzVal y] w fun r w' => r = .returned (.bool (endsZ x.d y.d)) ∧ Below w.heap.size w w' := by
  obtain ⟨⟨xi, xb, xa, xs, xe, xr, xw⟩, xA, xc, xB, xd⟩ := x
  obtain ⟨⟨yi, yb, ya, ys, ye, yr, yw⟩, yA, yc, yB, yd⟩ := y
  unfold mzVal
  unfold fewMZ at hfx hfy
  unfold OkMZ at hx hy
  simp only at hx hy hfx hfy
  have HX := Lib.hid hx
  have HY := Lib.hid hy
  have HOX := Lib.hid hfx
  have HOY := Lib.hid hfy
  clear hx hy hfx hfy
  go_enter Try.func19, Try.ntmps19
  go_upto_region 1 with fail
  obtain ⟨w1, hw1⟩ : ∃ v, (w.alloc (.cells #[.int .i64 xi, .int .u64 xb, .int .u64 xa, .int .i64 xs, .int .i64 xe, .slice xA xr.length xc, .slice xB xw.length xd] 29)).alloc (.cells #[.int .i64 yi, .int .u64 yb, .int .u64 ya, .int .i64 ys, .int .i64 ye, .slice yA yr.length yc, .slice yB yw.length yd] 29) = v := ⟨_, rfl⟩
  rw [hw1]
  have hb1 : Below w.heap.size w w1 := by rw [← hw1]; exact ((Below.refl _ w).alloc (Nat.le_refl _) _).alloc (by simp) _
  have hx1 : w1.heap[w.heap.size]? = some (.cells #[.int .i64 xi, .int .u64 xb, .int .u64 xa, .int .i64 xs, .int .i64 xe, .slice xA xr.length xc, .slice xB xw.length xd] 29 (0, 0)) := by rw [← hw1]; exact heap_allocs (heap_alloc_new w _) _
  have hx2 : w1.heap[w.heap.size + 1]? = some (.cells #[.int .i64 yi, .int .u64 yb, .int .u64 ya, .int .i64 ys, .int .i64 ye, .slice yA yr.length yc, .slice yB yw.length yd] 29 (0, 0)) := by rw [← hw1]; exact heap_new2 w _ _
  clear hw1
  have HB1 := Lib.hid hb1
  have HCl := Lib.hid (fun (W : World) (h : Below w1.heap.size w1 W) => And.intro (seven_of (heap_below hx1 h (lt_of_heap hx1))) (seven_of (heap_below hx2 h (lt_of_heap hx2))))
  have HXr := Lib.hid (HX.out.1.below hb1 (Nat.le_refl _) hb1.size)
  have HXw := Lib.hid (HX.out.2.below hb1 (Nat.le_refl _) hb1.size)
  have HYr := Lib.hid (HY.out.1.below hb1 (Nat.le_refl _) hb1.size)
  have HYw := Lib.hid (HY.out.2.below hb1 (Nat.le_refl _) hb1.size)
  clear hb1 hx1 hx2 HX HY HXr HXw HYr HYw HOX HOY
  · have HF := Lib.hid (show endsZ ⟨xi, xb, xa, xs, xe, xr, xw⟩ ⟨yi, yb, ya, ys, ye, yr, yw⟩ = decide (xe < ys) from rfl)
    obtain ⟨⟨z0, z1, z2, z3, z4, z5, z6⟩, ⟨y0, y1, y2, y3, y4, y5, y6⟩⟩ := HCl.out _ (Below.refl _ _)
    have hb0 := Below.refl w1.heap.size w1
    have HB8 := Lib.hid (HB1.out.trans (hb0.mono HB1.out.size))
    go_wp2_with fail
    go_ret
    rw [HF.out]
    exact ⟨rfl, HB8.out⟩
set_option maxRecDepth 100000 in
set_option maxHeartbeats 4000000 in
theorem dReads_any (K : SpanC) (x y : MZ) (w : World) (hfx : fewMZ x) (hfy : fewMZ y) (hx : OkMZ w w.heap.size x) (hy : OkMZ w w.heap.size y) :
    Calls Try.prog 20 #[mzVal x, mzVal y] w fun r w' => r = .returned (.bool (readsZ x.d y.d)) ∧ Below w.heap.size w w' := by
  obtain ⟨⟨xi, xb, xa, xs, xe, xr, xw⟩, xA, xc, xB, xd⟩ := x
  obtain ⟨⟨yi, yb, ya, ys, ye, yr, yw⟩, yA, yc, yB, yd⟩ := y
  unfold mzVal
  unfold fewMZ at hfx hfy
  unfold OkMZ at hx hy
  simp only at hx hy hfx hfy
  have HX := Lib.hid hx
  have HY := Lib.hid hy
  have HOX := Lib.hid hfx
  have HOY := Lib.hid hfy
  clear hx hy hfx hfy
  go_enter Try.func20, Try.ntmps20
  go_upto_region 1 with fail
  obtain ⟨w1, hw1⟩ : ∃ v, (w.alloc (.cells #[.int .i64 xi, .int .u64 xb, .int .u64 xa, .int .i64 xs, .int .i64 xe, .slice xA xr.length xc, .slice xB xw.length xd] 29)).alloc (.cells #[.int .i64 yi, .int .u64 yb, .int .u64 ya, .int .i64 ys, .int .i64 ye, .slice yA yr.length yc, .slice yB yw.length yd] 29) = v := ⟨_, rfl⟩
  rw [hw1]
  have hb1 : Below w.heap.size w w1 := by rw [← hw1]; exact ((Below.refl _ w).alloc (Nat.le_refl _) _).alloc (by simp) _
  have hx1 : w1.heap[w.heap.size]? = some (.cells #[.int .i64 xi, .int .u64 xb, .int .u64 xa, .int .i64 xs, .int .i64 xe, .slice xA xr.length xc, .slice xB xw.length xd] 29 (0, 0)) := by rw [← hw1]; exact heap_allocs (heap_alloc_new w _) _
  have hx2 : w1.heap[w.heap.size + 1]? = some (.cells #[.int .i64 yi, .int .u64 yb, .int .u64 ya, .int .i64 ys, .int .i64 ye, .slice yA yr.length yc, .slice yB yw.length yd] 29 (0, 0)) := by rw [← hw1]; exact heap_new2 w _ _
  clear hw1
  have HB1 := Lib.hid hb1
  have HCl := Lib.hid (fun (W : World) (h : Below w1.heap.size w1 W) => And.intro (seven_of (heap_below hx1 h (lt_of_heap hx1))) (seven_of (heap_below hx2 h (lt_of_heap hx2))))
  have HXr := Lib.hid (HX.out.1.below hb1 (Nat.le_refl _) hb1.size)
  have HXw := Lib.hid (HX.out.2.below hb1 (Nat.le_refl _) hb1.size)
  have HYr := Lib.hid (HY.out.1.below hb1 (Nat.le_refl _) hb1.size)
  have HYw := Lib.hid (HY.out.2.below hb1 (Nat.le_refl _) hb1.size)
  have HMt := Lib.hid (fun (W : World) (h : Below w1.heap.size w1 W) => (K.meet xr yw xA yB xc yd W HOX.out.1 HOY.out.2 (HXr.out.below h (Nat.le_refl _) h.size) (HYw.out.below h (Nat.le_refl _) h.size)).mono fun r w' (q : r = .returned (.bool (meetB xr yw)) ∧ Below W.heap.size W w') => (⟨q.1, h.trans (q.2.mono h.size)⟩ : r = .returned (.bool (meetB xr yw)) ∧ Below w1.heap.size w1 w'))
  clear hb1 hx1 hx2 HX HY HXr HXw HYr HYw HOX HOY
  by_cases g2 : xb < ya
  · have d2 : decide (ya > xb) = true := by simpa using g2
    have d2' : decide ((ya : Int) > (xb : Int)) = true := by simpa using g2
    have HF := Lib.hid (show readsZ ⟨xi, xb, xa, xs, xe, xr, xw⟩ ⟨yi, yb, ya, ys, ye, yr, yw⟩ = meetB xr yw by unfold readsZ; simp [g2])
    generalize meetB xr yw = mt at *
    obtain ⟨⟨z0, z1, z2, z3, z4, z5, z6⟩, ⟨y0, y1, y2, y3, y4, y5, y6⟩⟩ := HCl.out _ (Below.refl _ _)
    have hb0 := Below.refl w1.heap.size w1
    go_wp2_with fail
    refine (HMt.out _ hb0).mono ?_
    rintro r w4 ⟨rfl, hq0⟩
    clear z0 z1 z2 z3 z4 z5 z6 y0 y1 y2 y3 y4 y5 y6
    obtain ⟨⟨z0, z1, z2, z3, z4, z5, z6⟩, ⟨y0, y1, y2, y3, y4, y5, y6⟩⟩ := HCl.out _ hq0
    have HB8 := Lib.hid (HB1.out.trans (hq0.mono HB1.out.size))
    go_wp2_with fail
    go_ret
    rw [HF.out]
    exact ⟨rfl, HB8.out⟩
  · have d2 : decide (ya > xb) = false := by simpa using g2
    have d2' : decide ((ya : Int) > (xb : Int)) = false := by simpa using g2
    have HF := Lib.hid (show readsZ ⟨xi, xb, xa, xs, xe, xr, xw⟩ ⟨yi, yb, ya, ys, ye, yr, yw⟩ = false by unfold readsZ; simp [g2])
    clear HMt
    obtain ⟨⟨z0, z1, z2, z3, z4, z5, z6⟩, ⟨y0, y1, y2, y3, y4, y5, y6⟩⟩ := HCl.out _ (Below.refl _ _)
    have hb0 := Below.refl w1.heap.size w1
    have HB8 := Lib.hid (HB1.out.trans (hb0.mono HB1.out.size))
    go_wp2_with fail
    go_ret
    rw [HF.out]
    exact ⟨rfl, HB8.out⟩
set_option maxRecDepth 100000 in
set_option maxHeartbeats 4000000 in
theorem dEdge_any (K : SpanC) (x y : MZ) (w : World) (hfx : fewMZ x) (hfy : fewMZ y) (hx : OkMZ w w.heap.size x) (hy : OkMZ w w.heap.size y) :
    Calls Try.prog 9 #[mzVal x, mzVal y] w fun r w' => r = .returned (.bool (edgeD x.d y.d)) ∧ Below w.heap.size w w' := by
  obtain ⟨⟨xi, xb, xa, xs, xe, xr, xw⟩, xA, xc, xB, xd⟩ := x
  obtain ⟨⟨yi, yb, ya, ys, ye, yr, yw⟩, yA, yc, yB, yd⟩ := y
  unfold mzVal
  unfold fewMZ at hfx hfy
  unfold OkMZ at hx hy
  simp only at hx hy hfx hfy
  have HX := Lib.hid hx
  have HY := Lib.hid hy
  have HOX := Lib.hid hfx
  have HOY := Lib.hid hfy
  clear hx hy hfx hfy
  go_enter Try.func9, Try.ntmps9
  go_upto_region 1 with fail
  obtain ⟨w1, hw1⟩ : ∃ v, (w.alloc (.cells #[.int .i64 xi, .int .u64 xb, .int .u64 xa, .int .i64 xs, .int .i64 xe, .slice xA xr.length xc, .slice xB xw.length xd] 29)).alloc (.cells #[.int .i64 yi, .int .u64 yb, .int .u64 ya, .int .i64 ys, .int .i64 ye, .slice yA yr.length yc, .slice yB yw.length yd] 29) = v := ⟨_, rfl⟩
  rw [hw1]
  have hb1 : Below w.heap.size w w1 := by rw [← hw1]; exact ((Below.refl _ w).alloc (Nat.le_refl _) _).alloc (by simp) _
  have hx1 : w1.heap[w.heap.size]? = some (.cells #[.int .i64 xi, .int .u64 xb, .int .u64 xa, .int .i64 xs, .int .i64 xe, .slice xA xr.length xc, .slice xB xw.length xd] 29 (0, 0)) := by rw [← hw1]; exact heap_allocs (heap_alloc_new w _) _
  have hx2 : w1.heap[w.heap.size + 1]? = some (.cells #[.int .i64 yi, .int .u64 yb, .int .u64 ya, .int .i64 ys, .int .i64 ye, .slice yA yr.length yc, .slice yB yw.length yd] 29 (0, 0)) := by rw [← hw1]; exact heap_new2 w _ _
  clear hw1
  have HB1 := Lib.hid hb1
  have HCl := Lib.hid (fun (W : World) (h : Below w1.heap.size w1 W) => And.intro (seven_of (heap_below hx1 h (lt_of_heap hx1))) (seven_of (heap_below hx2 h (lt_of_heap hx2))))
  have HXr := Lib.hid (HX.out.1.below hb1 (Nat.le_refl _) hb1.size)
  have HXw := Lib.hid (HX.out.2.below hb1 (Nat.le_refl _) hb1.size)
  have HYr := Lib.hid (HY.out.1.below hb1 (Nat.le_refl _) hb1.size)
  have HYw := Lib.hid (HY.out.2.below hb1 (Nat.le_refl _) hb1.size)
  have hX1 : OkMZ w1 w1.heap.size ⟨⟨xi, xb, xa, xs, xe, xr, xw⟩, xA, xc, xB, xd⟩ := ⟨HXr.out, HXw.out⟩
  have hY1 : OkMZ w1 w1.heap.size ⟨⟨yi, yb, ya, ys, ye, yr, yw⟩, yA, yc, yB, yd⟩ := ⟨HYr.out, HYw.out⟩
  have HE := Lib.hid (fun (W : World) (h : Below w1.heap.size w1 W) => (dEnds_any ⟨⟨xi, xb, xa, xs, xe, xr, xw⟩, xA, xc, xB, xd⟩ ⟨⟨yi, yb, ya, ys, ye, yr, yw⟩, yA, yc, yB, yd⟩ W HOX.out HOY.out (hX1.below h (Nat.le_refl _) h.size) (hY1.below h (Nat.le_refl _) h.size)).mono fun r w' (q : r = .returned (.bool (endsZ ⟨xi, xb, xa, xs, xe, xr, xw⟩ ⟨yi, yb, ya, ys, ye, yr, yw⟩)) ∧ Below W.heap.size W w') => (⟨q.1, h.trans (q.2.mono h.size)⟩ : r = .returned (.bool (endsZ ⟨xi, xb, xa, xs, xe, xr, xw⟩ ⟨yi, yb, ya, ys, ye, yr, yw⟩)) ∧ Below w1.heap.size w1 w'))
  have HR := Lib.hid (fun (W : World) (h : Below w1.heap.size w1 W) => (dReads_any K ⟨⟨xi, xb, xa, xs, xe, xr, xw⟩, xA, xc, xB, xd⟩ ⟨⟨yi, yb, ya, ys, ye, yr, yw⟩, yA, yc, yB, yd⟩ W HOX.out HOY.out (hX1.below h (Nat.le_refl _) h.size) (hY1.below h (Nat.le_refl _) h.size)).mono fun r w' (q : r = .returned (.bool (readsZ ⟨xi, xb, xa, xs, xe, xr, xw⟩ ⟨yi, yb, ya, ys, ye, yr, yw⟩)) ∧ Below W.heap.size W w') => (⟨q.1, h.trans (q.2.mono h.size)⟩ : r = .returned (.bool (readsZ ⟨xi, xb, xa, xs, xe, xr, xw⟩ ⟨yi, yb, ya, ys, ye, yr, yw⟩)) ∧ Below w1.heap.size w1 w'))
  unfold mzVal at HE HR
  simp only at HE HR
  have HF0 := Lib.hid (edge_is ⟨xi, xb, xa, xs, xe, xr, xw⟩ ⟨yi, yb, ya, ys, ye, yr, yw⟩)
  clear hb1 hx1 hx2 HX HY HXr HXw HYr HYw HOX HOY hX1 hY1
  generalize endsZ ⟨xi, xb, xa, xs, xe, xr, xw⟩ ⟨yi, yb, ya, ys, ye, yr, yw⟩ = e1 at *
  generalize readsZ ⟨xi, xb, xa, xs, xe, xr, xw⟩ ⟨yi, yb, ya, ys, ye, yr, yw⟩ = e2 at *
  cases e1 with
  | true =>
    have HF := Lib.hid (show edgeD ⟨xi, xb, xa, xs, xe, xr, xw⟩ ⟨yi, yb, ya, ys, ye, yr, yw⟩ = true by rw [HF0.out]; rfl)
    clear HR HF0
    obtain ⟨⟨z0, z1, z2, z3, z4, z5, z6⟩, ⟨y0, y1, y2, y3, y4, y5, y6⟩⟩ := HCl.out _ (Below.refl _ _)
    have hb0 := Below.refl w1.heap.size w1
    go_wp2_with fail
    refine (HE.out _ hb0).mono ?_
    rintro r w4 ⟨rfl, hq0⟩
    clear z0 z1 z2 z3 z4 z5 z6 y0 y1 y2 y3 y4 y5 y6
    obtain ⟨⟨z0, z1, z2, z3, z4, z5, z6⟩, ⟨y0, y1, y2, y3, y4, y5, y6⟩⟩ := HCl.out _ hq0
    have HB8 := Lib.hid (HB1.out.trans (hq0.mono HB1.out.size))
    go_wp2_with fail
    go_ret
    rw [HF.out]
    exact ⟨rfl, HB8.out⟩
  | false =>
    have HF := Lib.hid (show edgeD ⟨xi, xb, xa, xs, xe, xr, xw⟩ ⟨yi, yb, ya, ys, ye, yr, yw⟩ = e2 by rw [HF0.out]; rfl)
    clear HF0
    obtain ⟨⟨z0, z1, z2, z3, z4, z5, z6⟩, ⟨y0, y1, y2, y3, y4, y5, y6⟩⟩ := HCl.out _ (Below.refl _ _)
    have hb0 := Below.refl w1.heap.size w1
    go_wp2_with fail
    refine (HE.out _ hb0).mono ?_
    rintro r w4 ⟨rfl, hq0⟩
    clear z0 z1 z2 z3 z4 z5 z6 y0 y1 y2 y3 y4 y5 y6
    obtain ⟨⟨z0, z1, z2, z3, z4, z5, z6⟩, ⟨y0, y1, y2, y3, y4, y5, y6⟩⟩ := HCl.out _ hq0
    go_wp2_with fail
    refine (HR.out _ hq0).mono ?_
    rintro r w5 ⟨rfl, hq1⟩
    clear z0 z1 z2 z3 z4 z5 z6 y0 y1 y2 y3 y4 y5 y6
    obtain ⟨⟨z0, z1, z2, z3, z4, z5, z6⟩, ⟨y0, y1, y2, y3, y4, y5, y6⟩⟩ := HCl.out _ hq1
    have HB8 := Lib.hid (HB1.out.trans (hq1.mono HB1.out.size))
    go_wp2_with fail
    go_ret
    rw [HF.out]
    exact ⟨rfl, HB8.out⟩
end Go.Proofs.Ytfdiidhilonkoaa
