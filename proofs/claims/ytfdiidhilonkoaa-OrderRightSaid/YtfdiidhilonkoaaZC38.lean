import Derived.Test.YtfdiidhilonkoaaZC37
import Derived.Test.YtfdiidhilonkoaaZC25
import Derived.Test.YtfdiidhilonkoaaZC36
set_option linter.unusedVariables false
/-
  The statements on orders: what the walks share.
-/
namespace Go.Proofs.Ytfdiidhilonkoaa
open Go.RowKit

theorem OrdV.none_ {w w' : World} {r : Ending} (h : OrdV none w r w') : r = .returned (.tuple #[.slice none 0 0, .bool false]) ∧ Below w.heap.size w w' := ⟨h.1 rfl, h.2.2⟩
theorem OrdV.some_ {l : List Nat} {w w' : World} {r : Ending} (h : OrdV (some l) w r w') : ∃ A c, r = .returned (.tuple #[.slice A l.length c, .bool true]) ∧ l.length ≤ c ∧ c ≤ maxLen ∧ (A = none → c = 0) ∧ RowG inZ w' 0 w'.heap.size A (outZ l) ∧ Below w.heap.size w w' := by
  obtain ⟨A, c, h1, h2, h3, h4, h5⟩ := h.2.1 l rfl
  exact ⟨A, c, h1, h2, h3, h4, h5.wide (Nat.zero_le _) (Nat.le_refl _), h.2.2⟩
theorem bool_iff {a b : Bool} {P : Prop} (h : a = true ↔ P) (k : b = true ↔ P) : a = b := by
  rw [Bool.eq_iff_iff, h, k]
end Go.Proofs.Ytfdiidhilonkoaa

/-
  The walk of OrderEdges.
-/
namespace Go.Proofs.Ytfdiidhilonkoaa.orderEdges
open Go.RowKit

set_option maxRecDepth 100000 in
set_option maxHeartbeats 16000000 in
theorem walk (K : SpanC) (ms : List MZ) (A : Option Addr) (c : Nat) (ps : List Int) (B : Option Addr) (d : Nat) (w : World) (hlen : ms.length ≤ maxLen) (hr : ChZ w w.heap.size A c ms) (hpl : ps.length ≤ d) (hdl : d ≤ maxLen) (hp : RowG inZ w 0 w.heap.size B ps) :
    Calls Try.prog 3 #[.slice A ms.length c, .slice B ps.length d] w fun r w' => r = .returned (.bool true) ∧ Below w.heap.size w w' := by
  have hlen2 : ms.length ≤ 9223372036854775807 := by unfold maxLen at hlen; omega
  have q9 : (ms.length : Int) ≤ 9223372036854775807 := by omega
  have HK := Lib.hid K
  have HR := Lib.hid hr
  have HL := Lib.hid (fun (W : World) => liveO_any K W)
  have HFw := Lib.hid (fun (W : World) (hW : Below w.heap.size w W) => fewZ_any ms A c W hlen2 (HR.out.below hW (Nat.le_refl _) hW.size))
  have HO := Lib.hid (fun (W : World) (hW : Below w.heap.size w W) (hf : ∀ x ∈ ms, fewMZ x) (hl : ms.length ≤ 1000) => dOrder_any K ms A c W (HR.out.below hW (Nat.le_refl _) hW.size) hf hl)
  have HFy := Lib.hid (fun (q : fewZ ms = true) => fewZ_yes q)
  clear hr K hlen
  have hdl2 : d ≤ 9223372036854775807 := by unfold maxLen at hdl; omega
  have HP := Lib.hid hp
  have HR1 := Lib.hid (fun (W : World) (hW : Below w.heap.size w W) (hf : ∀ x ∈ ms, fewMZ x) (hl : ms.length ≤ 1000) => dRight_any HK.out ms A c ps B d W (HR.out.below hW (Nat.le_refl _) hW.size) hf hl ((HP.out.below hW (Nat.le_refl _)).wide (Nat.le_refl _) hW.size) (by omega))
  have HR2 := Lib.hid (fun (W : World) (hW : Below w.heap.size w W) (hf : ∀ x ∈ ms, fewMZ x) (hl : ms.length ≤ 1000) => refRight_any ms A c ps B d W (HR.out.below hW (Nat.le_refl _) hW.size) hf hl ((HP.out.below hW (Nat.le_refl _)).wide (Nat.le_refl _) hW.size) hpl hdl2)
  have hpl2 : ps.length ≤ 9223372036854775807 := by omega
  clear HO hp hdl
  generalize fewZ ms = fw at *
  go_enter Try.func3, Try.ntmps3
  go_wp2_with fail
  (with_reducible refine (HL.out w).mono ?_)
  rintro r w1 ⟨rfl, hb1⟩
  have HB1 := Lib.hid hb1
  have HC := Lib.hid (HFw.out w1 hb1)
  clear hb1
  go_wp2_with fail
  (with_reducible refine HC.out.mono ?_)
  rintro r w2 ⟨rfl, hb2⟩
  have HB2 := Lib.hid (HB1.out.trans (hb2.mono HB1.out.size))
  clear hb2 HC
  cases fw with
  | false =>
    go_wp2_with fail
    (with_reducible refine (HL.out w2).mono ?_)
    rintro r w3 ⟨rfl, hb3⟩
    have HB3 := Lib.hid (HB2.out.trans (hb3.mono HB2.out.size))
    clear hb3
    go_wp2_with fail
    go_ret
    exact ⟨rfl, HB3.out⟩
  | true =>
    by_cases h100 : 100 < ps.length
    · have d1 : decide (100 < ps.length) = true := by rw [decide_eq_true_iff]; exact h100
      have d2 : decide ((ps.length : Int) > 100) = true := by rw [decide_eq_true_iff]; omega
      have d3 : decide ((100 : Int) < (ps.length : Int)) = true := by rw [decide_eq_true_iff]; omega
      clear h100
      go_wp2_with fail
      (with_reducible refine (HL.out w2).mono ?_)
      rintro r w3 ⟨rfl, hb3⟩
      have HB3 := Lib.hid (HB2.out.trans (hb3.mono HB2.out.size))
      clear hb3
      go_wp2_with fail
      go_ret
      exact ⟨rfl, HB3.out⟩
    · have d1 : decide (100 < ps.length) = false := by rw [decide_eq_false_iff_not]; exact h100
      have d2 : decide ((ps.length : Int) > 100) = false := by rw [decide_eq_false_iff_not]; omega
      have d3 : decide ((100 : Int) < (ps.length : Int)) = false := by rw [decide_eq_false_iff_not]; omega
      clear h100
      obtain ⟨hf, hl⟩ := HFy.out rfl
      have HFm := Lib.hid hf
      have HC1 := Lib.hid (fun W hW => HR1.out W hW hf (by omega))
      have HC2 := Lib.hid (fun W hW => HR2.out W hW hf (by omega))
      clear hf HR1 HR2
      go_wp2_with fail
      go_loopg [24] ms.length (fun q iv wr => ∃ i : Nat, i + q = ms.length ∧ iv = .int .i64 (i : Nat) ∧ Below w.heap.size w wr)
      case atStart => exact ⟨0, by omega, rfl, HB2.out⟩
      case round =>
        obtain ⟨i, hi, rfl, hb⟩ := hrel
        obtain ⟨g0, hg0⟩ : ∃ y, y = gk := ⟨_, rfl⟩
        subst hg0
        obtain ⟨wo, hwo⟩ : ∃ y, y = wr := ⟨_, rfl⟩
        subst hwo
        have HIq := Lib.hid hi
        have HB := Lib.hid hb
        clear hi hb
        by_cases hin : i < ms.length
        · have hlt : decide ((i : Int) < (ms.length : Int)) = true := by simpa using hin
          have hlt2 : decide (i < ms.length) = true := by simpa using hin
          have q5 : (i : Int) < (ms.length : Int) := by omega
          have HIn := Lib.hid hin
          have hchx := HR.out.below HB.out (Nat.le_refl _) HB.out.size
          obtain ⟨bx, ox, hAx, hblx, hsx, _⟩ := hchx.elem2 hin hin
          obtain rfl := hAx
          have hfx := HFm.out _ (List.getElem_mem hin)
          have hox := hchx.2.2.2.2 _ (List.getElem_mem hin)
          obtain ⟨z0, z1, z2, z3, z4, z5, z6⟩ := hsx.all
          clear hsx hchx hblx
          generalize ms[i]'hin = x at *
          obtain ⟨⟨xi, xb, xa, xs, xe, xr, xw⟩, xA, xc, xB, xd⟩ := x
          simp only at z0 z1 z2 z3 z4 z5 z6
          obtain ⟨wt, hwx⟩ : ∃ u, wo.alloc (.cells #[.int .i64 xi, .int .u64 xb, .int .u64 xa, .int .i64 xs, .int .i64 xe, .slice xA xr.length xc, .slice xB xw.length xd] 29) = u := ⟨_, rfl⟩
          have hbtx : Below wo.heap.size wo wt := by rw [← hwx]; exact (Below.refl _ _).alloc (Nat.le_refl _) _
          have hnx : wt.heap[wo.heap.size]? = some (.cells #[.int .i64 xi, .int .u64 xb, .int .u64 xa, .int .i64 xs, .int .i64 xe, .slice xA xr.length xc, .slice xB xw.length xd] 29 (0, 0)) := by rw [← hwx]; exact heap_alloc_new wo _
          have HBxx := Lib.hid (fun (V : World) (h : Below wt.heap.size wt V) => heap_below hnx h (lt_of_heap hnx))
          have HOxx := Lib.hid (hox.below hbtx (Nat.le_refl _) hbtx.size)
          have HFxx := Lib.hid hfx
          have HBtx := Lib.hid hbtx
          have HWtx := Lib.hid hwx
          clear hbtx hnx hwx hox hfx
          go_upto_region 6 with fail
          rw [HWtx.out]
          clear HWtx z0 z1 z2 z3 z4 z5 z6
          clear hin
          have HBT := Lib.hid (HB.out.trans (HBtx.out.mono HB.out.size))
          go_wp2_with fail
          go_loopg [30] ms.length (fun q iv wr => ∃ k : Nat, k + q = ms.length ∧ iv = .int .i64 (k : Nat) ∧ Below wt.heap.size wt wr)
          case atStart => exact ⟨0, by omega, rfl, Below.refl _ _⟩
          case round =>
            obtain ⟨k, hk, rfl, hb⟩ := hrel
            obtain ⟨wk, hwk⟩ : ∃ y, y = wr := ⟨_, rfl⟩
            subst hwk
            have HKq := Lib.hid hk
            have HBk := Lib.hid hb
            have HBW := Lib.hid (HBT.out.trans (hb.mono HBT.out.size))
            clear hk hb
            by_cases hkn : k < ms.length
            · have hlt3 : decide ((k : Int) < (ms.length : Int)) = true := by simpa using hkn
              have hlt4 : decide (k < ms.length) = true := by simpa using hkn
              have q6 : (k : Int) < (ms.length : Int) := by omega
              have hA0 : True := trivial
              have hchy := HR.out.below HBW.out (Nat.le_refl _) HBW.out.size
              obtain ⟨by_, oy, hAy, hbly, hsy, _⟩ := hchy.elem2 hkn hkn
              injection hAy with hAy
              injection hAy with hAy1 hAy2
              subst hAy1 hAy2
              have hfy := HFm.out _ (List.getElem_mem hkn)
              have hoy := hchy.2.2.2.2 _ (List.getElem_mem hkn)
              obtain ⟨z0, z1, z2, z3, z4, z5, z6⟩ := hsy.all
              clear hsy hchy hbly
              generalize ms[k]'hkn = y at *
              obtain ⟨⟨yi, yb, ya, ys, ye, yr, yw⟩, yA, yc, yB, yd⟩ := y
              simp only at z0 z1 z2 z3 z4 z5 z6
              obtain ⟨wu, hwy⟩ : ∃ u, wk.alloc (.cells #[.int .i64 yi, .int .u64 yb, .int .u64 ya, .int .i64 ys, .int .i64 ye, .slice yA yr.length yc, .slice yB yw.length yd] 29) = u := ⟨_, rfl⟩
              have hbty : Below wk.heap.size wk wu := by rw [← hwy]; exact (Below.refl _ _).alloc (Nat.le_refl _) _
              have hny : wu.heap[wk.heap.size]? = some (.cells #[.int .i64 yi, .int .u64 yb, .int .u64 ya, .int .i64 ys, .int .i64 ye, .slice yA yr.length yc, .slice yB yw.length yd] 29 (0, 0)) := by rw [← hwy]; exact heap_alloc_new wk _
              have HBxy := Lib.hid (fun (V : World) (h : Below wu.heap.size wu V) => heap_below hny h (lt_of_heap hny))
              have HOxy := Lib.hid (hoy.below hbty (Nat.le_refl _) hbty.size)
              have HFxy := Lib.hid hfy
              have HBty := Lib.hid hbty
              have HWty := Lib.hid hwy
              clear hbty hny hwy hoy hfy
              go_upto_region 9 with fail
              rw [HWty.out]
              clear HWty z0 z1 z2 z3 z4 z5 z6
              clear hkn hA0
              have HBu := Lib.hid (HBk.out.trans (HBty.out.mono HBk.out.size))
              have HPc := Lib.hid (fun (V : World) (hV : Below wu.heap.size wu V) => And.intro (seven_of (HBxx.out V (HBu.out.trans (hV.mono HBu.out.size)))) (seven_of (HBxy.out V hV)))
              have hE1 := fun (V : World) (hV : Below wu.heap.size wu V) => (dEdge_any HK.out ⟨⟨xi, xb, xa, xs, xe, xr, xw⟩, xA, xc, xB, xd⟩ ⟨⟨yi, yb, ya, ys, ye, yr, yw⟩, yA, yc, yB, yd⟩ V HFxx.out HFxy.out (HOxx.out.below (HBu.out.trans (hV.mono HBu.out.size)) (Nat.le_refl _) (HBu.out.trans (hV.mono HBu.out.size)).size) (HOxy.out.below hV (Nat.le_refl _) hV.size)).mono fun r w' (q : r = .returned (.bool (edgeD ⟨xi, xb, xa, xs, xe, xr, xw⟩ ⟨yi, yb, ya, ys, ye, yr, yw⟩)) ∧ Below V.heap.size V w') => (⟨q.1, hV.trans (q.2.mono hV.size)⟩ : r = .returned (.bool (edgeD ⟨xi, xb, xa, xs, xe, xr, xw⟩ ⟨yi, yb, ya, ys, ye, yr, yw⟩)) ∧ Below wu.heap.size wu w')
              have hE2 := fun (V : World) (hV : Below wu.heap.size wu V) => (refEdge_any ⟨⟨xi, xb, xa, xs, xe, xr, xw⟩, xA, xc, xB, xd⟩ ⟨⟨yi, yb, ya, ys, ye, yr, yw⟩, yA, yc, yB, yd⟩ V HFxx.out HFxy.out (HOxx.out.below (HBu.out.trans (hV.mono HBu.out.size)) (Nat.le_refl _) (HBu.out.trans (hV.mono HBu.out.size)).size) (HOxy.out.below hV (Nat.le_refl _) hV.size)).mono fun r w' (q : r = .returned (.bool (edgeD ⟨xi, xb, xa, xs, xe, xr, xw⟩ ⟨yi, yb, ya, ys, ye, yr, yw⟩)) ∧ Below V.heap.size V w') => (⟨q.1, hV.trans (q.2.mono hV.size)⟩ : r = .returned (.bool (edgeD ⟨xi, xb, xa, xs, xe, xr, xw⟩ ⟨yi, yb, ya, ys, ye, yr, yw⟩)) ∧ Below wu.heap.size wu w')
              unfold mzVal at hE1 hE2
              simp only at hE1 hE2
              have HE1 := Lib.hid hE1
              have HE2 := Lib.hid hE2
              clear hE1 hE2
              generalize edgeD ⟨xi, xb, xa, xs, xe, xr, xw⟩ ⟨yi, yb, ya, ys, ye, yr, yw⟩ = ev at *
              refine wp_region_classJ (C := fun W => Below wu.heap.size wu W) (by kernel_rfl) (by kernel_rfl) ((Below.refl _ _).drew) ?_
              repeat (
                refine no_implicit_lambda% (wpQuiet_step ?_)
                intro K hK
                go_simp
                first
                | (refine no_implicit_lambda% (hK _ ?_); clear hK K)
                | (apply Exists.intro
                   refine ⟨fun _ => ?_, hK _ ?_⟩
                   (first
                       | (intro hw; with_reducible exact HE1.out _ hw)
                       | (intro hw; with_reducible exact HE2.out _ hw)
                       | (intro hw; obtain ⟨⟨z0, z1, z2, z3, z4, z5, z6⟩, ⟨y0, y1, y2, y3, y4, y5, y6⟩⟩ := HPc.out _ hw; go_simp; with_reducible exact ⟨rfl, rfl⟩)
                       | (intro hw; obtain ⟨⟨z0, z1, z2, z3, z4, z5, z6⟩, ⟨y0, y1, y2, y3, y4, y5, y6⟩⟩ := HPc.out _ hw; go_simp; with_reducible rfl)
                       | (intro _; with_reducible rfl)
                       | (intro hw; go_simp; with_reducible exact ⟨rfl, rfl⟩)
                       | (intro hw; go_simp; with_reducible exact rfl))
                   clear hK K))
              refine wpQuiet_nil ?_
              intro w8 hb8
              have HB8 := Lib.hid (HBu.out.trans (hb8.mono HBu.out.size))
              clear hb8
              have e1 : (ev != ev) = false := by simp
              go_wp2_with fail
              go_roundg (gk - 1)
              case measure => have := HKq.out; omega
              case rel => exact ⟨k + 1, by have := HKq.out; omega, by go_num, HB8.out⟩
            · have hlt3 : decide ((k : Int) < (ms.length : Int)) = false := by simpa using hkn
              have hlt4 : decide (k < ms.length) = false := by simpa using hkn
              clear hkn
              go_wp2_with fail
              go_roundg (g0 - 1)
              case measure => have := HIq.out; have := HIn.out; omega
              case rel => exact ⟨i + 1, by have := HIq.out; have := HIn.out; omega, by go_num, HBW.out⟩
        · have hlt : decide ((i : Int) < (ms.length : Int)) = false := by simpa using hin
          have hlt2 : decide (i < ms.length) = false := by simpa using hin
          have HC3 := Lib.hid (HC1.out wo HB.out)
          clear hin
          go_wp2_with fail
          (with_reducible refine HC3.out.mono ?_)
          rintro r w4 ⟨b1, rfl, hi1, hb4⟩
          have HB4 := Lib.hid (HB.out.trans (hb4.mono HB.out.size))
          have HI1 := Lib.hid hi1
          have HC4 := Lib.hid (HC2.out w4 HB4.out)
          clear hi1 hb4
          go_wp2_with fail
          (with_reducible refine HC4.out.mono ?_)
          rintro r w5 ⟨b2, rfl, hi2, hb5⟩
          obtain rfl : b1 = b2 := bool_iff HI1.out hi2
          have HB5 := Lib.hid (HB4.out.trans (hb5.mono HB4.out.size))
          clear hi2 hb5
          have e1 : (b1 == b1) = true := by simp
          go_wp2_with fail
          go_ret
          exact ⟨by simp, HB5.out⟩
end Go.Proofs.Ytfdiidhilonkoaa.orderEdges

/-
  Package span, as it landed: ahead, Right, Has, Meets, apart, later.
-/
namespace Go.Proofs.Ytfdiidhilonkoaa
open Go.RowKit

set_option maxRecDepth 100000 in
set_option maxHeartbeats 2000000 in
theorem dAheadI_any (k hi : List UInt8) (w : World) : Calls Try.prog 41 #[.string (bs k), .string (bs hi)] w fun r w' => r = .returned (.bool (endS hi k)) ∧ w = w' := by
  have h0 := sp_less k hi
  unfold endS
  cases hq : hi.isEmpty with
  | true =>
    obtain ⟨q1, q2⟩ := nil_q hq
    clear hq h0
    rw [Bool.true_or]
    go_enter Try.func41, Try.ntmps41
    go_wp2
    go_ret
    exact ⟨rfl, rfl⟩
  | false =>
    obtain ⟨q1, q2⟩ := nil_n hq
    clear hq
    rw [Bool.false_or]
    generalize blt k hi = x at *
    go_enter Try.func41, Try.ntmps41
    go_wp2
    go_ret
    exact ⟨rfl, rfl⟩
set_option maxRecDepth 100000 in
set_option maxHeartbeats 2000000 in
theorem dRight_anyI (s : Sp) (w : World) : Calls Try.prog 48 #[spVal s] w fun r w' => r = .returned (.bool (rightS s)) ∧ Below w.heap.size w w' := by
  obtain ⟨lo, hi⟩ := s
  have HB := Lib.hid ((Below.refl w.heap.size w).alloc (Nat.le_refl _) (.cells #[.string (bs lo), .string (bs hi)] 52))
  have HC := Lib.hid (dAheadI_any lo hi)
  unfold rightS spVal
  simp only
  generalize endS hi lo = x at *
  go_enter Try.func48, Try.ntmps48
  go_wp2_with (go_at_call 41; refine (HC.out _).mono ?_; rintro r w' ⟨rfl, rfl⟩)
  go_ret
  exact ⟨rfl, HB.out⟩
set_option maxRecDepth 100000 in
set_option maxHeartbeats 4000000 in
theorem dMeets_any (a b : Sp) (w : World) : Calls Try.prog 40 #[spVal a, spVal b] w fun r w' => r = .returned (.bool (meetsS a b)) ∧ Below w.heap.size w w' := by
  rw [meets_ends]
  obtain ⟨w0, hw0⟩ : ∃ y, (w.alloc (.cells #[.string (bs a.lo), .string (bs a.hi)] 52)).alloc (.cells #[.string (bs b.lo), .string (bs b.hi)] 52) = y := ⟨_, rfl⟩
  have hb0 : Below w.heap.size w w0 := by rw [← hw0]; exact ((Below.refl _ w).alloc (Nat.le_refl _) _).alloc (by simp) _
  have ha : w0.heap[w.heap.size]? = some (.cells #[.string (bs a.lo), .string (bs a.hi)] 52 (0, 0)) := by rw [← hw0]; exact heap_allocs (heap_alloc_new w _) _
  have hb : w0.heap[w.heap.size + 1]? = some (.cells #[.string (bs b.lo), .string (bs b.hi)] 52 (0, 0)) := by rw [← hw0]; exact heap_new2 w _ _
  have H1 := Lib.hid (dRight_anyI a)
  have H2 := Lib.hid (dRight_anyI b)
  have H3 := Lib.hid (dAheadI_any a.lo b.hi)
  have H4 := Lib.hid (dAheadI_any b.lo a.hi)
  obtain ⟨alo, ahi⟩ := a
  obtain ⟨blo', bhi⟩ := b
  unfold spVal at H1 H2
  simp only at ha hb hw0 H1 H2 H3 H4
  have KC := Lib.hid (fun (W : World) (h : Below w0.heap.size w0 W) => And.intro (cell_of_row W w.heap.size 0 _ _ _ (heap_below ha h (lt_of_heap ha))) (And.intro (cell_of_row W w.heap.size 1 _ _ _ (heap_below ha h (lt_of_heap ha))) (And.intro (cell_of_row W (w.heap.size + 1) 0 _ _ _ (heap_below hb h (lt_of_heap hb))) (cell_of_row W (w.heap.size + 1) 1 _ _ _ (heap_below hb h (lt_of_heap hb))))))
  obtain ⟨z0, z1, z2, z3⟩ := KC.out w0 (Below.refl _ _)
  have HB := Lib.hid hb0
  have HW := Lib.hid hw0
  clear ha hb hb0 hw0
  unfold spVal
  simp only
  generalize rightS ⟨alo, ahi⟩ = x at *
  generalize rightS ⟨blo', bhi⟩ = y at *
  generalize endS bhi alo = p at *
  generalize endS ahi blo' = q at *
  go_enter Try.func40, Try.ntmps40
  go_upto_region 1 with fail
  rw [HW.out]
  clear HW
  go_wp2_with fail
  refine (H1.out w0).mono ?_
  rintro r w1 ⟨rfl, hb1⟩
  have HB1 := Lib.hid hb1
  clear z0 z1 z2 z3
  obtain ⟨z0, z1, z2, z3⟩ := KC.out w1 hb1
  clear hb1
  cases x with
  | false =>
    go_wp2_with fail
    go_ret
    exact ⟨by simp, HB.out.trans (HB1.out.mono HB.out.size)⟩
  | true =>
    go_wp2_with fail
    refine (H2.out w1).mono ?_
    rintro r w2 ⟨rfl, hb2⟩
    have HB2 := Lib.hid (HB1.out.trans (hb2.mono HB1.out.size))
    clear z0 z1 z2 z3 hb2
    obtain ⟨z0, z1, z2, z3⟩ := KC.out w2 HB2.out
    cases y with
    | false =>
      go_wp2_with fail
      go_ret
      exact ⟨by simp, HB.out.trans (HB2.out.mono HB.out.size)⟩
    | true =>
      cases p with
      | false =>
        go_wp2_with (go_at_call 41; refine (H3.out _).mono ?_; rintro r w' ⟨rfl, rfl⟩)
        go_ret
        exact ⟨by simp, HB.out.trans (HB2.out.mono HB.out.size)⟩
      | true =>
        go_wp2_with (first
          | (go_at_call 41; with_reducible refine (H3.out _).mono ?_; rintro r w' ⟨rfl, rfl⟩)
          | (go_at_call 41; with_reducible refine (H4.out _).mono ?_; rintro r w' ⟨rfl, rfl⟩))
        go_ret
        exact ⟨by simp, HB.out.trans (HB2.out.mono HB.out.size)⟩
theorem nil_bne {h : List UInt8} (e : h.isEmpty = true) : ((bs h).toList != []) = false := by
  rw [bne, (nil_q e).1]
  rfl
theorem nil_bne' {h : List UInt8} (e : h.isEmpty = false) : ((bs h).toList != []) = true := by
  rw [bne, (nil_n e).1]
  rfl
set_option maxRecDepth 100000 in
set_option maxHeartbeats 2000000 in
theorem dApart_any (a b : Sp) (w : World) : Calls Try.prog 50 #[spVal a, spVal b] w fun r w' => r = .returned (.bool (gapB a b)) ∧ Below w.heap.size w w' := by
  obtain ⟨alo, ahi⟩ := a
  obtain ⟨blo', bhi⟩ := b
  have HB := Lib.hid (((Below.refl w.heap.size w).alloc (Nat.le_refl _) (.cells #[.string (bs alo), .string (bs ahi)] 52)).alloc (by simp) (.cells #[.string (bs blo'), .string (bs bhi)] 52))
  have h0 := sp_gtr blo' ahi
  unfold gapB spVal
  simp only
  cases hq : ahi.isEmpty with
  | true =>
    obtain ⟨q1, q2⟩ := nil_q hq
    have q3 := nil_bne hq
    clear hq h0
    rw [Bool.not_true, Bool.false_and]
    go_enter Try.func50, Try.ntmps50
    go_wp2
    go_ret
    exact ⟨rfl, HB.out⟩
  | false =>
    obtain ⟨q1, q2⟩ := nil_n hq
    have q3 := nil_bne' hq
    clear hq
    rw [Bool.not_false, Bool.true_and]
    generalize blt ahi blo' = x at *
    go_enter Try.func50, Try.ntmps50
    go_wp2
    go_ret
    exact ⟨rfl, HB.out⟩
set_option maxRecDepth 100000 in
set_option maxHeartbeats 2000000 in
theorem dLater_any (a b : List UInt8) (w : World) : Calls Try.prog 53 #[.string (bs a), .string (bs b)] w fun r w' => r = .returned (.string (bs (laterS a b))) ∧ w = w' := by
  have HC := Lib.hid (dAheadI_any a b)
  unfold laterS
  cases hq : a.isEmpty with
  | true =>
    obtain ⟨q1, q2⟩ := nil_q hq
    have q3 := nil_bne hq
    rw [if_neg (fun h => h.1 (List.isEmpty_iff.1 hq))]
    clear hq HC
    go_enter Try.func53, Try.ntmps53
    go_wp2
    go_ret
    exact ⟨rfl, rfl⟩
  | false =>
    obtain ⟨q1, q2⟩ := nil_n hq
    have q3 := nil_bne' hq
    cases he : endS b a with
    | true =>
      rw [if_pos ⟨List.isEmpty_eq_false_iff.1 hq, rfl⟩]
      rw [he] at HC
      clear hq he
      go_enter Try.func53, Try.ntmps53
      go_wp2_with (go_at_call 41; refine (HC.out _).mono ?_; rintro r w' ⟨rfl, rfl⟩)
      go_ret
      exact ⟨rfl, rfl⟩
    | false =>
      rw [if_neg (fun h => by cases h.2)]
      rw [he] at HC
      clear hq he
      go_enter Try.func53, Try.ntmps53
      go_wp2_with (go_at_call 41; refine (HC.out _).mono ?_; rintro r w' ⟨rfl, rfl⟩)
      go_ret
      exact ⟨rfl, rfl⟩
end Go.Proofs.Ytfdiidhilonkoaa
