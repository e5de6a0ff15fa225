import Derived.Test.YtdpbllacfljmoaaGreatZF11
import Derived.Deep.LoopGhost
import Derived.Deep.DeepCutAuto
import Derived.Test.YtdpbllacfljmoaaGreatZF09
import Derived.Lib.MinMax
import Derived.Test.YtdpbllacfljmoaaGreatZF03
set_option maxRecDepth 100000
set_option maxHeartbeats 16000000
set_option linter.unusedVariables false
namespace Go.Proofs.YtdpbllacfljmoaaGreat
open Go.RowKit
theorem qe4 (l : List q47) (A B : Option Addr) (c d : Nat) (w : World) (R T : Nat → Prop) (h1 : DoS w R A c l) (h2 : DoS w T B d l) :
  Calls Tryz.prog 30 #[.slice A l.length c, .slice B l.length d] w fun r w' => r = .returned (.bool true) ∧ Below w.heap.size w w' := by
 have hll : l.length ≤ 9223372036854775807 := by have := h1.1; have := h1.2.1; unfold maxLen at *; omega
 obtain ⟨_, _, _, ms, hms, hr, hok⟩ := h1
 obtain ⟨_, _, _, ns, hns, hr2, hok2⟩ := h2
 have hl1 : ms.length = l.length := by rw [← hms, List.length_map]
 have hl2 : ns.length = l.length := by rw [← hns, List.length_map]
 have HR := qh (hr.rowG mdF)
 have HR2 := qh (hr2.rowG mdF)
 have HO := qh (fun x hx => (show ChI w w.heap.size x.A x.c x.d.reads ∧ ChI w w.heap.size x.B x.e x.d.writes from ⟨(hok x hx).1.ch, (hok x hx).2.ch⟩))
 have HO2 := qh (fun x hx => (show ChI w w.heap.size x.A x.c x.d.reads ∧ ChI w w.heap.size x.B x.e x.d.writes from ⟨(hok2 x hx).1.ch, (hok2 x hx).2.ch⟩))
 have HE : Hid (∀ j (h : j < ms.length) (h' : j < ns.length), (ms[j]).d = (ns[j]).d) := qh fun j h h' => by
  have e1 : (ms.map MD.d)[j]? = (ns.map MD.d)[j]? := by rw [hms, hns]
  rw [List.getElem?_map, List.getElem?_map, List.getElem?_eq_getElem h, List.getElem?_eq_getElem h'] at e1
  simpa using e1
 have HL1 := qh hl1
 have HL2 := qh hl2
 clear hr hr2 hok hok2 hms hns hl1 hl2
 have hnn : ((l.length : Int) != (l.length : Int)) = false := by simp
 go_enter Tryz.func30, Tryz.ntmps30
 go_wp2_with fail
 go_loopg [5, 15] l.length (fun q _ i wr => ∃ j : Nat, j + q = l.length ∧ i = .int .i64 j ∧ Below w.heap.size w wr)
 case atStart => exact ⟨0, by omega, rfl, Below.refl _ _⟩
 case round =>
  obtain ⟨j, hk, rfl, hb⟩ := hrel
  have HJ := qh hk
  have HB := qh hb
  clear hk hb
  by_cases hj : j < l.length
  ·have hlt : decide ((j : Int) < (l.length : Int)) = true := by simpa using hj
   have hlt2 : decide (j < l.length) = true := by simpa using hj
   have hj1 : j < ms.length := by have := HL1.out; omega
   have hj2 : j < ns.length := by have := HL2.out; omega
   obtain ⟨bc, oc, rfl, _, hbc, hc⟩ := (HR.out.below HB.out (Nat.le_refl _)).at_ mdF hj1
   obtain ⟨bd, od, rfl, _, hbd, hd⟩ := (HR2.out.below HB.out (Nat.le_refl _)).at_ mdF hj2
   have he := HE.out j hj1 hj2
   have ho := HO.out _ (List.getElem_mem hj1)
   have ho2 := HO2.out _ (List.getElem_mem hj2)
   generalize ms[j] = x at *
   generalize ns[j] = y at *
   obtain ⟨⟨id, bg, at_, sr, en, rs, ws⟩, xA, xc, xB, xe⟩ := x
   obtain ⟨yd, yA, yc, yB, ye⟩ := y
   simp only at he
   subst he
   simp only at ho ho2
   have d0 := hc 0 _ rfl
   have d1 := hc 1 _ rfl
   have d2 := hc 2 _ rfl
   have d3 := hc 3 _ rfl
   have d4 := hc 4 _ rfl
   have d5 := hc 5 _ rfl
   have d6 := hc 6 _ rfl
   have f0 := hd 0 _ rfl
   have f1 := hd 1 _ rfl
   have f2 := hd 2 _ rfl
   have f3 := hd 3 _ rfl
   have f4 := hd 4 _ rfl
   have f5 := hd 5 _ rfl
   have f6 := hd 6 _ rfl
   simp only [Nat.add_zero] at d0 d1 d2 d3 d4 d5 d6 f0 f1 f2 f3 f4 f5 f6
   have HBC := qh (And.intro hbc hbd)
   clear hc hd hbc hbd
   have hba := (Below.refl _ wr).alloc (Nat.le_refl _) (.cells #[.int .i64 id, .int .u64 bg, .int .u64 at_, .int .i64 sr, .int .i64 en, .slice xA rs.length xc, .slice xB ws.length xe] 104)
   have hx1 := heap_alloc_new wr (.cells #[.int .i64 id, .int .u64 bg, .int .u64 at_, .int .i64 sr, .int .i64 en, .slice xA rs.length xc, .slice xB ws.length xe] 104)
   obtain ⟨w1, hw1⟩ : ∃ y, wr.alloc (.cells #[.int .i64 id, .int .u64 bg, .int .u64 at_, .int .i64 sr, .int .i64 en, .slice xA rs.length xc, .slice xB ws.length xe] 104) = y := ⟨_, rfl⟩
   have HW1 := qh hw1
   rw [hw1] at hba hx1
   have hba2 := (Below.refl _ w1).alloc (Nat.le_refl _) (.cells #[.int .i64 id, .int .u64 bg, .int .u64 at_, .int .i64 sr, .int .i64 en, .slice yA rs.length yc, .slice yB ws.length ye] 104)
   have hx2 := heap_alloc_new w1 (.cells #[.int .i64 id, .int .u64 bg, .int .u64 at_, .int .i64 sr, .int .i64 en, .slice yA rs.length yc, .slice yB ws.length ye] 104)
   obtain ⟨w2, hw2⟩ : ∃ y, w1.alloc (.cells #[.int .i64 id, .int .u64 bg, .int .u64 at_, .int .i64 sr, .int .i64 en, .slice yA rs.length yc, .slice yB ws.length ye] 104) = y := ⟨_, rfl⟩
   have HW2 := qh hw2
   rw [hw2] at hba2 hx2
   have hx12 := q01 hx1 hba2 (q00 hx1)
   have HX1 := qh hx12
   have HX2 := qh hx2
   have HB1 := qh (HB.out.trans (hba.mono HB.out.size))
   have HB2 := qh (HB1.out.trans (hba2.mono HB1.out.size))
   have hfar : ∀ o v, wr.cell? ⟨bd, o, none⟩ = some v → w1.cell? ⟨bd, o, none⟩ = some v := fun o v h => (World.cell?_of_block (a := ⟨bd, o, none⟩) (hba.block bd (by have := HBC.out.2; have := HB.out.size; omega))).trans h
   have HF1 := qh (show w1.cell? ⟨bd, od + j * 7, none⟩ = some (.int .i64 id) ∧ w1.cell? ⟨bd, od + j * 7 + 1, none⟩ = some (.int .u64 bg) ∧ w1.cell? ⟨bd, od + j * 7 + 2, none⟩ = some (.int .u64 at_) ∧ w1.cell? ⟨bd, od + j * 7 + 3, none⟩ = some (.int .i64 sr) ∧ w1.cell? ⟨bd, od + j * 7 + 4, none⟩ = some (.int .i64 en) ∧ w1.cell? ⟨bd, od + j * 7 + 5, none⟩ = some (.slice yA rs.length yc) ∧ w1.cell? ⟨bd, od + j * 7 + 6, none⟩ = some (.slice yB ws.length ye) from ⟨hfar _ _ f0, hfar _ _ f1, hfar _ _ f2, hfar _ _ f3, hfar _ _ f4, hfar _ _ f5, hfar _ _ f6⟩)
   clear f0 f1 f2 f3 f4 f5 f6 hfar
   have HC1 := qh (qe9 (ho.1.below HB2.out (Nat.le_refl _) HB2.out.size) (ho2.1.below HB2.out (Nat.le_refl _) HB2.out.size))
   have HC2 : Hid (∀ W, Below w2.heap.size w2 W → Calls Tryz.prog 72 #[.slice xB ws.length xe, .slice yB ws.length ye] W fun r w' => r = .returned (.bool true) ∧ Below W.heap.size W w') := qh fun W hb => by
    have h := HB2.out.trans (hb.mono HB2.out.size)
    exact qe9 (ho.2.below h (Nat.le_refl _) h.size) (ho2.2.below h (Nat.le_refl _) h.size)
   have k1 : ((id : Int) != (id : Int)) = false := by simp
   clear ho ho2 hba hx1 hw1 hba2 hx2 hw2 hx12
   go_upto_region 6 with fail
   rw [HW1.out]
   clear HW1 d0 d1 d2 d3 d4 d5 d6
   obtain ⟨f0, f1, f2, f3, f4, f5, f6⟩ := HF1.out
   go_upto_region 7 with fail
   rw [HW2.out]
   clear HW2 f0 f1 f2 f3 f4 f5 f6
   obtain ⟨y0, y1, y2, y3, y4, y5, y6⟩ := q4u HX1.out
   obtain ⟨u0, u1, u2, u3, u4, u5, u6⟩ := q4u HX2.out
   go_wp2_with fail
   refine HC1.out.mono ?_
   rintro r w3 ⟨rfl, hb3⟩
   have HB3 := qh hb3
   obtain ⟨y0, y1, y2, y3, y4, y5, y6⟩ := q4u (q01 HX1.out hb3 (q00 HX1.out))
   obtain ⟨u0, u1, u2, u3, u4, u5, u6⟩ := q4u (q01 HX2.out hb3 (q00 HX2.out))
   clear hb3
   go_wp2_with fail
   refine (HC2.out w3 HB3.out).mono ?_
   rintro r w4 ⟨rfl, hb4⟩
   have HB4 := qh (HB2.out.trans ((HB3.out.trans (hb4.mono HB3.out.size)).mono HB2.out.size))
   clear hb4
   go_wp2_with fail
   go_roundg (gk - 1)
   case measure => have := HJ.out; omega
   case rel => exact ⟨j + 1, by have := HJ.out; omega, by go_num, HB4.out⟩
  ·have hlt : decide ((j : Int) < (l.length : Int)) = false := by simpa using hj
   go_wp2_with fail
   go_ret
   exact ⟨rfl, HB.out⟩
open Go.RowKit
theorem q6A (x y : MR) (w : World) (hox : okR x.r) (hoy : okR y.r) (hx : OkMR w w.heap.size x) (hy : OkMR w w.heap.size y) :
  Calls Tryz.prog 69 #[q0u x, q0u y] w fun r w' => r = .returned (.bool (q0y x.r y.r)) ∧ Below w.heap.size w w' := by
 obtain ⟨⟨xf, xl, xb, xo, xr, xw⟩, xA, xc, xB, xd⟩ := x
 obtain ⟨⟨yf, yl, yb, yo, yr, yw⟩, yA, yc, yB, yd⟩ := y
 unfold q0u
 have HX := qh hx
 have HY := qh hy
 have HOX := qh hox
 have HOY := qh hoy
 clear hx hy hox hoy
 simp only at HX HY HOX HOY
 go_enter Tryz.func69, Tryz.ntmps69
 go_upto_region 1 with fail
 obtain ⟨w1, hw1⟩ : ∃ y, (w.alloc (.cells #[.int .u64 xf, .int .u64 xl, .int .u64 xb, .int .u64 xo, .slice xA xr.length xc, .slice xB xw.length xd] 86)).alloc (.cells #[.int .u64 yf, .int .u64 yl, .int .u64 yb, .int .u64 yo, .slice yA yr.length yc, .slice yB yw.length yd] 86) = y := ⟨_, rfl⟩
 rw [hw1]
 have hb1 : Below w.heap.size w w1 := by rw [← hw1]; exact ((Below.refl _ w).alloc (Nat.le_refl _) _).alloc (by simp) _
 have hx1 : w1.heap[w.heap.size]? = some (.cells #[.int .u64 xf, .int .u64 xl, .int .u64 xb, .int .u64 xo, .slice xA xr.length xc, .slice xB xw.length xd] 86 (0, 0)) := by rw [← hw1]; exact q0G (heap_alloc_new w _) _
 have hx2 : w1.heap[w.heap.size + 1]? = some (.cells #[.int .u64 yf, .int .u64 yl, .int .u64 yb, .int .u64 yo, .slice yA yr.length yc, .slice yB yw.length yd] 86 (0, 0)) := by rw [← hw1]; exact q23 w _ _
 clear hw1
 have HB1 := qh hb1
 have HCl := qh (fun (W : World) (h : Below w1.heap.size w1 W) => And.intro (q0O (q01 hx1 h (q00 hx1))) (q0O (q01 hx2 h (q00 hx2))))
 have HXr := qh (HX.out.reads.below hb1 (Nat.le_refl _) hb1.size)
 have HXw := qh (HX.out.writes.below hb1 (Nat.le_refl _) hb1.size)
 have HYr := qh (HY.out.reads.below hb1 (Nat.le_refl _) hb1.size)
 have HYw := qh (HY.out.writes.below hb1 (Nat.le_refl _) hb1.size)
 have HN1 := qh (q3I xr yr xA yA xc yc w1 (by have := HOX.out.1; simp only at this; omega) (by have := HOY.out.1; simp only at this; omega) HXr.out.2.2.2 HYr.out.2.2.2)
 have HN2 := qh (fun (W : World) (h : Below w1.heap.size w1 W) => q3I xw yw xB yB xd yd W (by have := HOX.out.2; simp only at this; omega) (by have := HOY.out.2; simp only at this; omega) (HXw.out.below h (Nat.le_refl _) h.size).2.2.2 (HYw.out.below h (Nat.le_refl _) h.size).2.2.2)
 clear hb1 hx1 hx2 HOX HOY HX HY HXr HXw HYr HYw
 obtain ⟨⟨z0, z1, z2, z3, z4, z5⟩, ⟨y0, y1, y2, y3, y4, y5⟩⟩ := HCl.out _ (Below.refl _ _)
 by_cases g0 : xf = yf
 case neg =>
  have d0 : (((xf : Int)) == (yf : Int)) = false := by rw [beq_eq_false_iff_ne]; omega
  have HF := qh (show q0y ⟨xf, xl, xb, xo, xr, xw⟩ ⟨yf, yl, yb, yo, yr, yw⟩ = false by simp [q0y, g0])
  clear g0 HN1 HN2
  go_wp2_with fail
  go_ret
  rw [HF.out]
  exact ⟨rfl, HB1.out⟩
 have d0 : (((xf : Int)) == (yf : Int)) = true := by rw [beq_iff_eq]; omega
 by_cases g1 : xl = yl
 case neg =>
  have d1 : (((xl : Int)) == (yl : Int)) = false := by rw [beq_eq_false_iff_ne]; omega
  have HF := qh (show q0y ⟨xf, xl, xb, xo, xr, xw⟩ ⟨yf, yl, yb, yo, yr, yw⟩ = false by simp [q0y, g1])
  clear g1 HN1 HN2
  go_wp2_with fail
  go_ret
  rw [HF.out]
  exact ⟨rfl, HB1.out⟩
 have d1 : (((xl : Int)) == (yl : Int)) = true := by rw [beq_iff_eq]; omega
 by_cases g2 : xb = yb
 case neg =>
  have d2 : (((xb : Int)) == (yb : Int)) = false := by rw [beq_eq_false_iff_ne]; omega
  have HF := qh (show q0y ⟨xf, xl, xb, xo, xr, xw⟩ ⟨yf, yl, yb, yo, yr, yw⟩ = false by simp [q0y, g2])
  clear g2 HN1 HN2
  go_wp2_with fail
  go_ret
  rw [HF.out]
  exact ⟨rfl, HB1.out⟩
 have d2 : (((xb : Int)) == (yb : Int)) = true := by rw [beq_iff_eq]; omega
 by_cases g3 : xo = yo
 case neg =>
  have d3 : (((xo : Int)) == (yo : Int)) = false := by rw [beq_eq_false_iff_ne]; omega
  have HF := qh (show q0y ⟨xf, xl, xb, xo, xr, xw⟩ ⟨yf, yl, yb, yo, yr, yw⟩ = false by simp [q0y, g3])
  clear g3 HN1 HN2
  go_wp2_with fail
  go_ret
  rw [HF.out]
  exact ⟨rfl, HB1.out⟩
 have d3 : (((xo : Int)) == (yo : Int)) = true := by rw [beq_iff_eq]; omega
 have HRt := qh (show q0y ⟨xf, xl, xb, xo, xr, xw⟩ ⟨yf, yl, yb, yo, yr, yw⟩ = (q4J xr yr && q4J xw yw) by simp [q0y, q4J, g0, g1, g2, g3])
 clear g0 g1 g2 g3
 go_wp2_with fail
 refine HN1.out.mono ?_
 rintro r w2 ⟨rfl, hb2⟩
 clear z0 z1 z2 z3 z4 z5 y0 y1 y2 y3 y4 y5 HN1
 obtain ⟨⟨z0, z1, z2, z3, z4, z5⟩, ⟨y0, y1, y2, y3, y4, y5⟩⟩ := HCl.out _ hb2
 have HN := qh (HN2.out w2 hb2)
 have HB2 := qh (HB1.out.trans (hb2.mono HB1.out.size))
 clear hb2 HN2
 cases q : q4J xr yr with
 | false =>
  have HF := qh (show q0y ⟨xf, xl, xb, xo, xr, xw⟩ ⟨yf, yl, yb, yo, yr, yw⟩ = false by rw [HRt.out, q]; rfl)
  go_wp2_with fail
  go_ret
  rw [HF.out]
  exact ⟨rfl, HB2.out⟩
 | true =>
  go_wp2_with fail
  refine HN.out.mono ?_
  rintro r w3 ⟨rfl, hb3⟩
  have HF := qh (show q0y ⟨xf, xl, xb, xo, xr, xw⟩ ⟨yf, yl, yb, yo, yr, yw⟩ = q4J xw yw by rw [HRt.out, q]; rfl)
  have HB3 := qh (HB2.out.trans (hb3.mono HB2.out.size))
  clear hb3
  cases q2 : q4J xw yw
  all_goals
   go_wp2_with fail
   go_ret
   rw [HF.out, q2]
   exact ⟨rfl, HB3.out⟩
open Go.RowKit
theorem qe7 {a b : List RecS} (h : a.length ≠ b.length) : q9e a b = false := by
 unfold q9e
 rw [decide_eq_false_iff_not]
 intro e
 exact h (by rw [e])
theorem qfq {a b : List RecS} {j : Nat} (h1 : j < a.length) (h2 : j < b.length) (h : q0y (a[j]'h1) (b[j]'h2) = false) : q9e a b = false := by
 unfold q9e
 rw [decide_eq_false_iff_not]
 intro e
 subst e
 simp [q0y] at h
theorem qcd {a b : List RecS} {j : Nat} (h1 : j < a.length) (h2 : j < b.length) (h0 : a.take j = b.take j) (h : q0y (a[j]'h1) (b[j]'h2) = true) : a.take (j + 1) = b.take (j + 1) := by
 rw [List.take_succ_eq_append_getElem h1, List.take_succ_eq_append_getElem h2, h0]
 simp only [q0y, decide_eq_true_eq] at h
 rw [h]
theorem qe6 {a b : List RecS} {j : Nat} (hl : a.length = b.length) (hj : j = b.length) (h0 : a.take j = b.take j) : q9e a b = true := by
 subst hj
 rw [List.take_length, ← hl, List.take_length] at h0
 unfold q9e
 rw [decide_eq_true_iff]
 exact h0
theorem q98 (a b : List RecS) (A B : Option Addr) (c d : Nat) (w : World) (ha : okRs a) (hb : okRs b) (h1 : ChR w w.heap.size A c a) (h2 : ChR w w.heap.size B d b) :
    Calls Tryz.prog 28 #[.slice A a.length c, .slice B b.length d] w fun r w' => r = .returned (.bool (q9e a b)) ∧ Below w.heap.size w w' := by
  have hla := h1.len
  have hlb := h2.len
  by_cases hlen : a.length = b.length
  · have HR := qh h1
    have HS := qh h2
    have HOA := qh ha
    have HOB := qh hb
    have HLen := qh hlen
    rw [hlen]
    clear h1 h2 ha hb hla hlen
    go_enter Tryz.func28, Tryz.ntmps28
    go_wp2
    go_loopg [5, 13] b.length (fun q _ i wr => ∃ j : Nat, j + q = b.length ∧ i = .int .i64 j ∧ a.take j = b.take j ∧ Below w.heap.size w wr)
    case atStart => exact ⟨0, by omega, rfl, rfl, Below.refl _ _⟩
    case round =>
      obtain ⟨j, hk, rfl, hall, hb⟩ := hrel
      obtain ⟨wo, hwo⟩ : ∃ y, y = wr := ⟨_, rfl⟩
      subst hwo
      have HK := qh hk
      have HA := qh hall
      have HB := qh hb
      clear hall hb hk
      by_cases hjm : j < b.length
      · have hlt : decide ((j : Int) < (b.length : Int)) = true := by simpa using hjm
        have hlt3 : decide (j < b.length) = true := by simpa using hjm
        have hj : j < a.length := by rw [HLen.out]; exact hjm
        obtain ⟨bx, ox, rfl, hbx, x, ex, okx, c0, c1, c2, c3, c4, c5⟩ := (HR.out.below HB.out (Nat.le_refl _) HB.out.size).2.2.2.at_ hj
        obtain ⟨by_, oy, rfl, hby, y, ey, oky, d0, d1, d2, d3, d4, d5⟩ := (HS.out.below HB.out (Nat.le_refl _) HB.out.size).2.2.2.at_ hjm
        have HT := qh (fun h : q0y x.r y.r = true => qcd hj hjm HA.out (by rw [← ex, ← ey]; exact h))
        have HNo := qh (fun h : q0y x.r y.r = false => qfq hj hjm (by rw [← ex, ← ey]; exact h))
        have hox : okR x.r := by rw [ex]; exact HOA.out.mem (List.getElem_mem hj)
        have hoy : okR y.r := by rw [ey]; exact HOB.out.mem (List.getElem_mem hjm)
        have HEq := qh (fun (W : World) (h : Below wo.heap.size wo W) => (q6A x y W hox hoy (okx.below h (Nat.le_refl _) h.size) (oky.below h (Nat.le_refl _) h.size)).mono fun r w' (q : r = .returned (.bool (q0y x.r y.r)) ∧ Below W.heap.size W w') => (⟨q.1, h.trans (q.2.mono h.size)⟩ : r = .returned (.bool (q0y x.r y.r)) ∧ Below wo.heap.size wo w'))
        clear hox hoy okx oky ex ey
        generalize hE : q0y x.r y.r = E at *
        obtain ⟨⟨xf, xl, xb, xo, xr, xw⟩, xA, xc, xB, xd⟩ := x
        obtain ⟨⟨yf, yl, yb, yo, yr, yw⟩, yA, yc, yB, yd⟩ := y
        unfold q0u at HEq
        simp only at c0 c1 c2 c3 c4 c5 d0 d1 d2 d3 d4 d5 HEq
        have HCl := qh (fun (W : World) (h : Below wo.heap.size wo W) => And.intro ((h.cell (p := ⟨bx, ox + j * 6, none⟩) hbx).trans c0) (And.intro ((h.cell (p := ⟨bx, ox + j * 6 + 1, none⟩) hbx).trans c1) (And.intro ((h.cell (p := ⟨bx, ox + j * 6 + 2, none⟩) hbx).trans c2) (And.intro ((h.cell (p := ⟨bx, ox + j * 6 + 3, none⟩) hbx).trans c3) (And.intro ((h.cell (p := ⟨bx, ox + j * 6 + 4, none⟩) hbx).trans c4) (And.intro ((h.cell (p := ⟨bx, ox + j * 6 + 5, none⟩) hbx).trans c5)
          (And.intro ((h.cell (p := ⟨by_, oy + j * 6, none⟩) hby).trans d0) (And.intro ((h.cell (p := ⟨by_, oy + j * 6 + 1, none⟩) hby).trans d1) (And.intro ((h.cell (p := ⟨by_, oy + j * 6 + 2, none⟩) hby).trans d2) (And.intro ((h.cell (p := ⟨by_, oy + j * 6 + 3, none⟩) hby).trans d3) (And.intro ((h.cell (p := ⟨by_, oy + j * 6 + 4, none⟩) hby).trans d4) ((h.cell (p := ⟨by_, oy + j * 6 + 5, none⟩) hby).trans d5))))))))))))
        clear c0 c1 c2 c3 c4 c5 d0 d1 d2 d3 d4 d5 hbx hby
        go_wp2
        cases E with
        | false =>
          have HF := qh (HNo.out rfl)
          clear HNo HT hE
          refine q04 (C := fun W => Below wo.heap.size wo W) (by kernel_rfl) (by kernel_rfl) ((Below.refl _ _).drew) ?_
          repeat (
            refine no_implicit_lambda% (wpQuiet_step ?_)
            intro K hK
            go_simp
            first
            | (refine no_implicit_lambda% (hK _ ?_); clear hK K)
            | (apply Exists.intro
               refine ⟨fun _ => ?_, hK _ ?_⟩
               (first
                   | (intro hw; with_reducible exact HEq.out _ hw)
                   | (intro hw; obtain ⟨z0, z1, z2, z3, z4, z5, z6, z7, z8, z9, z10, z11⟩ := HCl.out _ hw; go_simp; with_reducible exact ⟨rfl, rfl⟩)
                   | (intro hw; obtain ⟨z0, z1, z2, z3, z4, z5, z6, z7, z8, z9, z10, z11⟩ := HCl.out _ hw; go_simp; with_reducible rfl)
                   | (intro _; with_reducible rfl)
                   | (intro hw; go_simp; with_reducible exact ⟨rfl, rfl⟩)
                   | (intro hw; go_simp; with_reducible exact rfl))
               clear hK K))
          refine wpQuiet_nil ?_
          intro w8 hb8
          have HB8 := qh (HB.out.trans (hb8.mono HB.out.size))
          clear hb8
          go_wp2_with fail
          go_ret
          rw [HF.out]
          exact ⟨rfl, HB8.out⟩
        | true =>
          have HF := qh (HT.out rfl)
          clear HNo HT hE
          refine q04 (C := fun W => Below wo.heap.size wo W) (by kernel_rfl) (by kernel_rfl) ((Below.refl _ _).drew) ?_
          repeat (
            refine no_implicit_lambda% (wpQuiet_step ?_)
            intro K hK
            go_simp
            first
            | (refine no_implicit_lambda% (hK _ ?_); clear hK K)
            | (apply Exists.intro
               refine ⟨fun _ => ?_, hK _ ?_⟩
               (first
                   | (intro hw; with_reducible exact HEq.out _ hw)
                   | (intro hw; obtain ⟨z0, z1, z2, z3, z4, z5, z6, z7, z8, z9, z10, z11⟩ := HCl.out _ hw; go_simp; with_reducible exact ⟨rfl, rfl⟩)
                   | (intro hw; obtain ⟨z0, z1, z2, z3, z4, z5, z6, z7, z8, z9, z10, z11⟩ := HCl.out _ hw; go_simp; with_reducible rfl)
                   | (intro _; with_reducible rfl)
                   | (intro hw; go_simp; with_reducible exact ⟨rfl, rfl⟩)
                   | (intro hw; go_simp; with_reducible exact rfl))
               clear hK K))
          refine wpQuiet_nil ?_
          intro w8 hb8
          have HB8 := qh (HB.out.trans (hb8.mono HB.out.size))
          clear hb8
          go_wp2_with fail
          go_roundg (gk - 1)
          case measure => have := HK.out; omega
          case rel => exact ⟨j + 1, by have := HK.out; omega, by go_num, HF.out, HB8.out⟩
      · have hj' : j = b.length := by have := HK.out; omega
        have hlt : decide ((j : Int) < (b.length : Int)) = false := by simpa using hjm
        have HF := qh (qe6 HLen.out hj' HA.out)
        clear hj'
        go_wp2
        go_ret
        rw [HF.out]
        exact ⟨rfl, HB.out⟩
  · have hle : ((a.length : Int) == (b.length : Int)) = false := by rw [beq_eq_false_iff_ne]; omega
    have hle2 : ((a.length : Int) != (b.length : Int)) = true := by rw [bne, hle]; rfl
    rw [qe7 hlen]
    clear hlen h1 h2 ha hb
    go_enter Tryz.func28, Tryz.ntmps28
    go_wp2
    go_ret
    exact ⟨rfl, Below.refl _ _⟩
end Go.Proofs.YtdpbllacfljmoaaGreat
