import Derived.Test.YtfdiidhilonkoaaZC38
set_option linter.unusedVariables false
/-
  The statements on orders: do some stand in a ring?
-/
namespace Go.Proofs.Ytfdiidhilonkoaa
open Go.RowKit

def nextL (left : List MZ) (i : Nat) : List MZ := ((List.range i).filter (heldV (dz left))).filterMap fun k => left[k]?
def heldTo (left : List MZ) (i k : Nat) : Bool := (List.range k).any fun x => x != i && edgeD (atD (dz left) x) (atD (dz left) i)
theorem heldTo_all (left : List MZ) (i : Nat) : heldTo left i left.length = heldV (dz left) i := by
  unfold heldTo heldV
  rw [dz_len]
theorem heldTo_next (left : List MZ) (i k : Nat) : heldTo left i (k + 1) = (heldTo left i k || (k != i && edgeD (atD (dz left) k) (atD (dz left) i))) := by
  unfold heldTo
  rw [List.range_succ, List.any_append]
  simp
theorem nextL_yes {left : List MZ} {i : Nat} (hi : i < left.length) (h : heldV (dz left) i = true) : nextL left (i + 1) = nextL left i ++ [left[i]'hi] := by
  unfold nextL
  rw [List.range_succ, List.filter_append, List.filterMap_append]
  congr 1
  simp [h, List.getElem?_eq_getElem hi]
theorem nextL_no {left : List MZ} {i : Nat} (h : heldV (dz left) i = false) : nextL left (i + 1) = nextL left i := by
  unfold nextL
  rw [List.range_succ, List.filter_append, List.filterMap_append]
  simp [h]
theorem nextL_in {left : List MZ} {i : Nat} : ∀ x ∈ nextL left i, x ∈ left := fun x hx => by
  unfold nextL at hx
  obtain ⟨k, _, e⟩ := List.mem_filterMap.1 hx
  exact List.mem_of_getElem? e
theorem nextL_len {left : List MZ} : ∀ i, (nextL left i).length ≤ i := fun i => by
  unfold nextL
  refine Nat.le_trans (List.length_filterMap_le ..) (Nat.le_trans (List.length_filter_le ..) ?_)
  rw [List.length_range]
  exact Nat.le_refl _
theorem dz_next {left : List MZ} : dz (nextL left left.length) = ringV (dz left) := by
  have h : ∀ j, j ≤ left.length → dz (nextL left j) = ((List.range j).filter (heldV (dz left))).map (atD (dz left)) := by
    intro j
    induction j with
    | zero => intro _; simp [nextL, dz]
    | succ j ih =>
      intro hj
      have hj' : j < left.length := by omega
      rw [List.range_succ, List.filter_append, List.map_append, ← ih (by omega)]
      cases hh : heldV (dz left) j with
      | true =>
        rw [nextL_yes hj' hh]
        unfold dz
        rw [List.map_append]
        congr 1
        have := dz_at hj'
        unfold dz at this hh
        simp [hh, this]
      | false =>
        rw [nextL_no hh]
        simp [hh]
  have := h left.length (Nat.le_refl _)
  unfold ringV
  rw [dz_len]
  exact this
set_option maxRecDepth 100000 in
set_option maxHeartbeats 16000000 in
theorem ringO_any (K : SpanC) (ms : List MZ) (A : Option Addr) (c : Nat) (w : World) (hr : ChZ w w.heap.size A c ms) (hf : ∀ x ∈ ms, fewMZ x) (hl : ms.length ≤ 1000) :
    Calls Try.prog 16 #[.slice A ms.length c] w fun r w' => r = .returned (.bool (ringB (dz ms))) ∧ Below w.heap.size w w' := by
  have q9 : (ms.length : Int) ≤ 1000 := by omega
  have hnil := hr.2.2.1
  have HNil := Lib.hid hnil
  have HG := Lib.hid hr.2.2.2.1
  have HR := Lib.hid hr
  have HFw := Lib.hid hf
  have HK := Lib.hid K
  have HI := Lib.hid mzInfo
  clear hr hf hnil K
  go_enter Try.func16, Try.ntmps16
  go_wp2_with (at_builtin; refine append_row _ rfl _ _ 22 29 88 mzF HI.out Try.underlying22 rfl w.heap.size _ [] rfl (OwnG.made w 29 7 mzCells) 0 w.heap.size A ms.length c ms rfl rfl HNil.out (HG.out.below ((Below.refl _ _).alloc (Nat.le_refl _) _) (Nat.le_refl _)) (by simp only [List.length_nil]; unfold maxLen; omega) (by simp only [List.length_nil]; omega) (by simp) ?_; intro v1 w1 ho1 hg1; have HO1 := Lib.hid ho1; have HB1 := Lib.hid (OwnG.grown_below ((Below.refl w.heap.size w).alloc (Nat.le_refl _) (.cells #[] 29)) (OwnG.made w 29 7 mzCells) hg1 (Nat.le_refl _) (by simp)); clear ho1 hg1)
  go_loopg [3, 15] ms.length (fun q v iv wr => ∃ (j : Nat) (left : List MZ), j + q = ms.length ∧ iv = .int .i64 (j : Nat) ∧ OwnG 29 7 mzCells wr w.heap.size v left ∧ ringVT ms.length (dz ms) = ringVT q (dz left) ∧ (∀ x ∈ left, x ∈ ms) ∧ left.length ≤ ms.length ∧ Below w.heap.size w wr)
  case atStart => exact ⟨0, ms, by omega, rfl, by simpa using HO1.out, rfl, (fun _ h => h), Nat.le_refl _, HB1.out⟩
  case round =>
    obtain ⟨j, left, hj, rfl, hOwn, hRg, hsub, hll, hb⟩ := hrel
    obtain ⟨g0, hg0⟩ : ∃ y, y = gk := ⟨_, rfl⟩
    subst hg0
    obtain ⟨wo, hwo⟩ : ∃ y, y = wr := ⟨_, rfl⟩
    subst hwo
    obtain ⟨A3, c3, rfl, ha1, ha2, ha3, ha4⟩ := hOwn.form
    have HJ := Lib.hid hj
    have HOw := Lib.hid hOwn
    have HRow := Lib.hid ha4
    have HRg := Lib.hid hRg
    have HSub := Lib.hid hsub
    have HB := Lib.hid hb
    clear hj hOwn ha1 ha2 ha3 ha4 hRg hsub hb HO1
    by_cases hjn : j < ms.length
    · have hlt : decide ((j : Int) < (ms.length : Int)) = true := by simpa using hjn
      have hlt2 : decide (j < ms.length) = true := by simpa using hjn
      have HJn := Lib.hid hjn
      have q5 : (j : Int) < (ms.length : Int) := by omega
      clear hjn
      go_wp2_with fail
      go_loopg [4, 19] left.length (fun q v iv wr => ∃ i : Nat, i + q = left.length ∧ iv = .int .i64 (i : Nat) ∧ OwnG 29 7 mzCells wr wo.heap.size v (nextL left i) ∧ Below wo.heap.size wo wr)
      case atStart => exact ⟨0, by omega, rfl, OwnG.none_ _ _ _ _ _, Below.refl _ _⟩
      case round =>
        obtain ⟨i, hi, rfl, hOn, hb2⟩ := hrel
        obtain ⟨g1, hg1⟩ : ∃ y, y = gk := ⟨_, rfl⟩
        subst hg1
        obtain ⟨wi, hwi⟩ : ∃ y, y = wr := ⟨_, rfl⟩
        subst hwi
        obtain ⟨A4, c4, rfl, hb1, hb2', hb3, hb4⟩ := hOn.form
        obtain ⟨m4, hm4⟩ : ∃ m4, m4 = (nextL left i).length := ⟨_, rfl⟩
        rw [← hm4] at hOn
        rw [← hm4]
        have HM4 := Lib.hid (show m4 ≤ ms.length by rw [hm4]; exact Nat.le_trans (nextL_len i) (by omega))
        have HM4e := Lib.hid hm4
        have HIq := Lib.hid hi
        have HOn := Lib.hid hOn
        have HB2 := Lib.hid hb2
        clear hi hOn hb2 hb1 hb2' hb3 hb4 hm4
        by_cases hin : i < left.length
        · have hlt3 : decide ((i : Int) < (left.length : Int)) = true := by simpa using hin
          have hlt4 : decide (i < left.length) = true := by simpa using hin
          have q7 : (i : Int) < (left.length : Int) := by omega
          obtain ⟨b, o, rfl, _, hbl, hc⟩ := (HRow.out.below HB2.out (Nat.le_refl _)).at_ mzF hin
          have hs : SevenAt wi b (o + i * 7) (left[i]'hin) := hc
          have hmem := HSub.out _ (List.getElem_mem hin)
          have hfy := HFw.out _ hmem
          have hoy := (HR.out.below (HB.out.trans (HB2.out.mono HB.out.size)) (Nat.le_refl _) (HB.out.trans (HB2.out.mono HB.out.size)).size).2.2.2.2 _ hmem
          have HYes := Lib.hid (fun q => nextL_yes (left := left) hin q)
          have HAt := Lib.hid (dz_at hin)
          obtain ⟨z0, z1, z2, z3, z4, z5, z6⟩ := hs.all
          clear hc hs hbl hmem
          generalize left[i]'hin = y at *
          clear hin
          obtain ⟨⟨yi, yb, ya, ys, ye, yr, yw⟩, yA, yc, yB, yd⟩ := y
          simp only at z0 z1 z2 z3 z4 z5 z6 HAt
          obtain ⟨wt, hwt⟩ : ∃ u, wi.alloc (.cells #[.int .i64 yi, .int .u64 yb, .int .u64 ya, .int .i64 ys, .int .i64 ye, .slice yA yr.length yc, .slice yB yw.length yd] 29) = u := ⟨_, rfl⟩
          have hbt1 : Below wi.heap.size wi wt := by rw [← hwt]; exact (Below.refl _ _).alloc (Nat.le_refl _) _
          have hnt : wt.heap[wi.heap.size]? = some (.cells #[.int .i64 yi, .int .u64 yb, .int .u64 ya, .int .i64 ys, .int .i64 ye, .slice yA yr.length yc, .slice yB yw.length yd] 29 (0, 0)) := by rw [← hwt]; exact heap_alloc_new wi _
          have HBx := Lib.hid (fun (W : World) (h : Below wt.heap.size wt W) => heap_below hnt h (lt_of_heap hnt))
          have HBt1 := Lib.hid hbt1
          have HOy := Lib.hid (hoy.below hbt1 (Nat.le_refl _) hbt1.size)
          have HFy := Lib.hid hfy
          have HWt := Lib.hid hwt
          have HSz := Lib.hid (show wi.heap.size < wt.heap.size from lt_of_heap hnt)
          clear hbt1 hnt hwt hoy hfy
          go_upto_region 8 with fail
          rw [HWt.out]
          clear HWt z0 z1 z2 z3 z4 z5 z6
          go_wp2_with fail
          go_loopg [7, 26] left.length (fun q hv kv wr => ∃ k : Nat, k + q = left.length ∧ kv = .int .i64 (k : Nat) ∧ hv = .bool (heldTo left i k) ∧ Below wt.heap.size wt wr)
          case atStart => exact ⟨0, by omega, rfl, rfl, Below.refl _ _⟩
          case round =>
            obtain ⟨k, hk, rfl, rfl, hb3⟩ := hrel
            obtain ⟨wk, hwk⟩ : ∃ u, u = wr := ⟨_, rfl⟩
            subst hwk
            have HKq := Lib.hid hk
            have HB3 := Lib.hid hb3
            clear hk hb3
            by_cases hkn : k < left.length
            · have hlt5 : decide ((k : Int) < (left.length : Int)) = true := by simpa using hkn
              have hlt6 : decide (k < left.length) = true := by simpa using hkn
              have q8 : (k : Int) < (left.length : Int) := by omega
              obtain ⟨b2, o2, e2, _, hbl, hc⟩ := (HRow.out.below (HB2.out.trans ((HBt1.out.trans (HB3.out.mono HBt1.out.size)).mono HB2.out.size)) (Nat.le_refl _)).at_ mzF hkn
              injection e2 with e2
              injection e2 with e3 e4
              subst e3 e4
              have hs : SevenAt wk b (o + k * 7) (left[k]'hkn) := hc
              have hmem := HSub.out _ (List.getElem_mem hkn)
              have hfx := HFw.out _ hmem
              have hbk := HB.out.trans ((HB2.out.trans ((HBt1.out.trans (HB3.out.mono HBt1.out.size)).mono HB2.out.size)).mono HB.out.size)
              have hox := (HR.out.below hbk (Nat.le_refl _) hbk.size).2.2.2.2 _ hmem
              have HNx := Lib.hid (show heldTo left i (k + 1) = (heldTo left i k || (k != i && edgeD (left[k]'hkn).d ⟨yi, yb, ya, ys, ye, yr, yw⟩)) by rw [heldTo_next, dz_at hkn, HAt.out])
              obtain ⟨z0, z1, z2, z3, z4, z5, z6⟩ := hs.all
              clear hc hs hbl hmem hbk
              generalize left[k]'hkn = x at *
              clear hkn
              obtain ⟨⟨xi, xb, xa, xs, xe, xr, xw⟩, xA, xc, xB, xd⟩ := x
              simp only at z0 z1 z2 z3 z4 z5 z6 HNx
              obtain ⟨wu, hwu⟩ : ∃ u, wk.alloc (.cells #[.int .i64 xi, .int .u64 xb, .int .u64 xa, .int .i64 xs, .int .i64 xe, .slice xA xr.length xc, .slice xB xw.length xd] 29) = u := ⟨_, rfl⟩
              have hbu1 : Below wk.heap.size wk wu := by rw [← hwu]; exact (Below.refl _ _).alloc (Nat.le_refl _) _
              have hnu : wu.heap[wk.heap.size]? = some (.cells #[.int .i64 xi, .int .u64 xb, .int .u64 xa, .int .i64 xs, .int .i64 xe, .slice xA xr.length xc, .slice xB xw.length xd] 29 (0, 0)) := by rw [← hwu]; exact heap_alloc_new wk _
              have hBu := HB3.out.trans (hbu1.mono HB3.out.size)
              have HBu := Lib.hid hBu
              have u7 := seven_of hnu
              have v7 := seven_of (HBx.out wu hBu)
              have hE := dEdge_any HK.out ⟨⟨xi, xb, xa, xs, xe, xr, xw⟩, xA, xc, xB, xd⟩ ⟨⟨yi, yb, ya, ys, ye, yr, yw⟩, yA, yc, yB, yd⟩ wu hfx HFy.out (hox.below hbu1 (Nat.le_refl _) hbu1.size) (HOy.out.below hBu (Nat.le_refl _) hBu.size)
              unfold mzVal at hE
              simp only at hE
              have HE := Lib.hid hE
              have HWu := Lib.hid hwu
              clear hbu1 hnu hBu hwu hox hfx hE
              generalize edgeD ⟨xi, xb, xa, xs, xe, xr, xw⟩ ⟨yi, yb, ya, ys, ye, yr, yw⟩ = ev at *
              generalize hho : heldTo left i k = ho at *
              clear hho
              go_upto_region 12 with fail
              rw [HWu.out]
              clear HWu z0 z1 z2 z3 z4 z5 z6
              obtain ⟨z0, z1, z2, z3, z4, z5, z6⟩ := u7
              obtain ⟨y0, y1, y2, y3, y4, y5, y6⟩ := v7
              cases ho with
              | true =>
                have HG2 := Lib.hid (show heldTo left i (k + 1) = true by rw [HNx.out]; rfl)
                by_cases hki : k = i
                · have e1 : ((k : Int) != (i : Int)) = false := by rw [bne_eq_false_iff_eq]; omega
                  clear hki
                  go_wp2_with fail
                  go_roundg (gk - 1)
                  case measure => have := HKq.out; omega
                  case rel => exact ⟨k + 1, by have := HKq.out; omega, by go_num, by rw [HG2.out], HBu.out⟩
                · have e1 : ((k : Int) != (i : Int)) = true := by rw [bne_iff_ne]; omega
                  clear hki
                  go_wp2_with fail
                  go_roundg (gk - 1)
                  case measure => have := HKq.out; omega
                  case rel => exact ⟨k + 1, by have := HKq.out; omega, by go_num, by rw [HG2.out], HBu.out⟩
              | false =>
                by_cases hki : k = i
                · have e1 : ((k : Int) != (i : Int)) = false := by rw [bne_eq_false_iff_eq]; omega
                  have HG2 := Lib.hid (show heldTo left i (k + 1) = false by rw [HNx.out, hki]; simp)
                  clear hki
                  go_wp2_with fail
                  go_roundg (gk - 1)
                  case measure => have := HKq.out; omega
                  case rel => exact ⟨k + 1, by have := HKq.out; omega, by go_num, by rw [HG2.out], HBu.out⟩
                · have e1 : ((k : Int) != (i : Int)) = true := by rw [bne_iff_ne]; omega
                  have HG2 := Lib.hid (show heldTo left i (k + 1) = ev by rw [HNx.out]; simp [hki])
                  clear hki
                  go_wp2_with fail
                  (with_reducible refine HE.out.mono ?_)
                  rintro r w8 ⟨rfl, hb8⟩
                  have HB8 := Lib.hid (HBu.out.trans (hb8.mono HBu.out.size))
                  clear hb8 HE
                  go_wp2_with fail
                  go_roundg (gk - 1)
                  case measure => have := HKq.out; omega
                  case rel => exact ⟨k + 1, by have := HKq.out; omega, by go_num, by rw [HG2.out], HB8.out⟩
            · have hlt5 : decide ((k : Int) < (left.length : Int)) = false := by simpa using hkn
              have hlt6 : decide (k < left.length) = false := by simpa using hkn
              obtain rfl : k = left.length := by have := HKq.out; omega
              have HHeld := Lib.hid (heldTo_all left i)
              clear hkn
              have HBw := Lib.hid (HBt1.out.trans (HB3.out.mono HBt1.out.size))
              have hO9 := HOn.out.below HBw.out
              have HO9 := Lib.hid hO9
              obtain ⟨z0, z1, z2, z3, z4, z5, z6⟩ := seven_of (HBx.out wk HB3.out)
              generalize heldTo left i left.length = hv at *
              cases hv with
              | false =>
                have HG2 := Lib.hid (nextL_no (left := left) (i := i) HHeld.out.symm)
                clear hO9
                go_wp2_with fail
                go_roundg (g1 - 1)
                case measure => have := HIq.out; omega
                case rel => exact ⟨i + 1, by have := HIq.out; omega, by go_num, by rw [HG2.out]; exact HO9.out, HB2.out.trans (HBw.out.mono HB2.out.size)⟩
              | true =>
                have HG2 := Lib.hid (HYes.out HHeld.out.symm)
                have HSw := Lib.hid HBw.out.size
                clear hO9
                go_wp2_with (at_builtin; refine append_row _ rfl _ _ 22 29 88 mzF HI.out Try.underlying22 rfl wo.heap.size _ (nextL left i) rfl (HO9.out.allocs _) wk.heap.size (wk.heap.size + 1) (some ⟨wk.heap.size, 0, none⟩) 1 1 [⟨⟨yi, yb, ya, ys, ye, yr, yw⟩, yA, yc, yB, yd⟩] rfl rfl (fun e => by cases e) (RowG.one (cs := mzCells) (heap_alloc_new wk _)) (by have := HM4.out; have := HM4e.out; simp only [List.length_singleton]; unfold maxLen; omega) (by have := HM4.out; have := HM4e.out; simp only [List.length_singleton]; omega) (by have := HSw.out; have := HB2.out.size; simp; omega) ?_; intro v8 w8 ho8 hg8; have HO8 := Lib.hid ho8; have HG8 := Lib.hid hg8; clear ho8 hg8)
                have HB8 := Lib.hid (OwnG.grown_below ((HB2.out.trans (HBw.out.mono HB2.out.size)).alloc (Nat.le_trans HB2.out.size HSw.out) (.cells #[.int .i64 yi, .int .u64 yb, .int .u64 ya, .int .i64 ys, .int .i64 ye, .slice yA yr.length yc, .slice yB yw.length yd] 29)) (HO9.out.allocs _) HG8.out (Nat.le_refl _) (by have := HSw.out; have := HB2.out.size; simp; omega))
                go_roundg (g1 - 1)
                case measure => have := HIq.out; omega
                case rel => exact ⟨i + 1, by have := HIq.out; omega, by go_num, by rw [HG2.out]; exact HO8.out, HB8.out⟩
        · have hlt3 : decide ((i : Int) < (left.length : Int)) = false := by simpa using hin
          have hlt4 : decide (i < left.length) = false := by simpa using hin
          obtain rfl : i = left.length := by have := HIq.out; omega
          obtain ⟨g9, hg9⟩ : ∃ g9, g0 = g9 + 1 := ⟨g0 - 1, by have := HJ.out; have := HJn.out; omega⟩
          have HG2 := Lib.hid (show ringVT ms.length (dz ms) = ringVT (g0 - 1) (dz (nextL left left.length)) by
            rw [HRg.out, hg9, dz_next]
            rfl)
          have HG9 := Lib.hid hg9
          clear hin hg9
          go_wp2_with fail
          go_roundg (g0 - 1)
          case measure => have := HG9.out; omega
          case rel => exact ⟨j + 1, nextL left left.length, by have := HJ.out; have := HG9.out; omega, by go_num, HOn.out.keep (fun _ _ _ => rfl) HB.out.size, HG2.out, fun x hx => HSub.out x (nextL_in x hx), Nat.le_trans (nextL_len _) hll, HB.out.trans (HB2.out.mono HB.out.size)⟩
    · have hlt : decide ((j : Int) < (ms.length : Int)) = false := by simpa using hjn
      have hlt2 : decide (j < ms.length) = false := by simpa using hjn
      have HRes := Lib.hid (show decide (0 < left.length) = ringB (dz ms) by
        have h1 : g0 = 0 := by have := HJ.out; omega
        have h2 := ringV_is (dz ms)
        rw [dz_len, HRg.out, h1] at h2
        rw [← h2]
        show _ = decide (0 < (dz left).length)
        rw [dz_len])
      clear hjn
      by_cases h0 : 0 < left.length
      · have d1 : decide ((left.length : Int) > 0) = true := by rw [decide_eq_true_iff]; omega
        have d2 : decide (0 < left.length) = true := by rw [decide_eq_true_iff]; omega
        have HRes2 := Lib.hid (show ringB (dz ms) = true by rw [← HRes.out]; exact d2)
        go_wp2_with fail
        go_ret
        rw [HRes2.out]
        exact ⟨rfl, HB.out⟩
      · have d1 : decide ((left.length : Int) > 0) = false := by rw [decide_eq_false_iff_not]; omega
        have d2 : decide (0 < left.length) = false := by rw [decide_eq_false_iff_not]; omega
        have HRes2 := Lib.hid (show ringB (dz ms) = false by rw [← HRes.out]; exact d2)
        go_wp2_with fail
        go_ret
        rw [HRes2.out]
        exact ⟨rfl, HB.out⟩
end Go.Proofs.Ytfdiidhilonkoaa

/-
  The walk of OrderRight.
-/
namespace Go.Proofs.Ytfdiidhilonkoaa.orderRight
open Go.RowKit

set_option maxRecDepth 100000 in
set_option maxHeartbeats 16000000 in
theorem walk (K : SpanC) (ms : List MZ) (A : Option Addr) (c : Nat) (w : World) (hlen : ms.length ≤ maxLen) (hr : ChZ w w.heap.size A c ms) :
    Calls Try.prog 5 #[.slice A ms.length c] w fun r w' => r = .returned (.bool true) ∧ Below w.heap.size w w' := by
  have hlen2 : ms.length ≤ 9223372036854775807 := by unfold maxLen at hlen; omega
  have q9 : (ms.length : Int) ≤ 9223372036854775807 := by omega
  have HK := Lib.hid K
  have HR := Lib.hid hr
  have HL := Lib.hid (fun (W : World) => liveO_any K W)
  have HFw := Lib.hid (fun (W : World) (hW : Below w.heap.size w W) => fewZ_any ms A c W hlen2 (HR.out.below hW (Nat.le_refl _) hW.size))
  have HO := Lib.hid (fun (W : World) (hW : Below w.heap.size w W) (hf : ∀ x ∈ ms, fewMZ x) (hl : ms.length ≤ 1000) => dOrder_any K ms A c W (HR.out.below hW (Nat.le_refl _) hW.size) hf hl)
  have HFy := Lib.hid (fun (q : fewZ ms = true) => fewZ_yes q)
  clear hr K hlen
  have HRi := Lib.hid (fun (W : World) (hW : Below w.heap.size w W) (hf : ∀ x ∈ ms, fewMZ x) (hl : ms.length ≤ 1000) => ringO_any HK.out ms A c W (HR.out.below hW (Nat.le_refl _) hW.size) hf hl)
  have HRt := Lib.hid (fun (W : World) (hW : Below w.heap.size w W) (hf : ∀ x ∈ ms, fewMZ x) (hl : ms.length ≤ 1000) (l : List Nat) (B : Option Addr) (d : Nat) (hp : RowG inZ W 0 W.heap.size B (outZ l)) (hl2 : (outZ l).length ≤ 9223372036854775807) => dRight_any HK.out ms A c (outZ l) B d W (HR.out.below hW (Nat.le_refl _) hW.size) hf hl hp hl2)
  clear HK
  generalize fewZ ms = fw at *
  go_enter Try.func5, Try.ntmps5
  go_wp2_with fail
  (with_reducible refine (HL.out w).mono ?_)
  rintro r w1 ⟨rfl, hb1⟩
  have HB1 := Lib.hid hb1
  have HC := Lib.hid (HFw.out w1 hb1)
  clear hb1
  go_wp2_with fail
  (with_reducible refine HC.out.mono ?_)
  rintro r w2 ⟨rfl, hb2⟩
  have HB2 := Lib.hid (HB1.out.trans (hb2.mono HB1.out.size))
  clear hb2 HC
  cases fw with
  | false =>
    go_wp2_with fail
    (with_reducible refine (HL.out w2).mono ?_)
    rintro r w3 ⟨rfl, hb3⟩
    have HB3 := Lib.hid (HB2.out.trans (hb3.mono HB2.out.size))
    clear hb3
    go_wp2_with fail
    go_ret
    exact ⟨rfl, HB3.out⟩
  | true =>
    obtain ⟨hf, hl⟩ := HFy.out rfl
    have HC1 := Lib.hid (HO.out w2 HB2.out hf (by omega))
    have HC2 := Lib.hid (fun W hW => HRi.out W hW hf (by omega))
    have HC3 := Lib.hid (fun W hW => HRt.out W hW hf (by omega))
    clear hf hl HO HRi HRt
    cases hol : orderL (dz ms) with
    | none =>
      have HRg := Lib.hid (none_ring hol)
      rw [hol] at HC1
      rw [none_ring hol] at HC2
      clear hol HC3
      go_wp2_with fail
      (with_reducible refine HC1.out.mono ?_)
      rintro r w3 h3
      obtain ⟨rfl, hb3⟩ := h3.none_
      have HB3 := Lib.hid (HB2.out.trans (hb3.mono HB2.out.size))
      have HC4 := Lib.hid (HC2.out w3 HB3.out)
      clear hb3 h3
      go_wp2_with fail
      (with_reducible refine HC4.out.mono ?_)
      rintro r w4 ⟨rfl, hb4⟩
      have HB4 := Lib.hid (HB3.out.trans (hb4.mono HB3.out.size))
      clear hb4
      go_wp2_with fail
      go_ret
      exact ⟨rfl, HB4.out⟩
    | some l =>
      have HRz := Lib.hid (show RightZ (dz ms) (outZ l) from (order_right hol).z)
      rw [hol] at HC1
      rw [no_ring (order_right hol)] at HC2
      clear hol
      go_wp2_with fail
      (with_reducible refine HC1.out.mono ?_)
      rintro r w3 h3
      obtain ⟨A3, c3, rfl, k1, k2, k3, k4, hb3⟩ := h3.some_
      have HB3 := Lib.hid (HB2.out.trans (hb3.mono HB2.out.size))
      have h5 := HC3.out w3 HB3.out l A3 c3 k4 (by rw [outZ_len]; unfold maxLen at k2; omega)
      rw [outZ_len] at h5
      have HC5 := Lib.hid h5
      clear hb3 h3 k1 k2 k3 k4 h5
      go_wp2_with fail
      (with_reducible refine HC5.out.mono ?_)
      rintro r w4 ⟨b, rfl, hbt, hb4⟩
      obtain rfl : b = true := hbt.2 HRz.out
      have HB4 := Lib.hid (HB3.out.trans (hb4.mono HB3.out.size))
      have HC6 := Lib.hid (HC2.out w4 HB4.out)
      clear hb4 hbt
      go_wp2_with fail
      (with_reducible refine HC6.out.mono ?_)
      rintro r w5 ⟨rfl, hb5⟩
      have HB5 := Lib.hid (HB4.out.trans (hb5.mono HB4.out.size))
      clear hb5
      go_wp2_with fail
      go_ret
      exact ⟨rfl, HB5.out⟩
end Go.Proofs.Ytfdiidhilonkoaa.orderRight
