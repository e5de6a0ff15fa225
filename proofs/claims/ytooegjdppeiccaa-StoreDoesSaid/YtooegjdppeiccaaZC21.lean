import Derived.Test.YtooegjdppeiccaaZC20
/-
  Stores, the document's own answers: put.
-/
namespace Go.Proofs.Ytooegjdppeiccaa
open Go.RowKit

theorem oneInfo : InfoG Try.prog 98 2 40 := InfoG.of (by kernel_rfl)
theorem string_gtrJ (a b : List UInt8) (t : TypeId) : binOp .gtr t (.string (bs a)) (.string (bs b)) = pure (.bool (blt b a)) := by
  have h : binOp .gtr t (.string (bs a)) (.string (bs b)) = pure (.bool !(Op.bytesLess (bs a).toList (bs b).toList || (bs a).toList == (bs b).toList)) := by simp [binOp, Op.stringOp]
  rw [h, bs_less, bs_same]
  rcases blt_tri a b with g | g | g
  · have g2 := blt_asymm g
    rw [g2]
    simp [show Op.bytesLess a b = true from g]
  · subst g
    rw [blt_self]
    simp
  · have g2 := blt_asymm g
    have g3 := beq_neB fun e => blt_ne g e.symm
    rw [g, g3]
    simp [show Op.bytesLess a b = false from g2]
def midM (x : MOne) : List MOne := if x.ms.length = 0 then [] else [x]
def putM (os : List MOne) (x : MOne) : List MOne := os.filter (fun y => blt y.key x.key) ++ midM x ++ os.filter (fun y => blt x.key y.key)
theorem filter_yes {α : Type} {f : α → Bool} {l : List α} {j : Nat} (hj : j < l.length) (h : f l[j] = true) : (l.take (j + 1)).filter f = (l.take j).filter f ++ [l[j]] := by
  rw [List.take_succ_eq_append_getElem hj, List.filter_append, List.filter_cons_of_pos h, List.filter_nil]
theorem filter_no {α : Type} {f : α → Bool} {l : List α} {j : Nat} (hj : j < l.length) (h : f l[j] = false) : (l.take (j + 1)).filter f = (l.take j).filter f := by
  rw [List.take_succ_eq_append_getElem hj, List.filter_append, List.filter_cons_of_neg (by rw [h]; exact Bool.false_ne_true), List.filter_nil, List.append_nil]
theorem filter_len {α : Type} (f : α → Bool) (l : List α) (j : Nat) : ((l.take j).filter f).length ≤ l.length := Nat.le_trans (List.length_filter_le _ _) (by rw [List.length_take]; omega)
set_option maxRecDepth 100000 in
set_option maxHeartbeats 8000000 in
theorem refPutOne_any (os : List MOne) (A : Option Addr) (c hi : Nat) (x : MOne) (w : World) (hl : os.length ≤ 2097152) (hr : RowG oneCells w 0 hi A os) (hhi : hi ≤ w.heap.size) :
    Calls Try.prog 94 #[.slice A os.length c, .agg #[.string (bs x.key), .slice x.A x.ms.length x.c]] w fun e w' => ∃ A' c', e = .returned (.slice A' (putM os x).length c') ∧ (putM os x).length ≤ c' ∧ c' ≤ maxLen ∧ (A' = none → c' = 0) ∧
      RowG oneCells w' w.heap.size w'.heap.size A' (putM os x) ∧ Below w.heap.size w w' := by
  obtain ⟨xk, xA, xc, xm⟩ := x
  unfold putM
  simp only
  obtain ⟨M, hM⟩ : ∃ l, midM ⟨xk, xA, xc, xm⟩ = l := ⟨_, rfl⟩
  obtain ⟨F1, hF1⟩ : ∃ l, os.filter (fun y => blt y.key xk) = l := ⟨_, rfl⟩
  obtain ⟨G1, hG1⟩ : ∃ l, os.filter (fun y => blt xk y.key) = l := ⟨_, rfl⟩
  rw [hM, hF1, hG1]
  have HLf : Hid (F1.length ≤ 2097152) := Lib.hid (by rw [← hF1]; exact Nat.le_trans (List.length_filter_le _ _) hl)
  have HM := Lib.hid hM
  have HF1 := Lib.hid hF1
  have HG1 := Lib.hid hG1
  clear hM hF1 hG1
  obtain ⟨w0, hw0⟩ : ∃ y, w.alloc (.cells #[.string (bs xk), .slice xA xm.length xc] 98) = y := ⟨_, rfl⟩
  obtain ⟨w1, hw1⟩ : ∃ y, w0.alloc (.cells #[] 98) = y := ⟨_, rfl⟩
  have s0 : w0.heap.size = w.heap.size + 1 := by rw [← hw0]; simp
  have b0 : Below w.heap.size w w0 := by rw [← hw0]; exact (Below.refl _ w).alloc (Nat.le_refl _) _
  have b1 : Below w0.heap.size w0 w1 := by rw [← hw1]; exact (Below.refl _ w0).alloc (Nat.le_refl _) _
  have hx0 : w0.heap[w.heap.size]? = some (.cells #[.string (bs xk), .slice xA xm.length xc] 98 (0, 0)) := by rw [← hw0]; exact heap_alloc_new w _
  have ho1 : OwnG 98 2 oneCells w1 w0.heap.size (.slice (some ⟨w0.heap.size, 0, none⟩) 0 0) ([] : List MOne) := by rw [← hw1]; exact OwnG.made w0 _ _ _
  have hr0 : RowG oneCells w0 0 hi A os := hr.below b0 hhi
  have HR := Lib.hid hr0
  have HX := Lib.hid hx0
  have HB0 := Lib.hid b0
  have HB1 := Lib.hid b1
  have HO1 := Lib.hid ho1
  have HW0 := Lib.hid hw0
  have HW1 := Lib.hid hw1
  have HHi := Lib.hid (show hi ≤ w0.heap.size by omega)
  have HS0 := Lib.hid s0
  clear hr hw0 hw1 s0 b0 b1 hx0 ho1 hr0 hhi
  go_enter Try.func94, Try.ntmps94
  go_upto_region 1 with fail
  rw [HW0.out]
  clear HW0
  go_upto_region 2 with fail
  rw [HW1.out]
  clear HW1
  go_wp2_with fail
  go_loopg [5, 13] os.length (fun q vo i wr => ∃ j : Nat, j + q = os.length ∧ i = .int .i64 j ∧ OwnG 98 2 oneCells wr w0.heap.size vo ((os.take j).filter (fun y => blt y.key xk)) ∧ Below w0.heap.size w0 wr)
  case atStart => exact ⟨0, by omega, rfl, HO1.out, HB1.out⟩
  case round =>
    obtain ⟨j, hk, rfl, ho, hb⟩ := hrel
    have HK := Lib.hid hk
    have HO := Lib.hid ho
    have HB := Lib.hid hb
    clear hk ho hb
    by_cases hj : j < os.length
    · have hlt : decide ((j : Int) < (os.length : Int)) = true := by simpa using hj
      have hlt2 : decide (j < os.length) = true := by simpa using hj
      obtain ⟨b, o, rfl, _, hbh, hcell⟩ := (HR.out.below HB.out HHi.out).at_ oneF hj
      have d0 := hcell 0 _ rfl
      have d1 := hcell 1 _ rfl
      simp only [Nat.add_zero] at d0
      have HYes := Lib.hid (filter_yes (f := fun y : MOne => blt y.key xk) hj)
      have HNo := Lib.hid (filter_no (f := fun y : MOne => blt y.key xk) hj)
      have HLn := Lib.hid (filter_len (fun y : MOne => blt y.key xk) os j)
      have HSZ := Lib.hid HB.out.size
      clear hcell hbh
      generalize os[j] = y at *
      obtain ⟨yk, yA, yc, ym⟩ := y
      simp only at d0 d1 HYes HNo
      have hxb := heap_allocs (heap_below HX.out HB.out (lt_of_heap HX.out)) (.cells #[.string (bs yk), .slice yA ym.length yc] 98)
      have e0 := cell_of_row _ _ 0 _ _ _ hxb
      clear hxb
      cases hq : blt yk xk with
      | true =>
        have q := (show Op.bytesLess (bs yk).toList (bs xk).toList = blt yk xk by rw [bs_less])
        rw [hq] at q
        have HTk := Lib.hid (HYes.out hq)
        clear HYes HNo hq
        go_wp2_with (at_builtin; refine append_row _ rfl _ _ 34 98 40 oneF oneInfo Try.underlying34 rfl w0.heap.size _ ((os.take j).filter (fun y => blt y.key xk)) rfl ((HO.out.allocs _).allocs _) (wr.heap.size + 1) (wr.heap.size + 1 + 1) (some ⟨wr.heap.size + 1, 0, none⟩) 1 1 [⟨yk, yA, yc, ym⟩] rfl rfl (fun e => by cases e) (RowG.one (cs := oneCells) (heap_new2 wr _ _)) (by have e8 := HLn.out; simp only [List.length_singleton]; unfold maxLen; omega) (by have e8 := HLn.out; simp only [List.length_singleton]; omega) (by have := HSZ.out; simp; omega) ?_; intro v1 w5 ho5 hg5; have HO5 := Lib.hid ho5; have HB5 := Lib.hid (((HB.out.alloc HSZ.out (.cells #[.string (bs yk), .slice yA ym.length yc] 98)).alloc (by have := HSZ.out; simp; omega) (.cells #[.string (bs yk), .slice yA ym.length yc] 98)).grown hg5 (by have := HSZ.out; simp; omega) (fun k hk => (HO.out.lt k hk).1)); clear ho5 hg5)
        go_roundg (gk - 1)
        case measure => have := HK.out; omega
        case rel => exact ⟨j + 1, by have := HK.out; omega, by go_num, by rw [HTk.out]; exact HO5.out, HB5.out⟩
      | false =>
        have q := (show Op.bytesLess (bs yk).toList (bs xk).toList = blt yk xk by rw [bs_less])
        rw [hq] at q
        have HTk := Lib.hid (HNo.out hq)
        clear HYes HNo hq
        go_wp2_with fail
        go_roundg (gk - 1)
        case measure => have := HK.out; omega
        case rel => exact ⟨j + 1, by have := HK.out; omega, by go_num, by rw [HTk.out]; exact HO.out.allocs _, HB.out.alloc HSZ.out _⟩
    · have hj' : j = os.length := by have := HK.out; omega
      subst hj'
      have hlt : decide ((os.length : Int) < (os.length : Int)) = false := by simp
      have hlt2 : decide (os.length < os.length) = false := by simp
      rw [List.take_length] at HO
      have HX1 := Lib.hid (heap_below HX.out HB.out (lt_of_heap HX.out))
      have c0 := cell_of_row _ _ 0 _ _ _ HX1.out
      have c1 := cell_of_row _ _ 1 _ _ _ HX1.out
      rw [HF1.out] at HO
      have HSZ := Lib.hid HB.out.size
      by_cases hm : xm.length = 0
      · have hM0 : M = [] := by rw [← HM.out]; unfold midM; rw [if_pos hm]
        have hgt : decide ((0 : Int) < (xm.length : Int)) = false := by rw [decide_eq_false_iff_not]; omega
        have hgt2 : decide (0 < xm.length) = false := by rw [decide_eq_false_iff_not]; omega
        clear hm
        go_wp2_with fail
        subst hM0
        have HP1 := Lib.hid (show F1.length + ([] : List MOne).length ≤ 2097153 by have := HLf.out; simp only [List.length_nil]; omega)
        have HO1b := HO
        rw [← List.append_nil F1] at HO1b
        have HB1b := HB
        clear HO HB
        go_loopg [5, 37] os.length (fun q vo i wr => ∃ j : Nat, j + q = os.length ∧ i = .int .i64 j ∧ OwnG 98 2 oneCells wr w0.heap.size vo ((F1 ++ []) ++ (os.take j).filter (fun y => blt xk y.key)) ∧ Below w0.heap.size w0 wr)
        case atStart => exact ⟨0, by omega, rfl, (by rw [List.take_zero, List.filter_nil, List.append_nil]; exact HO1b.out), HB1b.out⟩
        case round =>
          obtain ⟨j, hk, rfl, ho, hb⟩ := hrel
          have HK := Lib.hid hk
          have HO := Lib.hid ho
          have HB := Lib.hid hb
          clear hk ho hb
          by_cases hj : j < os.length
          · have hlt : decide ((j : Int) < (os.length : Int)) = true := by simpa using hj
            have hlt2 : decide (j < os.length) = true := by simpa using hj
            obtain ⟨b, o, rfl, _, hbh, hcell⟩ := (HR.out.below HB.out HHi.out).at_ oneF hj
            have d0 := hcell 0 _ rfl
            have d1 := hcell 1 _ rfl
            simp only [Nat.add_zero] at d0
            have HYes := Lib.hid (filter_yes (f := fun y : MOne => blt xk y.key) hj)
            have HNo := Lib.hid (filter_no (f := fun y : MOne => blt xk y.key) hj)
            have HLn := Lib.hid (filter_len (fun y : MOne => blt xk y.key) os j)
            have HSZ := Lib.hid HB.out.size
            clear hcell hbh
            generalize os[j] = y at *
            obtain ⟨yk, yA, yc, ym⟩ := y
            simp only at d0 d1 HYes HNo
            have hxb := heap_allocs (heap_below HX.out HB.out (lt_of_heap HX.out)) (.cells #[.string (bs yk), .slice yA ym.length yc] 98)
            have e0 := cell_of_row _ _ 0 _ _ _ hxb
            clear hxb
            cases hq : blt xk yk with
            | true =>
              have q := string_gtrJ yk xk
              rw [hq] at q
              have HTk := Lib.hid (HYes.out hq)
              clear HYes HNo hq
              go_wp2_with (at_builtin; refine append_row _ rfl _ _ 34 98 40 oneF oneInfo Try.underlying34 rfl w0.heap.size _ ((F1 ++ []) ++ (os.take j).filter (fun y => blt xk y.key)) rfl ((HO.out.allocs _).allocs _) (wr.heap.size + 1) (wr.heap.size + 1 + 1) (some ⟨wr.heap.size + 1, 0, none⟩) 1 1 [⟨yk, yA, yc, ym⟩] rfl rfl (fun e => by cases e) (RowG.one (cs := oneCells) (heap_new2 wr _ _)) (by have e8 := HLn.out; have e9 := HP1.out; simp only [List.length_singleton, List.length_append]; unfold maxLen; omega) (by have e8 := HLn.out; have e9 := HP1.out; simp only [List.length_singleton, List.length_append]; omega) (by have := HSZ.out; simp; omega) ?_; intro v1 w5 ho5 hg5; have HO5 := Lib.hid ho5; have HB5 := Lib.hid (((HB.out.alloc HSZ.out (.cells #[.string (bs yk), .slice yA ym.length yc] 98)).alloc (by have := HSZ.out; simp; omega) (.cells #[.string (bs yk), .slice yA ym.length yc] 98)).grown hg5 (by have := HSZ.out; simp; omega) (fun k hk => (HO.out.lt k hk).1)); clear ho5 hg5)
              go_roundg (gk - 1)
              case measure => have := HK.out; omega
              case rel => exact ⟨j + 1, by have := HK.out; omega, by go_num, by rw [HTk.out, ← List.append_assoc]; exact HO5.out, HB5.out⟩
            | false =>
              have q := string_gtrJ yk xk
              rw [hq] at q
              have HTk := Lib.hid (HNo.out hq)
              clear HYes HNo hq
              go_wp2_with fail
              go_roundg (gk - 1)
              case measure => have := HK.out; omega
              case rel => exact ⟨j + 1, by have := HK.out; omega, by go_num, by rw [HTk.out]; exact HO.out.allocs _, HB.out.alloc HSZ.out _⟩
          · have hj' : j = os.length := by have := HK.out; omega
            subst hj'
            have hlt : decide ((os.length : Int) < (os.length : Int)) = false := by simp
            have hlt2 : decide (os.length < os.length) = false := by simp
            rw [List.take_length] at HO
            rw [HG1.out] at HO
            obtain ⟨A9, c9, rfl, k1, k2, k3, k4⟩ := HO.out.form
            have HQ := Lib.hid (And.intro k1 (And.intro k2 (And.intro k3 (k4.wide (show w.heap.size ≤ w0.heap.size by have := HS0.out; omega) (Nat.le_refl _)))))
            clear k1 k2 k3 k4
            go_wp2
            go_ret
            exact ⟨A9, c9, rfl, HQ.out.1, HQ.out.2.1, HQ.out.2.2.1, HQ.out.2.2.2, HB0.out.trans (HB.out.mono HB0.out.size)⟩
      · have hM0 : M = [⟨xk, xA, xc, xm⟩] := by rw [← HM.out]; unfold midM; rw [if_neg hm]
        have HM0 := Lib.hid hM0
        clear hM0
        have hgt : decide ((0 : Int) < (xm.length : Int)) = true := by rw [decide_eq_true_iff]; omega
        have hgt2 : decide (0 < xm.length) = true := by rw [decide_eq_true_iff]; omega
        clear hm
        go_wp2_with (at_builtin; refine append_row _ rfl _ _ 34 98 40 oneF oneInfo Try.underlying34 rfl w0.heap.size _ F1 rfl (HO.out.allocs _) wr.heap.size (wr.heap.size + 1) (some ⟨wr.heap.size, 0, none⟩) 1 1 [⟨xk, xA, xc, xm⟩] rfl rfl (fun e => by cases e) (RowG.one (cs := oneCells) (heap_alloc_new wr _)) (by have := HLf.out; simp only [List.length_singleton]; unfold maxLen; omega) (by have := HLf.out; simp only [List.length_singleton]; omega) (by have := HSZ.out; simp; omega) ?_; intro v1 w5 ho5 hg5; have HO5 := Lib.hid ho5; have HB5 := Lib.hid ((HB.out.alloc HSZ.out (.cells #[.string (bs xk), .slice xA xm.length xc] 98)).grown hg5 (by have := HSZ.out; simp; omega) (fun k hk => (HO.out.lt k hk).1)); clear ho5 hg5)
        rw [← HM0.out] at HO5
        have HP1 := Lib.hid (show F1.length + M.length ≤ 2097153 by have := HLf.out; rw [HM0.out]; simp only [List.length_singleton]; omega)
        have HO1b := HO5
        have HB1b := HB5
        clear HO HB HO5 HB5
        go_loopg [5, 37] os.length (fun q vo i wr => ∃ j : Nat, j + q = os.length ∧ i = .int .i64 j ∧ OwnG 98 2 oneCells wr w0.heap.size vo ((F1 ++ M) ++ (os.take j).filter (fun y => blt xk y.key)) ∧ Below w0.heap.size w0 wr)
        case atStart => exact ⟨0, by omega, rfl, (by rw [List.take_zero, List.filter_nil, List.append_nil]; exact HO1b.out), HB1b.out⟩
        case round =>
          obtain ⟨j, hk, rfl, ho, hb⟩ := hrel
          have HK := Lib.hid hk
          have HO := Lib.hid ho
          have HB := Lib.hid hb
          clear hk ho hb
          by_cases hj : j < os.length
          · have hlt : decide ((j : Int) < (os.length : Int)) = true := by simpa using hj
            have hlt2 : decide (j < os.length) = true := by simpa using hj
            obtain ⟨b, o, rfl, _, hbh, hcell⟩ := (HR.out.below HB.out HHi.out).at_ oneF hj
            have d0 := hcell 0 _ rfl
            have d1 := hcell 1 _ rfl
            simp only [Nat.add_zero] at d0
            have HYes := Lib.hid (filter_yes (f := fun y : MOne => blt xk y.key) hj)
            have HNo := Lib.hid (filter_no (f := fun y : MOne => blt xk y.key) hj)
            have HLn := Lib.hid (filter_len (fun y : MOne => blt xk y.key) os j)
            have HSZ := Lib.hid HB.out.size
            clear hcell hbh
            generalize os[j] = y at *
            obtain ⟨yk, yA, yc, ym⟩ := y
            simp only at d0 d1 HYes HNo
            have hxb := heap_allocs (heap_below HX.out HB.out (lt_of_heap HX.out)) (.cells #[.string (bs yk), .slice yA ym.length yc] 98)
            have e0 := cell_of_row _ _ 0 _ _ _ hxb
            clear hxb
            cases hq : blt xk yk with
            | true =>
              have q := string_gtrJ yk xk
              rw [hq] at q
              have HTk := Lib.hid (HYes.out hq)
              clear HYes HNo hq
              go_wp2_with (at_builtin; refine append_row _ rfl _ _ 34 98 40 oneF oneInfo Try.underlying34 rfl w0.heap.size _ ((F1 ++ M) ++ (os.take j).filter (fun y => blt xk y.key)) rfl ((HO.out.allocs _).allocs _) (wr.heap.size + 1) (wr.heap.size + 1 + 1) (some ⟨wr.heap.size + 1, 0, none⟩) 1 1 [⟨yk, yA, yc, ym⟩] rfl rfl (fun e => by cases e) (RowG.one (cs := oneCells) (heap_new2 wr _ _)) (by have e8 := HLn.out; have e9 := HP1.out; simp only [List.length_singleton, List.length_append]; unfold maxLen; omega) (by have e8 := HLn.out; have e9 := HP1.out; simp only [List.length_singleton, List.length_append]; omega) (by have := HSZ.out; simp; omega) ?_; intro v1 w5 ho5 hg5; have HO5 := Lib.hid ho5; have HB5 := Lib.hid (((HB.out.alloc HSZ.out (.cells #[.string (bs yk), .slice yA ym.length yc] 98)).alloc (by have := HSZ.out; simp; omega) (.cells #[.string (bs yk), .slice yA ym.length yc] 98)).grown hg5 (by have := HSZ.out; simp; omega) (fun k hk => (HO.out.lt k hk).1)); clear ho5 hg5)
              go_roundg (gk - 1)
              case measure => have := HK.out; omega
              case rel => exact ⟨j + 1, by have := HK.out; omega, by go_num, by rw [HTk.out, ← List.append_assoc]; exact HO5.out, HB5.out⟩
            | false =>
              have q := string_gtrJ yk xk
              rw [hq] at q
              have HTk := Lib.hid (HNo.out hq)
              clear HYes HNo hq
              go_wp2_with fail
              go_roundg (gk - 1)
              case measure => have := HK.out; omega
              case rel => exact ⟨j + 1, by have := HK.out; omega, by go_num, by rw [HTk.out]; exact HO.out.allocs _, HB.out.alloc HSZ.out _⟩
          · have hj' : j = os.length := by have := HK.out; omega
            subst hj'
            have hlt : decide ((os.length : Int) < (os.length : Int)) = false := by simp
            have hlt2 : decide (os.length < os.length) = false := by simp
            rw [List.take_length] at HO
            rw [HG1.out] at HO
            obtain ⟨A9, c9, rfl, k1, k2, k3, k4⟩ := HO.out.form
            have HQ := Lib.hid (And.intro k1 (And.intro k2 (And.intro k3 (k4.wide (show w.heap.size ≤ w0.heap.size by have := HS0.out; omega) (Nat.le_refl _)))))
            clear k1 k2 k3 k4
            go_wp2
            go_ret
            exact ⟨A9, c9, rfl, HQ.out.1, HQ.out.2.1, HQ.out.2.2.1, HQ.out.2.2.2, HB0.out.trans (HB.out.mono HB0.out.size)⟩
end Go.Proofs.Ytooegjdppeiccaa
