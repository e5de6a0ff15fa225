import Derived.Test.YtjkmodfbbiojmaaZC16
import Derived.Deep.LoopGhost
/-
  Records: the statements' own helpers: right; the chapter's examples.
-/
namespace Go.Proofs.Ytjkmodfbbiojmaa
open Go.RowKit

theorem right_take {l : List RecS} {j : Nat} (hj : j < l.length) (h : (l.take j).all rightR = true) (h2 : rightR (l[j]'hj) = true) : (l.take (j + 1)).all rightR = true := by
  rw [List.take_succ_eq_append_getElem hj, List.all_append, h]
  simp [h2]
theorem right_no {l : List RecS} {j : Nat} (hj : j < l.length) (h : rightR (l[j]'hj) = false) : l.all rightR = false := by
  rw [List.all_eq_false]
  exact ⟨_, List.getElem_mem hj, by rw [h]; simp⟩
set_option maxRecDepth 100000 in
set_option maxHeartbeats 8000000 in
theorem rightAll_any (l : List RecS) (A : Option Addr) (c : Nat) (w : World) (ho : okRs l) (hl : ChR w w.heap.size A c l) :
    Calls Try.prog 19 #[.slice A l.length c] w fun r w' => r = .returned (.bool (l.all rightR)) ∧ Below w.heap.size w w' := by
  have hll := hl.len
  have HR := Lib.hid hl
  have HO := Lib.hid ho
  clear hl ho
  go_enter Try.func19, Try.ntmps19
  go_wp2
  go_loopg [7] l.length (fun q i wr => ∃ j : Nat, j + q = l.length ∧ i = .int .i64 j ∧ (l.take j).all rightR = true ∧ Below w.heap.size w wr)
  case atStart => exact ⟨0, by omega, rfl, rfl, Below.refl _ _⟩
  case round =>
    obtain ⟨j, hk, rfl, hall, hb⟩ := hrel
    have HK := Lib.hid hk
    have HA := Lib.hid hall
    have HB := Lib.hid hb
    clear hall hb hk
    by_cases hj : j < l.length
    · have hlt : decide ((j : Int) < (l.length : Int)) = true := by simpa using hj
      have hlt3 : decide (j < l.length) = true := by simpa using hj
      obtain ⟨b, o, rfl, hbl, x, hx, hok, c0, c1, c2, c3, c4, c5⟩ := (HR.out.below HB.out (Nat.le_refl _) HB.out.size).2.2.2.at_ hj
      have hox : okR x.r := by rw [hx]; exact HO.out.mem (List.getElem_mem hj)
      have HT := Lib.hid (fun h : rightR x.r = true => right_take hj HA.out (by rw [← hx]; exact h))
      have HNo := Lib.hid (fun h : rightR x.r = false => right_no hj (by rw [← hx]; exact h))
      obtain ⟨wo, hwo⟩ : ∃ y, y = wr := ⟨_, rfl⟩
      subst hwo
      have hC := fun (W : World) (h : Below wo.heap.size wo W) => refRightM_any x W hox (hok.below h (Nat.le_refl _) h.size)
      clear hx hok hox
      generalize hq : rightR x.r = q at *
      obtain ⟨⟨xf, xl, xb, xo, xr, xw⟩, xA, xc, xB, xd⟩ := x
      unfold recVal at hC
      simp only at c0 c1 c2 c3 c4 c5 hC
      have HC := Lib.hid hC
      clear hC hq
      go_upto_region 4 with fail
      clear c0 c1 c2 c3 c4 c5 hbl
      obtain ⟨w1, hw1⟩ : ∃ y, wo.alloc (.cells #[.int .u64 xf, .int .u64 xl, .int .u64 xb, .int .u64 xo, .slice xA xr.length xc, .slice xB xw.length xd] 29) = y := ⟨_, rfl⟩
      rw [hw1]
      have hb1 : Below wo.heap.size wo w1 := by rw [← hw1]; exact (Below.refl _ wo).alloc (Nat.le_refl _) _
      have hx1 : w1.heap[wo.heap.size]? = some (.cells #[.int .u64 xf, .int .u64 xl, .int .u64 xb, .int .u64 xo, .slice xA xr.length xc, .slice xB xw.length xd] 29 (0, 0)) := by rw [← hw1]; exact heap_alloc_new wo _
      clear hw1
      obtain ⟨z0, z1, z2, z3, z4, z5⟩ := six_of hx1
      have HC1 := Lib.hid (HC.out w1 hb1)
      have HB1 := Lib.hid (HB.out.trans (hb1.mono HB.out.size))
      clear hb1 hx1 HC
      go_wp2_with fail
      refine HC1.out.mono ?_
      rintro r w2 ⟨rfl, hb2⟩
      have HB2 := Lib.hid (HB1.out.trans (hb2.mono HB1.out.size))
      clear hb2 z0 z1 z2 z3 z4 z5 HC1
      cases q with
      | false =>
        have HF := Lib.hid (HNo.out rfl)
        go_wp2_with fail
        go_ret
        rw [HF.out]
        exact ⟨rfl, HB2.out⟩
      | true =>
        have HF := Lib.hid (HT.out rfl)
        go_wp2_with fail
        go_roundg (gk - 1)
        case measure => have := HK.out; omega
        case rel => exact ⟨j + 1, by have := HK.out; omega, by go_num, HF.out, HB2.out⟩
    · have hj' : j = l.length := by have := HK.out; omega
      have hlt : decide ((j : Int) < (l.length : Int)) = false := by simpa using hj
      have hlt2 : decide (j < l.length) = false := by simpa using hj
      have HF := Lib.hid (show l.all rightR = true from by have h := HA.out; rwa [hj', List.take_length] at h)
      clear hj'
      go_wp2_with fail
      go_ret
      rw [HF.out]
      exact ⟨rfl, HB.out⟩
/-- The stretch of a key, in a list. -/
def atS (k : List UInt8) : List Sp := [⟨k, k ++ [0]⟩]
set_option maxRecDepth 100000 in
set_option maxHeartbeats 4000000 in
theorem at_any (k : List UInt8) (w : World) (hk : k.length ≤ 1000000) : Calls Try.prog 23 #[.string (bs k)] w fun r w' => ∃ A, r = .returned (.slice A 1 1) ∧ ChI w' w'.heap.size A 1 (atS k) ∧ Below w.heap.size w w' := by
  have HP := Lib.hid (refPointI_any k w hk)
  unfold spVal at HP
  simp only at HP
  go_enter Try.func23, Try.ntmps23
  go_wp2_with fail
  refine HP.out.mono ?_
  rintro r w1 ⟨rfl, hb1⟩
  have HB1 := Lib.hid hb1
  clear hb1 HP
  go_wp2_with fail
  go_ret
  have hx := heap_alloc_new w1 (.cells #[.string (bs k), .string (bs (k ++ [0]))] 58)
  exact ⟨some ⟨w1.heap.size, 0, none⟩, rfl, ⟨Nat.le_refl _, by simp [maxLen], (fun e => by cases e), (RowG.one (cs := spCells) (x := ⟨k, k ++ [0]⟩) hx).wide (Nat.zero_le _) (by simp)⟩, HB1.out.alloc HB1.out.size _⟩

def liveL : List RecS := [⟨1, 1, 0, 0, [], atS [97]⟩, ⟨2, 2, 0, 0, atS [98], atS [99]⟩]
def liveM : List RecS := [⟨1, 1, 0, 0, atS [98], atS [99]⟩, ⟨2, 2, 0, 0, [], atS [97]⟩]
def liveT : RecS := ⟨0, 0, 0, 0, atS [97], atS [98]⟩
theorem live_l : judgeR liveL liveT = none := by decide
theorem live_m : judgeR liveM liveT = some 2 := by decide
set_option maxRecDepth 100000 in
set_option maxHeartbeats 8000000 in
theorem liveM_any (K : SsiC) (w : World) : Calls Try.prog 8 #[] w fun r w' => r = .returned (.bool true) ∧ Below w.heap.size w w' := by
  have HB := Lib.hid (Below.refl w.heap.size w)
  have HJ := Lib.hid K.judge
  clear K
  go_enter Try.func8, Try.ntmps8
  have HQ := Lib.hid (at_any [97] w (by simp))
  go_wp2_with fail
  refine HQ.out.mono ?_
  rintro r w1 ⟨A1, rfl, h1, hb1⟩
  have H1 := Lib.hid h1
  clear h1 HQ
  have HB := Lib.hid (HB.out.trans (hb1.mono HB.out.size))
  clear hb1
  have HQ := Lib.hid (at_any [98] w1 (by simp))
  go_wp2_with fail
  refine HQ.out.mono ?_
  rintro r w2 ⟨A2, rfl, h2, hb2⟩
  have H2 := Lib.hid h2
  clear h2 HQ
  have H1 := Lib.hid (H1.out.below hb2 (Nat.le_refl _) hb2.size)
  have HB := Lib.hid (HB.out.trans (hb2.mono HB.out.size))
  clear hb2
  obtain ⟨w3, hw⟩ : ∃ y, w2.alloc (.cells #[.int .u64 0, .int .u64 0, .int .u64 0, .int .u64 0, .slice A1 1 1, .slice A2 1 1] 29) = y := ⟨_, rfl⟩
  have hb9 : Below w2.heap.size w2 w3 := by rw [← hw]; exact (Below.refl _ w2).alloc (Nat.le_refl _) _
  have hx9 : w3.heap[w2.heap.size]? = some (.cells #[.int .u64 0, .int .u64 0, .int .u64 0, .int .u64 0, .slice A1 1 1, .slice A2 1 1] 29 (0, 0)) := by rw [← hw]; exact heap_alloc_new w2 _
  have HW9 := Lib.hid hw
  have HBT := Lib.hid hx9
  clear hw hx9
  go_upto_region 2 with fail
  rw [HW9.out]
  clear HW9
  have H1 := Lib.hid (H1.out.below hb9 (Nat.le_refl _) hb9.size)
  have H2 := Lib.hid (H2.out.below hb9 (Nat.le_refl _) hb9.size)
  have HB := Lib.hid (HB.out.trans (hb9.mono HB.out.size))
  clear hb9
  have HQ := Lib.hid (at_any [97] w3 (by simp))
  go_wp2_with fail
  refine HQ.out.mono ?_
  rintro r w4 ⟨A3, rfl, h3, hb3⟩
  have H3 := Lib.hid h3
  clear h3 HQ
  have H1 := Lib.hid (H1.out.below hb3 (Nat.le_refl _) hb3.size)
  have H2 := Lib.hid (H2.out.below hb3 (Nat.le_refl _) hb3.size)
  have HBT := Lib.hid (heap_below HBT.out hb3 (lt_of_heap HBT.out))
  have HB := Lib.hid (HB.out.trans (hb3.mono HB.out.size))
  clear hb3
  have HQ := Lib.hid (at_any [98] w4 (by simp))
  go_wp2_with fail
  refine HQ.out.mono ?_
  rintro r w5 ⟨A4, rfl, h4, hb4⟩
  have H4 := Lib.hid h4
  clear h4 HQ
  have H1 := Lib.hid (H1.out.below hb4 (Nat.le_refl _) hb4.size)
  have H2 := Lib.hid (H2.out.below hb4 (Nat.le_refl _) hb4.size)
  have H3 := Lib.hid (H3.out.below hb4 (Nat.le_refl _) hb4.size)
  have HBT := Lib.hid (heap_below HBT.out hb4 (lt_of_heap HBT.out))
  have HB := Lib.hid (HB.out.trans (hb4.mono HB.out.size))
  clear hb4
  have HQ := Lib.hid (at_any [99] w5 (by simp))
  go_wp2_with fail
  refine HQ.out.mono ?_
  rintro r w6 ⟨A5, rfl, h5, hb5⟩
  have H5 := Lib.hid h5
  clear h5 HQ
  have H1 := Lib.hid (H1.out.below hb5 (Nat.le_refl _) hb5.size)
  have H2 := Lib.hid (H2.out.below hb5 (Nat.le_refl _) hb5.size)
  have H3 := Lib.hid (H3.out.below hb5 (Nat.le_refl _) hb5.size)
  have H4 := Lib.hid (H4.out.below hb5 (Nat.le_refl _) hb5.size)
  have HBT := Lib.hid (heap_below HBT.out hb5 (lt_of_heap HBT.out))
  have HB := Lib.hid (HB.out.trans (hb5.mono HB.out.size))
  clear hb5
  obtain ⟨w7, hw⟩ : ∃ y, w6.alloc (.cells #[.int .u64 1, .int .u64 1, .int .u64 0, .int .u64 0, .slice none 0 0, .slice A3 1 1, .int .u64 2, .int .u64 2, .int .u64 0, .int .u64 0, .slice A4 1 1, .slice A5 1 1] 29) = y := ⟨_, rfl⟩
  have hb9 : Below w6.heap.size w6 w7 := by rw [← hw]; exact (Below.refl _ w6).alloc (Nat.le_refl _) _
  have hx9 : w7.heap[w6.heap.size]? = some (.cells #[.int .u64 1, .int .u64 1, .int .u64 0, .int .u64 0, .slice none 0 0, .slice A3 1 1, .int .u64 2, .int .u64 2, .int .u64 0, .int .u64 0, .slice A4 1 1, .slice A5 1 1] 29 (0, 0)) := by rw [← hw]; exact heap_alloc_new w6 _
  have HW9 := Lib.hid hw
  have HBL := Lib.hid hx9
  clear hw hx9
  go_upto_region 3 with fail
  rw [HW9.out]
  clear HW9
  have H1 := Lib.hid (H1.out.below hb9 (Nat.le_refl _) hb9.size)
  have H2 := Lib.hid (H2.out.below hb9 (Nat.le_refl _) hb9.size)
  have H3 := Lib.hid (H3.out.below hb9 (Nat.le_refl _) hb9.size)
  have H4 := Lib.hid (H4.out.below hb9 (Nat.le_refl _) hb9.size)
  have H5 := Lib.hid (H5.out.below hb9 (Nat.le_refl _) hb9.size)
  have HBT := Lib.hid (heap_below HBT.out hb9 (lt_of_heap HBT.out))
  have HB := Lib.hid (HB.out.trans (hb9.mono HB.out.size))
  clear hb9
  have HQ := Lib.hid (at_any [98] w7 (by simp))
  go_wp2_with fail
  refine HQ.out.mono ?_
  rintro r w8 ⟨A6, rfl, h6, hb6⟩
  have H6 := Lib.hid h6
  clear h6 HQ
  have H1 := Lib.hid (H1.out.below hb6 (Nat.le_refl _) hb6.size)
  have H2 := Lib.hid (H2.out.below hb6 (Nat.le_refl _) hb6.size)
  have H3 := Lib.hid (H3.out.below hb6 (Nat.le_refl _) hb6.size)
  have H4 := Lib.hid (H4.out.below hb6 (Nat.le_refl _) hb6.size)
  have H5 := Lib.hid (H5.out.below hb6 (Nat.le_refl _) hb6.size)
  have HBT := Lib.hid (heap_below HBT.out hb6 (lt_of_heap HBT.out))
  have HBL := Lib.hid (heap_below HBL.out hb6 (lt_of_heap HBL.out))
  have HB := Lib.hid (HB.out.trans (hb6.mono HB.out.size))
  clear hb6
  have HQ := Lib.hid (at_any [99] w8 (by simp))
  go_wp2_with fail
  refine HQ.out.mono ?_
  rintro r w9 ⟨A7, rfl, h7, hb7⟩
  have H7 := Lib.hid h7
  clear h7 HQ
  have H1 := Lib.hid (H1.out.below hb7 (Nat.le_refl _) hb7.size)
  have H2 := Lib.hid (H2.out.below hb7 (Nat.le_refl _) hb7.size)
  have H3 := Lib.hid (H3.out.below hb7 (Nat.le_refl _) hb7.size)
  have H4 := Lib.hid (H4.out.below hb7 (Nat.le_refl _) hb7.size)
  have H5 := Lib.hid (H5.out.below hb7 (Nat.le_refl _) hb7.size)
  have H6 := Lib.hid (H6.out.below hb7 (Nat.le_refl _) hb7.size)
  have HBT := Lib.hid (heap_below HBT.out hb7 (lt_of_heap HBT.out))
  have HBL := Lib.hid (heap_below HBL.out hb7 (lt_of_heap HBL.out))
  have HB := Lib.hid (HB.out.trans (hb7.mono HB.out.size))
  clear hb7
  have HQ := Lib.hid (at_any [97] w9 (by simp))
  go_wp2_with fail
  refine HQ.out.mono ?_
  rintro r w10 ⟨A8, rfl, h8, hb8⟩
  have H8 := Lib.hid h8
  clear h8 HQ
  have H1 := Lib.hid (H1.out.below hb8 (Nat.le_refl _) hb8.size)
  have H2 := Lib.hid (H2.out.below hb8 (Nat.le_refl _) hb8.size)
  have H3 := Lib.hid (H3.out.below hb8 (Nat.le_refl _) hb8.size)
  have H4 := Lib.hid (H4.out.below hb8 (Nat.le_refl _) hb8.size)
  have H5 := Lib.hid (H5.out.below hb8 (Nat.le_refl _) hb8.size)
  have H6 := Lib.hid (H6.out.below hb8 (Nat.le_refl _) hb8.size)
  have H7 := Lib.hid (H7.out.below hb8 (Nat.le_refl _) hb8.size)
  have HBT := Lib.hid (heap_below HBT.out hb8 (lt_of_heap HBT.out))
  have HBL := Lib.hid (heap_below HBL.out hb8 (lt_of_heap HBL.out))
  have HB := Lib.hid (HB.out.trans (hb8.mono HB.out.size))
  clear hb8
  obtain ⟨w11, hw⟩ : ∃ y, w10.alloc (.cells #[.int .u64 1, .int .u64 1, .int .u64 0, .int .u64 0, .slice A6 1 1, .slice A7 1 1, .int .u64 2, .int .u64 2, .int .u64 0, .int .u64 0, .slice none 0 0, .slice A8 1 1] 29) = y := ⟨_, rfl⟩
  have hb9 : Below w10.heap.size w10 w11 := by rw [← hw]; exact (Below.refl _ w10).alloc (Nat.le_refl _) _
  have hx9 : w11.heap[w10.heap.size]? = some (.cells #[.int .u64 1, .int .u64 1, .int .u64 0, .int .u64 0, .slice A6 1 1, .slice A7 1 1, .int .u64 2, .int .u64 2, .int .u64 0, .int .u64 0, .slice none 0 0, .slice A8 1 1] 29 (0, 0)) := by rw [← hw]; exact heap_alloc_new w10 _
  have HW9 := Lib.hid hw
  have HBM := Lib.hid hx9
  clear hw hx9
  go_upto_region 4 with fail
  rw [HW9.out]
  clear HW9
  have H1 := Lib.hid (H1.out.below hb9 (Nat.le_refl _) hb9.size)
  have H2 := Lib.hid (H2.out.below hb9 (Nat.le_refl _) hb9.size)
  have H3 := Lib.hid (H3.out.below hb9 (Nat.le_refl _) hb9.size)
  have H4 := Lib.hid (H4.out.below hb9 (Nat.le_refl _) hb9.size)
  have H5 := Lib.hid (H5.out.below hb9 (Nat.le_refl _) hb9.size)
  have H6 := Lib.hid (H6.out.below hb9 (Nat.le_refl _) hb9.size)
  have H7 := Lib.hid (H7.out.below hb9 (Nat.le_refl _) hb9.size)
  have H8 := Lib.hid (H8.out.below hb9 (Nat.le_refl _) hb9.size)
  have HBT := Lib.hid (heap_below HBT.out hb9 (lt_of_heap HBT.out))
  have HBL := Lib.hid (heap_below HBL.out hb9 (lt_of_heap HBL.out))
  have HB := Lib.hid (HB.out.trans (hb9.mono HB.out.size))
  clear hb9
  have HBLR := Lib.hid (fun (W : World) (h : Below w11.heap.size w11 W) => (show ChR W W.heap.size (some ⟨w6.heap.size, 0, none⟩) 2 liveL from ⟨Nat.le_refl _, by simp [maxLen], (fun e => by cases e), [⟨⟨1, 1, 0, 0, [], atS [97]⟩, none, 0, A3, 1⟩, ⟨⟨2, 2, 0, 0, atS [98], atS [99]⟩, A4, 1, A5, 1⟩], rfl, (RowG.block (heap_below HBL.out h (lt_of_heap HBL.out)) (fun j u hu => by simpa [flatG, mrCells, atS] using hu)).wide (Nat.zero_le _) (lt_of_heap (heap_below HBL.out h (lt_of_heap HBL.out))), by
    intro x hx
    simp only [List.mem_cons, List.not_mem_nil, or_false] at hx
    rcases hx with rfl | rfl
    · exact ⟨(by simp only; omega), (by simp only; omega), (by simp only; omega), (by simp only; omega), (ChI.none_ _ _), (H3.out.below h (Nat.le_refl _) h.size)⟩
    · exact ⟨(by simp only; omega), (by simp only; omega), (by simp only; omega), (by simp only; omega), (H4.out.below h (Nat.le_refl _) h.size), (H5.out.below h (Nat.le_refl _) h.size)⟩⟩))
  have HBMR := Lib.hid (fun (W : World) (h : Below w11.heap.size w11 W) => (show ChR W W.heap.size (some ⟨w10.heap.size, 0, none⟩) 2 liveM from ⟨Nat.le_refl _, by simp [maxLen], (fun e => by cases e), [⟨⟨1, 1, 0, 0, atS [98], atS [99]⟩, A6, 1, A7, 1⟩, ⟨⟨2, 2, 0, 0, [], atS [97]⟩, none, 0, A8, 1⟩], rfl, (RowG.block (heap_below HBM.out h (lt_of_heap HBM.out)) (fun j u hu => by simpa [flatG, mrCells, atS] using hu)).wide (Nat.zero_le _) (lt_of_heap (heap_below HBM.out h (lt_of_heap HBM.out))), by
    intro x hx
    simp only [List.mem_cons, List.not_mem_nil, or_false] at hx
    rcases hx with rfl | rfl
    · exact ⟨(by simp only; omega), (by simp only; omega), (by simp only; omega), (by simp only; omega), (H6.out.below h (Nat.le_refl _) h.size), (H7.out.below h (Nat.le_refl _) h.size)⟩
    · exact ⟨(by simp only; omega), (by simp only; omega), (by simp only; omega), (by simp only; omega), (ChI.none_ _ _), (H8.out.below h (Nat.le_refl _) h.size)⟩⟩))
  have HTx := Lib.hid (fun (W : World) (h : Below w11.heap.size w11 W) => (show OkMR W W.heap.size ⟨liveT, A1, 1, A2, 1⟩ from ⟨(by simp [liveT]), (by simp [liveT]), (by simp [liveT]), (by simp [liveT]), (H1.out.below h (Nat.le_refl _) h.size), (H2.out.below h (Nat.le_refl _) h.size)⟩))
  have HTc := Lib.hid (fun (W : World) (h : Below w11.heap.size w11 W) => six_of (heap_below HBT.out h (lt_of_heap HBT.out)))
  have hj1 := HJ.out liveL (some ⟨w6.heap.size, 0, none⟩) 2 ⟨liveT, A1, 1, A2, 1⟩ w11 ⟨by decide, by decide⟩ (show okR liveT from ⟨by decide, by decide⟩) (HBLR.out _ (Below.refl _ _)) (HTx.out _ (Below.refl _ _))
  rw [live_l] at hj1
  have hj2 := fun (W : World) (h : Below w11.heap.size w11 W) => HJ.out liveM (some ⟨w10.heap.size, 0, none⟩) 2 ⟨liveT, A1, 1, A2, 1⟩ W ⟨by decide, by decide⟩ (show okR liveT from ⟨by decide, by decide⟩) (HBMR.out _ h) (HTx.out _ h)
  rw [live_m] at hj2
  have HJ1 := Lib.hid hj1
  have HJ2 := Lib.hid hj2
  clear hj1 hj2
  obtain ⟨z0, z1, z2, z3, z4, z5⟩ := HTc.out _ (Below.refl _ _)
  go_wp2_with fail
  refine HJ1.out.mono ?_
  rintro r w20 ⟨rfl, hb20⟩
  unfold judgeVal
  simp only
  have HB20 := Lib.hid (HB.out.trans (hb20.mono HB.out.size))
  have HJ3 := Lib.hid (HJ2.out _ hb20)
  clear z0 z1 z2 z3 z4 z5
  obtain ⟨z0, z1, z2, z3, z4, z5⟩ := HTc.out _ hb20
  clear hb20
  go_wp2_with fail
  refine HJ3.out.mono ?_
  rintro r w21 ⟨rfl, hb21⟩
  unfold judgeVal
  simp only
  have HB21 := Lib.hid (HB20.out.trans (hb21.mono HB20.out.size))
  clear hb21
  go_wp2_with fail
  go_ret
  exact ⟨rfl, HB21.out⟩
end Go.Proofs.Ytjkmodfbbiojmaa
