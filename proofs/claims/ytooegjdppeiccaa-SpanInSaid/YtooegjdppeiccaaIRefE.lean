/-
  Stretches, the document's own answers: Join, Add.
-/
import Derived.Test.YtooegjdppeiccaaIRefD
namespace Go.Proofs.Ytooegjdppeiccaa
open Go.RowKit

theorem join_next {l : List Sp} {j : Nat} (hj : j < l.length) : joinSp (l.take (j + 1)) = if rightS l[j] = true then putSp (joinSp (l.take j)) l[j] else joinSp (l.take j) := by
  unfold joinSp
  rw [List.take_succ_eq_append_getElem hj, List.foldl_append]
  rfl
theorem join_take_len (l : List Sp) (j : Nat) : (joinSp (l.take j)).length ≤ l.length := Nat.le_trans (join_len _) (by rw [List.length_take]; omega)
set_option maxRecDepth 100000 in
set_option maxHeartbeats 8000000 in
theorem refJoinI_any (a b : List Sp) (A B : Option Addr) (c d : Nat) (w : World) (hl : a.length + b.length ≤ 2097152) (hca : A = none → c = 0) (hcb : B = none → d = 0) (hra : RowG spCells w 0 w.heap.size A a) (hrb : RowG spCells w 0 w.heap.size B b) :
    Calls Try.prog 43 #[.slice A a.length c, .slice B b.length d] w (RetI (joinSp (a ++ b)) w) := by
  obtain ⟨w0, hw0⟩ : ∃ y, w.alloc (.cells #[] 60) = y := ⟨_, rfl⟩
  have s0 : w0.heap.size = w.heap.size + 1 := by rw [← hw0]; simp
  have b0 : Below w.heap.size w w0 := by rw [← hw0]; exact (Below.refl _ w).alloc (Nat.le_refl _) _
  have HRA := Lib.hid (hra.below (b0.alloc b0.size (.cells #[] 60)) (Nat.le_refl _))
  have HRB := Lib.hid hrb
  have HB0 := Lib.hid b0
  have HW0 := Lib.hid hw0
  have HCA := Lib.hid hca
  have HCB := Lib.hid hcb
  have HL := Lib.hid hl
  have HS0 := Lib.hid s0
  clear hra hrb hw0 s0 b0 hca hcb hl
  go_enter Try.func43, Try.ntmps43
  go_upto_region 2 with fail
  rw [HW0.out]
  clear HW0
  go_wp2_with (first
    | (at_builtin; refine append_row _ rfl _ _ 62 60 32 spF spInfo Try.underlying62 rfl w0.heap.size _ [] rfl (OwnG.made w0 60 2 spCells) 0 _ A a.length c a rfl rfl HCA.out HRA.out (by have := HL.out; simp [maxLen]; omega) (by have := HL.out; simp; omega) (by simp) ?_; intro v1 w5 ho5 hg5; have HO5 := Lib.hid ho5; have HB5 := Lib.hid (OwnG.grown_below (HB0.out.alloc HB0.out.size (.cells #[] 60)) (OwnG.made w0 60 2 spCells) hg5 (by have := HS0.out; omega) (by have := HS0.out; simp; omega)); have HZ5 := Lib.hid (show w0.heap.size ≤ w5.heap.size from Nat.le_trans (by simp) hg5.size); clear ho5 hg5)
    | (at_builtin; refine append_row _ rfl _ _ 62 60 32 spF spInfo Try.underlying62 rfl w0.heap.size _ ([] ++ a) rfl HO5.out 0 _ B b.length d b rfl rfl HCB.out (HRB.out.below HB5.out (Nat.le_refl _)) (by have := HL.out; simp [maxLen]; omega) (by have := HL.out; simp; omega) HZ5.out ?_; intro v2 w6 ho6 hg6; have HO6 := Lib.hid ho6.chI; have HB6 := Lib.hid (OwnG.grown_below HB5.out HO5.out hg6 (by have := HS0.out; omega) (by have := HS0.out; have := HZ5.out; omega)); obtain ⟨A9, c9, rfl, hc9⟩ := HO6.out; have HC9 := Lib.hid hc9; clear hc9; clear ho6 hg6 HO6 HO5 HB5 HZ5 HRA HRB HCA HCB))
  rw [List.nil_append] at HC9
  obtain ⟨L, hL⟩ : ∃ y, a ++ b = y := ⟨_, rfl⟩
  have HE := Lib.hid hL
  have HLL := Lib.hid (show L.length ≤ 2097152 by rw [← hL, List.length_append]; exact HL.out)
  rw [hL] at HC9
  have HLe := Lib.hid (show L.length = a.length + b.length by rw [← hL, List.length_append])
  clear hL
  have HZ := Lib.hid (show w.heap.size ≤ w6.heap.size from HB6.out.size)
  go_loopg [5, 15] L.length (fun q vo i wr => ∃ (j : Nat) (A8 : Option Addr) (c8 : Nat), j + q = L.length ∧ i = .int .i64 j ∧ vo = .slice A8 (joinSp (L.take j)).length c8 ∧ ChI wr wr.heap.size A8 c8 (joinSp (L.take j)) ∧ Below w6.heap.size w6 wr)
  case atStart => exact ⟨0, some ⟨w.heap.size, 0, none⟩, 0, by omega, rfl, rfl, ⟨Nat.le_refl _, Nat.zero_le _, (fun e => by cases e), RowG.nil_⟩, Below.refl _ _⟩
  case round =>
    obtain ⟨j, A8, c8, hk, rfl, rfl, ho, hb⟩ := hrel
    have HK := Lib.hid hk
    have HB := Lib.hid hb
    have HO := Lib.hid ho
    clear hk hb ho
    by_cases hj : j < L.length
    · have hlt : decide ((j : Int) < (a.length : Int) + (b.length : Int)) = true := by have := HLe.out; rw [decide_eq_true_iff]; omega
      have hlt2 : decide (j < a.length + b.length) = true := by have := HLe.out; rw [decide_eq_true_iff]; omega
      have hlt3 : j < a.length + b.length := by have := HLe.out; omega
      have hll := HL.out
      obtain ⟨bb, o, rfl, hbh, c0, c1⟩ := (HC9.out.below HB.out (Nat.le_refl _) (Nat.le_refl _)).at_ hj
      have HN := Lib.hid (join_next hj)
      have HLn := Lib.hid (join_take_len L j)
      clear hbh
      generalize L[j] = x at *
      generalize joinSp (L.take j) = J at *
      obtain ⟨xl, xh⟩ := x
      simp only at c0 c1
      obtain ⟨wt, hwt⟩ : ∃ y, wr.alloc (.cells #[.string (bs xl), .string (bs xh)] 60) = y := ⟨_, rfl⟩
      have hbt : Below wr.heap.size wr wt := by rw [← hwt]; exact (Below.refl _ _).alloc (Nat.le_refl _) _
      have hxt : wt.heap[wr.heap.size]? = some (.cells #[.string (bs xl), .string (bs xh)] 60 (0, 0)) := by rw [← hwt]; exact heap_alloc_new wr _
      have HCl := Lib.hid (fun (W : World) (h : Below wt.heap.size wt W) => And.intro (cell_of_row W wr.heap.size 0 _ _ _ (heap_below hxt h (lt_of_heap hxt))) (cell_of_row W wr.heap.size 1 _ _ _ (heap_below hxt h (lt_of_heap hxt))))
      have HOt := Lib.hid (HO.out.below hbt (Nat.le_refl _) hbt.size)
      have HBt := Lib.hid (HB.out.trans (hbt.mono HB.out.size))
      have HWt := Lib.hid hwt
      have HC1 := Lib.hid (refRightI_any ⟨xl, xh⟩)
      have HC2 := Lib.hid (fun (W : World) (h : Below wt.heap.size wt W) => refPutI_any J A8 c8 W.heap.size ⟨xl, xh⟩ W (by have := HLn.out; have := HLL.out; omega) ((HOt.out.below h (Nat.le_refl _) h.size).2.2.2) (Nat.le_refl _))
      unfold spVal at HC1 HC2
      simp only at HC1 HC2
      clear hxt hwt hbt HO HB
      go_upto_region 5 with fail
      rw [HWt.out]
      clear HWt c0 c1
      obtain ⟨z0, z1⟩ := HCl.out wt (Below.refl _ _)
      cases hq : rightS ⟨xl, xh⟩ with
      | false =>
        rw [hq] at HC1 HN
        rw [if_neg Bool.false_ne_true] at HN
        clear hq HC2
        go_wp2_with fail
        refine (HC1.out wt).mono ?_
        rintro r w2 ⟨rfl, hb2⟩
        have HB2 := Lib.hid hb2
        clear hb2 z0 z1
        go_wp2_with fail
        go_roundg (gk - 1)
        case measure => have := HK.out; omega
        case rel => exact ⟨j + 1, A8, c8, by have := HK.out; omega, by go_num, by rw [HN.out], by rw [HN.out]; exact HOt.out.below HB2.out (Nat.le_refl _) HB2.out.size, HBt.out.trans (HB2.out.mono HBt.out.size)⟩
      | true =>
        rw [hq] at HC1 HN
        rw [if_pos rfl] at HN
        clear hq
        go_wp2_with fail
        refine (HC1.out wt).mono ?_
        rintro r w2 ⟨rfl, hb2⟩
        have HB2 := Lib.hid hb2
        clear z0 z1
        obtain ⟨z0, z1⟩ := HCl.out w2 hb2
        clear hb2
        go_wp2_with fail
        refine (HC2.out w2 HB2.out).mono ?_
        rintro r w3 ⟨A7, c7, rfl, hc7, hb3⟩
        have HB3 := Lib.hid (HB2.out.trans (hb3.mono HB2.out.size))
        have HC7 := Lib.hid hc7
        clear z0 z1 hb3 hc7
        go_wp2_with fail
        go_roundg (gk - 1)
        case measure => have := HK.out; omega
        case rel => exact ⟨j + 1, A7, c7, by have := HK.out; omega, by go_num, by rw [HN.out], by rw [HN.out]; exact HC7.out, HBt.out.trans (HB3.out.mono HBt.out.size)⟩
    · have hj' : j = L.length := by have := HK.out; omega
      have hlt : decide ((j : Int) < (a.length : Int) + (b.length : Int)) = false := by have := HLe.out; rw [decide_eq_false_iff_not]; omega
      have hlt2 : decide (j < a.length + b.length) = false := by have := HLe.out; rw [decide_eq_false_iff_not]; omega
      have ho := HO.out
      rw [hj', List.take_length] at ho
      have HJ := Lib.hid (show joinSp (L.take j) = joinSp (a ++ b) by rw [hj', List.take_length, HE.out])
      have HO9 := Lib.hid ho
      clear hj ho hj' HO
      go_wp2_with fail
      go_ret
      exact ⟨A8, c8, by rw [← HJ.out]; rfl, by rw [HE.out]; exact HO9.out, HB6.out.trans (HB.out.mono HB6.out.size)⟩

set_option maxRecDepth 100000 in
set_option maxHeartbeats 2000000 in
theorem refAddI_any (a : List Sp) (s : Sp) (A : Option Addr) (c : Nat) (w : World) (hl : a.length ≤ 2097151) (hca : A = none → c = 0) (hra : RowG spCells w 0 w.heap.size A a) :
    Calls Try.prog 41 #[.slice A a.length c, spVal s] w (RetI (joinSp (a ++ [s])) w) := by
  obtain ⟨sl, sh⟩ := s
  unfold spVal
  simp only
  obtain ⟨w1, hw1⟩ : ∃ y, (w.alloc (.cells #[.string (bs sl), .string (bs sh)] 60)).alloc (.cells #[.string (bs sl), .string (bs sh)] 60) = y := ⟨_, rfl⟩
  have hb1 : Below w.heap.size w w1 := by rw [← hw1]; exact ((Below.refl _ w).alloc (Nat.le_refl _) _).alloc (by simp) _
  have hx1 : w1.heap[w.heap.size + 1]? = some (.cells #[.string (bs sl), .string (bs sh)] 60 (0, 0)) := by rw [← hw1]; exact heap_new2 w _ _
  have HC := Lib.hid (refJoinI_any a [⟨sl, sh⟩] A (some ⟨w.heap.size + 1, 0, none⟩) c 1 w1 (by simp; omega) hca (fun e => by cases e) ((hra.below hb1 (Nat.le_refl _)).wide (Nat.le_refl _) hb1.size) ((RowG.one (cs := spCells) (x := ⟨sl, sh⟩) hx1).wide (Nat.zero_le _) (lt_of_heap hx1)))
  have HB1 := Lib.hid hb1
  have HW1 := Lib.hid hw1
  clear hb1 hx1 hw1 hra hca
  go_enter Try.func41, Try.ntmps41
  go_wp2_with fail
  rw [HW1.out]
  refine HC.out.mono ?_
  rintro r w2 ⟨A2, c2, rfl, h2, hb2⟩
  have HC2 := Lib.hid h2
  have HB2 := Lib.hid (HB1.out.trans (hb2.mono HB1.out.size))
  clear h2 hb2 HW1
  go_wp2_with fail
  go_ret
  exact ⟨A2, c2, rfl, HC2.out, HB2.out⟩
end Go.Proofs.Ytooegjdppeiccaa
