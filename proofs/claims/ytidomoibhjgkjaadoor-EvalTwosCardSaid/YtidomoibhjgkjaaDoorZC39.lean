import Derived.Test.YtidomoibhjgkjaaDoorZC38
import Derived.Test.YtidomoibhjgkjaaDoorZC18
import Derived.Laws.Cover1
/-
  What two numbers come to, how two values stand, of which kind both are: the document's own answers.
-/
namespace Go.Proofs.YtidomoibhjgkjaaDoor
open Go.RowKit

theorem sign_tdiv (a b : Int) : signG (lowB a b) (a.natAbs / b.natAbs) = a.tdiv b := by
  have h1 : (a.tdiv b).natAbs = a.natAbs / b.natAbs := Int.natAbs_tdiv a b
  rw [← h1]
  unfold signG lowB
  by_cases ha : a < 0 <;> by_cases hb : b < 0
  · have h := Int.tdiv_nonneg_of_nonpos_of_nonpos (show a ≤ 0 by omega) (show b ≤ 0 by omega)
    rw [if_neg (by simp [ha, hb])]
    omega
  · have h := Int.tdiv_nonneg (a := -a) (b := b) (by omega) (by omega)
    rw [Int.neg_tdiv] at h
    rw [if_pos (by simp [ha, hb])]
    omega
  · have h := Int.tdiv_nonpos_of_nonneg_of_nonpos (show 0 ≤ a by omega) (show b ≤ 0 by omega)
    rw [if_pos (by simp [ha, hb])]
    omega
  · have h := Int.tdiv_nonneg (show 0 ≤ a by omega) (show 0 ≤ b by omega)
    rw [if_neg (by simp [ha, hb])]
    omega
theorem sign_tmod (a b : Int) : signG (decide (a < 0)) (a.natAbs % b.natAbs) = a.tmod b := by
  have h1 : (a.tmod b).natAbs = a.natAbs % b.natAbs := Int.natAbs_tmod a b
  rw [← h1]
  unfold signG
  rcases tmod_sign a b with h | h
  · rw [h]; simp
  · by_cases ha : a < 0
    · rw [if_pos (decide_eq_true ha)]; have := h.2 ha; omega
    · rw [if_neg (by simp [ha])]; omega
def kindB (a b : V) : Int := if a.k = b.k then a.k else 0
set_option maxHeartbeats 1000000 in
theorem g6kind_any (a b : V) (w : World) : Calls Tryd.prog 27 #[a.val, b.val] w fun r w' => r = .returned (.int .i64 (kindB a b)) ∧ Below w.heap.size w w' := by
  obtain ⟨ak, an, sa⟩ := a
  obtain ⟨bk, bn, sb⟩ := b
  simp only [V.val]
  have HB := Lib.hid ((box_below w #[.int .i64 ak, .int .i64 an, .string sa] 23).trans ((box_below (w.alloc (.cells #[.int .i64 ak, .int .i64 an, .string sa] 23)) #[.int .i64 bk, .int .i64 bn, .string sb] 23).mono (box_below w #[.int .i64 ak, .int .i64 an, .string sa] 23).size))
  by_cases h : ak = bk
  · have e : kindB ⟨ak, an, sa⟩ ⟨bk, bn, sb⟩ = ak := if_pos h
    rw [e]
    have d : (ak == bk) = true := by rw [beq_iff_eq]; exact h
    have d2 : (ak != bk) = false := by rw [bne_eq_false_iff_eq]; exact h
    clear e h
    go_enter Tryd.func27, Tryd.ntmps27
    go_wp2
    go_ret
    exact ⟨rfl, HB.out⟩
  · have e : kindB ⟨ak, an, sa⟩ ⟨bk, bn, sb⟩ = 0 := if_neg h
    rw [e]
    have d : (ak == bk) = false := by rw [beq_eq_false_iff_ne]; exact h
    have d2 : (ak != bk) = true := by rw [bne_iff_ne]; exact h
    clear e h
    go_enter Tryd.func27, Tryd.ntmps27
    go_wp2
    go_ret
    exact ⟨rfl, HB.out⟩
set_option maxRecDepth 100000 in
set_option maxHeartbeats 1000000 in
theorem g6stands11_any (a b : V) (w : World) : Calls Tryd.prog 28 #[.int .i64 11, a.val, b.val] w fun r w' => r = .returned (.bool (standV 11 a b)) ∧ Below w.heap.size w w' := by
  obtain ⟨ak, an, sa⟩ := a
  obtain ⟨bk, bn, sb⟩ := b
  simp only [V.val]
  have HB := Lib.hid ((box_below w #[.int .i64 ak, .int .i64 an, .string sa] 23).trans ((box_below (w.alloc (.cells #[.int .i64 ak, .int .i64 an, .string sa] 23)) #[.int .i64 bk, .int .i64 bn, .string sb] 23).mono (box_below w #[.int .i64 ak, .int .i64 an, .string sa] 23).size))
  by_cases hk : ak = 3
  · subst hk
    have hX : standV 11 ⟨3, an, sa⟩ ⟨bk, bn, sb⟩ = (blt sa.data.toList sb.data.toList) := rfl
    rw [hX]
    clear hX
    have e1 : Op.bytesLess sa.toList sb.toList = blt sa.data.toList sb.data.toList := by rw [ByteArray.toList_eq, ByteArray.toList_eq]
    have e2 : Op.bytesLess sb.toList sa.toList = blt sb.data.toList sa.data.toList := by rw [ByteArray.toList_eq, ByteArray.toList_eq]
    rcases blt_tri sa.data.toList sb.data.toList with h | h | h
    · have hl : blt sa.data.toList sb.data.toList = true := h
      have hg : blt sb.data.toList sa.data.toList = false := blt_asymm h
      have hq : (sa.toList == sb.toList) = false := by rw [ByteArray.toList_eq, ByteArray.toList_eq]; rw [beq_eq_false_iff_ne]; intro e; rw [e, blt_self] at hl; cases hl
      rw [hl] at e1
      rw [hg] at e2
      rw [hl]
      have hqq : (Op.bytesLess sa.toList sb.toList || sa.toList == sb.toList) = true := by rw [e1, hq]; rfl
      clear h hl hg
      go_enter Tryd.func28, Tryd.ntmps28
      go_wp2
      go_region
      go_wp2
      go_region
      go_wp2
      go_ret
      exact ⟨rfl, HB.out.drew.drew⟩
    · have hl : blt sa.data.toList sb.data.toList = false := by rw [h]; exact blt_self _
      have hg : blt sb.data.toList sa.data.toList = false := by rw [h]; exact blt_self _
      have hq : (sa.toList == sb.toList) = true := by rw [ByteArray.toList_eq, ByteArray.toList_eq]; rw [h]; exact beq_self_eq_true _
      rw [hl] at e1
      rw [hg] at e2
      rw [hl]
      have hqq : (Op.bytesLess sa.toList sb.toList || sa.toList == sb.toList) = true := by rw [e1, hq]; rfl
      clear h hl hg
      go_enter Tryd.func28, Tryd.ntmps28
      go_wp2
      go_region
      go_wp2
      go_region
      go_wp2
      go_ret
      exact ⟨rfl, HB.out.drew.drew⟩
    · have hl : blt sa.data.toList sb.data.toList = false := blt_asymm h
      have hg : blt sb.data.toList sa.data.toList = true := h
      have hq : (sa.toList == sb.toList) = false := by rw [ByteArray.toList_eq, ByteArray.toList_eq]; rw [beq_eq_false_iff_ne]; intro e; rw [e, blt_self] at hg; cases hg
      rw [hl] at e1
      rw [hg] at e2
      rw [hl]
      have hqq : (Op.bytesLess sa.toList sb.toList || sa.toList == sb.toList) = false := by rw [e1, hq]; rfl
      clear h hl hg
      go_enter Tryd.func28, Tryd.ntmps28
      go_wp2
      go_region
      go_wp2
      go_region
      go_wp2
      go_ret
      exact ⟨rfl, HB.out.drew.drew⟩
  · have hX : standV 11 ⟨ak, an, sa⟩ ⟨bk, bn, sb⟩ = (decide (an < bn)) := by unfold standV lessV; simp [hk]
    rw [hX]
    have k3 : (ak == 3) = false := by rw [beq_eq_false_iff_ne]; exact hk
    clear hX hk
    go_enter Tryd.func28, Tryd.ntmps28
    go_wp2
    go_region
    go_wp2
    go_ret
    exact ⟨rfl, HB.out.drew⟩
set_option maxRecDepth 100000 in
set_option maxHeartbeats 1000000 in
theorem g6stands12_any (a b : V) (hab : a.k = b.k) (w : World) : Calls Tryd.prog 28 #[.int .i64 12, a.val, b.val] w fun r w' => r = .returned (.bool (standV 12 a b)) ∧ Below w.heap.size w w' := by
  obtain ⟨ak, an, sa⟩ := a
  obtain ⟨bk, bn, sb⟩ := b
  simp only [V.val]
  simp only at hab
  have HB := Lib.hid ((box_below w #[.int .i64 ak, .int .i64 an, .string sa] 23).trans ((box_below (w.alloc (.cells #[.int .i64 ak, .int .i64 an, .string sa] 23)) #[.int .i64 bk, .int .i64 bn, .string sb] 23).mono (box_below w #[.int .i64 ak, .int .i64 an, .string sa] 23).size))
  by_cases hk : ak = 3
  · subst hk
    subst hab
    have hX : standV 12 ⟨3, an, sa⟩ ⟨3, bn, sb⟩ = (!blt sb.data.toList sa.data.toList) := rfl
    rw [hX]
    clear hX
    have e1 : Op.bytesLess sa.toList sb.toList = blt sa.data.toList sb.data.toList := by rw [ByteArray.toList_eq, ByteArray.toList_eq]
    have e2 : Op.bytesLess sb.toList sa.toList = blt sb.data.toList sa.data.toList := by rw [ByteArray.toList_eq, ByteArray.toList_eq]
    rcases blt_tri sa.data.toList sb.data.toList with h | h | h
    · have hl : blt sa.data.toList sb.data.toList = true := h
      have hg : blt sb.data.toList sa.data.toList = false := blt_asymm h
      have hq : (sa.toList == sb.toList) = false := by rw [ByteArray.toList_eq, ByteArray.toList_eq]; rw [beq_eq_false_iff_ne]; intro e; rw [e, blt_self] at hl; cases hl
      rw [hl] at e1
      rw [hg] at e2
      rw [hg]
      have hqq : (Op.bytesLess sa.toList sb.toList || sa.toList == sb.toList) = true := by rw [e1, hq]; rfl
      clear h hl hg
      go_enter Tryd.func28, Tryd.ntmps28
      go_wp2
      go_region
      go_wp2
      go_region
      go_wp2
      go_ret
      exact ⟨rfl, HB.out.drew.drew⟩
    · have hl : blt sa.data.toList sb.data.toList = false := by rw [h]; exact blt_self _
      have hg : blt sb.data.toList sa.data.toList = false := by rw [h]; exact blt_self _
      have hq : (sa.toList == sb.toList) = true := by rw [ByteArray.toList_eq, ByteArray.toList_eq]; rw [h]; exact beq_self_eq_true _
      rw [hl] at e1
      rw [hg] at e2
      rw [hg]
      have hqq : (Op.bytesLess sa.toList sb.toList || sa.toList == sb.toList) = true := by rw [e1, hq]; rfl
      clear h hl hg
      go_enter Tryd.func28, Tryd.ntmps28
      go_wp2
      go_region
      go_wp2
      go_region
      go_wp2
      go_ret
      exact ⟨rfl, HB.out.drew.drew⟩
    · have hl : blt sa.data.toList sb.data.toList = false := blt_asymm h
      have hg : blt sb.data.toList sa.data.toList = true := h
      have hq : (sa.toList == sb.toList) = false := by rw [ByteArray.toList_eq, ByteArray.toList_eq]; rw [beq_eq_false_iff_ne]; intro e; rw [e, blt_self] at hg; cases hg
      rw [hl] at e1
      rw [hg] at e2
      rw [hg]
      have hqq : (Op.bytesLess sa.toList sb.toList || sa.toList == sb.toList) = false := by rw [e1, hq]; rfl
      clear h hl hg
      go_enter Tryd.func28, Tryd.ntmps28
      go_wp2
      go_region
      go_wp2
      go_region
      go_wp2
      go_ret
      exact ⟨rfl, HB.out.drew.drew⟩
  · have hkb : ¬ bk = 3 := by omega
    have hX : standV 12 ⟨ak, an, sa⟩ ⟨bk, bn, sb⟩ = (!decide (bn < an)) := by unfold standV lessV; simp [hk, hkb]
    rw [hX]
    have k3 : (ak == 3) = false := by rw [beq_eq_false_iff_ne]; exact hk
    clear hX hk hkb hab
    go_enter Tryd.func28, Tryd.ntmps28
    go_wp2
    go_region
    go_wp2
    go_ret
    exact ⟨rfl, HB.out.drew⟩
set_option maxRecDepth 100000 in
set_option maxHeartbeats 1000000 in
theorem g6stands13_any (a b : V) (hab : a.k = b.k) (w : World) : Calls Tryd.prog 28 #[.int .i64 13, a.val, b.val] w fun r w' => r = .returned (.bool (standV 13 a b)) ∧ Below w.heap.size w w' := by
  obtain ⟨ak, an, sa⟩ := a
  obtain ⟨bk, bn, sb⟩ := b
  simp only [V.val]
  simp only at hab
  have HB := Lib.hid ((box_below w #[.int .i64 ak, .int .i64 an, .string sa] 23).trans ((box_below (w.alloc (.cells #[.int .i64 ak, .int .i64 an, .string sa] 23)) #[.int .i64 bk, .int .i64 bn, .string sb] 23).mono (box_below w #[.int .i64 ak, .int .i64 an, .string sa] 23).size))
  by_cases hk : ak = 3
  · subst hk
    subst hab
    have hX : standV 13 ⟨3, an, sa⟩ ⟨3, bn, sb⟩ = (blt sb.data.toList sa.data.toList) := rfl
    rw [hX]
    clear hX
    have e1 : Op.bytesLess sa.toList sb.toList = blt sa.data.toList sb.data.toList := by rw [ByteArray.toList_eq, ByteArray.toList_eq]
    have e2 : Op.bytesLess sb.toList sa.toList = blt sb.data.toList sa.data.toList := by rw [ByteArray.toList_eq, ByteArray.toList_eq]
    rcases blt_tri sa.data.toList sb.data.toList with h | h | h
    · have hl : blt sa.data.toList sb.data.toList = true := h
      have hg : blt sb.data.toList sa.data.toList = false := blt_asymm h
      have hq : (sa.toList == sb.toList) = false := by rw [ByteArray.toList_eq, ByteArray.toList_eq]; rw [beq_eq_false_iff_ne]; intro e; rw [e, blt_self] at hl; cases hl
      rw [hl] at e1
      rw [hg] at e2
      rw [hg]
      have hqq : (Op.bytesLess sa.toList sb.toList || sa.toList == sb.toList) = true := by rw [e1, hq]; rfl
      clear h hl hg
      go_enter Tryd.func28, Tryd.ntmps28
      go_wp2
      go_region
      go_wp2
      go_region
      go_wp2
      go_ret
      exact ⟨rfl, HB.out.drew.drew⟩
    · have hl : blt sa.data.toList sb.data.toList = false := by rw [h]; exact blt_self _
      have hg : blt sb.data.toList sa.data.toList = false := by rw [h]; exact blt_self _
      have hq : (sa.toList == sb.toList) = true := by rw [ByteArray.toList_eq, ByteArray.toList_eq]; rw [h]; exact beq_self_eq_true _
      rw [hl] at e1
      rw [hg] at e2
      rw [hg]
      have hqq : (Op.bytesLess sa.toList sb.toList || sa.toList == sb.toList) = true := by rw [e1, hq]; rfl
      clear h hl hg
      go_enter Tryd.func28, Tryd.ntmps28
      go_wp2
      go_region
      go_wp2
      go_region
      go_wp2
      go_ret
      exact ⟨rfl, HB.out.drew.drew⟩
    · have hl : blt sa.data.toList sb.data.toList = false := blt_asymm h
      have hg : blt sb.data.toList sa.data.toList = true := h
      have hq : (sa.toList == sb.toList) = false := by rw [ByteArray.toList_eq, ByteArray.toList_eq]; rw [beq_eq_false_iff_ne]; intro e; rw [e, blt_self] at hg; cases hg
      rw [hl] at e1
      rw [hg] at e2
      rw [hg]
      have hqq : (Op.bytesLess sa.toList sb.toList || sa.toList == sb.toList) = false := by rw [e1, hq]; rfl
      clear h hl hg
      go_enter Tryd.func28, Tryd.ntmps28
      go_wp2
      go_region
      go_wp2
      go_region
      go_wp2
      go_ret
      exact ⟨rfl, HB.out.drew.drew⟩
  · have hkb : ¬ bk = 3 := by omega
    have hX : standV 13 ⟨ak, an, sa⟩ ⟨bk, bn, sb⟩ = (decide (bn < an)) := by unfold standV lessV; simp [hk, hkb]
    rw [hX]
    have k3 : (ak == 3) = false := by rw [beq_eq_false_iff_ne]; exact hk
    clear hX hk hkb hab
    go_enter Tryd.func28, Tryd.ntmps28
    go_wp2
    go_region
    go_wp2
    go_ret
    exact ⟨rfl, HB.out.drew⟩
set_option maxRecDepth 100000 in
set_option maxHeartbeats 1000000 in
theorem g6stands14_any (a b : V) (w : World) : Calls Tryd.prog 28 #[.int .i64 14, a.val, b.val] w fun r w' => r = .returned (.bool (standV 14 a b)) ∧ Below w.heap.size w w' := by
  obtain ⟨ak, an, sa⟩ := a
  obtain ⟨bk, bn, sb⟩ := b
  simp only [V.val]
  have HB := Lib.hid ((box_below w #[.int .i64 ak, .int .i64 an, .string sa] 23).trans ((box_below (w.alloc (.cells #[.int .i64 ak, .int .i64 an, .string sa] 23)) #[.int .i64 bk, .int .i64 bn, .string sb] 23).mono (box_below w #[.int .i64 ak, .int .i64 an, .string sa] 23).size))
  by_cases hk : ak = 3
  · subst hk
    have hX : standV 14 ⟨3, an, sa⟩ ⟨bk, bn, sb⟩ = (!blt sa.data.toList sb.data.toList) := rfl
    rw [hX]
    clear hX
    have e1 : Op.bytesLess sa.toList sb.toList = blt sa.data.toList sb.data.toList := by rw [ByteArray.toList_eq, ByteArray.toList_eq]
    have e2 : Op.bytesLess sb.toList sa.toList = blt sb.data.toList sa.data.toList := by rw [ByteArray.toList_eq, ByteArray.toList_eq]
    rcases blt_tri sa.data.toList sb.data.toList with h | h | h
    · have hl : blt sa.data.toList sb.data.toList = true := h
      have hg : blt sb.data.toList sa.data.toList = false := blt_asymm h
      have hq : (sa.toList == sb.toList) = false := by rw [ByteArray.toList_eq, ByteArray.toList_eq]; rw [beq_eq_false_iff_ne]; intro e; rw [e, blt_self] at hl; cases hl
      rw [hl] at e1
      rw [hg] at e2
      rw [hl]
      have hqq : (Op.bytesLess sa.toList sb.toList || sa.toList == sb.toList) = true := by rw [e1, hq]; rfl
      clear h hl hg
      go_enter Tryd.func28, Tryd.ntmps28
      go_wp2
      go_region
      go_wp2
      go_region
      go_wp2
      go_ret
      exact ⟨rfl, HB.out.drew.drew⟩
    · have hl : blt sa.data.toList sb.data.toList = false := by rw [h]; exact blt_self _
      have hg : blt sb.data.toList sa.data.toList = false := by rw [h]; exact blt_self _
      have hq : (sa.toList == sb.toList) = true := by rw [ByteArray.toList_eq, ByteArray.toList_eq]; rw [h]; exact beq_self_eq_true _
      rw [hl] at e1
      rw [hg] at e2
      rw [hl]
      have hqq : (Op.bytesLess sa.toList sb.toList || sa.toList == sb.toList) = true := by rw [e1, hq]; rfl
      clear h hl hg
      go_enter Tryd.func28, Tryd.ntmps28
      go_wp2
      go_region
      go_wp2
      go_region
      go_wp2
      go_ret
      exact ⟨rfl, HB.out.drew.drew⟩
    · have hl : blt sa.data.toList sb.data.toList = false := blt_asymm h
      have hg : blt sb.data.toList sa.data.toList = true := h
      have hq : (sa.toList == sb.toList) = false := by rw [ByteArray.toList_eq, ByteArray.toList_eq]; rw [beq_eq_false_iff_ne]; intro e; rw [e, blt_self] at hg; cases hg
      rw [hl] at e1
      rw [hg] at e2
      rw [hl]
      have hqq : (Op.bytesLess sa.toList sb.toList || sa.toList == sb.toList) = false := by rw [e1, hq]; rfl
      clear h hl hg
      go_enter Tryd.func28, Tryd.ntmps28
      go_wp2
      go_region
      go_wp2
      go_region
      go_wp2
      go_ret
      exact ⟨rfl, HB.out.drew.drew⟩
  · have hX : standV 14 ⟨ak, an, sa⟩ ⟨bk, bn, sb⟩ = (!decide (an < bn)) := by unfold standV lessV; simp [hk]
    rw [hX]
    have k3 : (ak == 3) = false := by rw [beq_eq_false_iff_ne]; exact hk
    clear hX hk
    go_enter Tryd.func28, Tryd.ntmps28
    go_wp2
    go_region
    go_wp2
    go_ret
    exact ⟨rfl, HB.out.drew⟩
set_option maxRecDepth 100000 in
set_option maxHeartbeats 1000000 in
theorem g6nums6_any (a b : Int) (ha : inI a) (hb : inI b) (w : World) : Calls Tryd.prog 29 #[.int .i64 6, .int .i64 a, .int .i64 b] w (RetG (numsV 6 a b) w) := by
  have HS := Lib.hid (fun W => g6product_any a b ha hb W)
  unfold RetN at HS
  rw [show numsV 6 a b = fitV (a * b) from rfl]
  obtain ⟨X, hX⟩ : ∃ X, fitV (a * b) = X := ⟨_, rfl⟩
  rw [hX]
  obtain ⟨z, hz⟩ : ∃ z, a * b = z := ⟨_, rfl⟩
  rw [hz] at hX HS
  by_cases hin : inI z
  · have HX : Hid (X = (numG z, 0)) := Lib.hid (by rw [← hX, fitV_in hin])
    have d : fitB z = true := fitB_iff.2 hin
    rw [d] at HS
    have HIN := Lib.hid hin
    clear hX hz d hin
    have HX0 := Lib.hid (Boxed.new w 0 0 ⟨#[]⟩)
    have HB0 := Lib.hid (box_below w #[.int .i64 0, .int .i64 0, .string ⟨#[]⟩] 23)
    go_enter Tryd.func29, Tryd.ntmps29
    go_wp2_with fail
    refine (HS.out _).mono ?_
    rintro r w5 ⟨⟨n, rfl, hn⟩, rfl⟩
    obtain rfl := hn HIN.out
    clear hn
    go_wp2_with fail
    refine (g6number_any n _).mono ?_
    rintro r w1 ⟨rfl, hb⟩
    have HXb := Lib.hid (HX0.out.below hb)
    have HBb := Lib.hid (HB0.out.trans (hb.mono HB0.out.size))
    clear hb HX0 HB0
    obtain ⟨r0, r1, r2⟩ := HXb.out.cells
    have f0 := HXb.out.frozen 0
    have f1 := HXb.out.frozen 1
    have f2 := HXb.out.frozen 2
    obtain ⟨t0, t1, t2⟩ := (HXb.out.set3' 1 n ⟨#[]⟩).cells
    have HP := Lib.hid (Below.set3' HBb.out (Nat.le_refl _) (.int .i64 1) (.int .i64 n) (.string ⟨#[]⟩))
    go_wp2
    exact bodyPost_ret (v := .tuple #[.agg #[.int .i64 1, .int .i64 n, .string ⟨#[]⟩], .int .i64 0]) (by simp [results, Tryd.results29, go_sem, t0, t1, t2]) rfl ⟨by rw [HX.out]; rfl, HP.out⟩
  · have HX : Hid (X = (V0, 9)) := Lib.hid (by rw [← hX, fitV_out hin])
    have d : fitB z = false := fitB_no.2 hin
    rw [d] at HS
    clear hX hz d hin
    have HX0 := Lib.hid (Boxed.new w 0 0 ⟨#[]⟩)
    have HB0 := Lib.hid (box_below w #[.int .i64 0, .int .i64 0, .string ⟨#[]⟩] 23)
    go_enter Tryd.func29, Tryd.ntmps29
    go_wp2_with fail
    refine (HS.out _).mono ?_
    rintro r w5 ⟨⟨n, rfl, hn⟩, rfl⟩
    go_wp2_with fail
    exact bodyPost_ret (v := .tuple #[.agg #[.int .i64 0, .int .i64 0, .string ⟨#[]⟩], .int .i64 9]) (by simp [results, Tryd.results29, go_sem]) rfl ⟨by rw [HX.out]; rfl, HB0.out⟩
set_option maxRecDepth 100000 in
set_option maxHeartbeats 1000000 in
theorem g6nums9_any (a b : Int) (ha : inI a) (hb : inI b) (w : World) : Calls Tryd.prog 29 #[.int .i64 9, .int .i64 a, .int .i64 b] w (RetG (numsV 9 a b) w) := by
  have HS := Lib.hid (fun W => g6sum_any a b ha hb W)
  unfold RetN at HS
  rw [show numsV 9 a b = fitV (a + b) from rfl]
  obtain ⟨X, hX⟩ : ∃ X, fitV (a + b) = X := ⟨_, rfl⟩
  rw [hX]
  obtain ⟨z, hz⟩ : ∃ z, a + b = z := ⟨_, rfl⟩
  rw [hz] at hX HS
  by_cases hin : inI z
  · have HX : Hid (X = (numG z, 0)) := Lib.hid (by rw [← hX, fitV_in hin])
    have d : fitB z = true := fitB_iff.2 hin
    rw [d] at HS
    have HIN := Lib.hid hin
    clear hX hz d hin
    have HX0 := Lib.hid (Boxed.new w 0 0 ⟨#[]⟩)
    have HB0 := Lib.hid (box_below w #[.int .i64 0, .int .i64 0, .string ⟨#[]⟩] 23)
    go_enter Tryd.func29, Tryd.ntmps29
    go_wp2_with fail
    refine (HS.out _).mono ?_
    rintro r w5 ⟨⟨n, rfl, hn⟩, rfl⟩
    obtain rfl := hn HIN.out
    clear hn
    go_wp2_with fail
    refine (g6number_any n _).mono ?_
    rintro r w1 ⟨rfl, hb⟩
    have HXb := Lib.hid (HX0.out.below hb)
    have HBb := Lib.hid (HB0.out.trans (hb.mono HB0.out.size))
    clear hb HX0 HB0
    obtain ⟨r0, r1, r2⟩ := HXb.out.cells
    have f0 := HXb.out.frozen 0
    have f1 := HXb.out.frozen 1
    have f2 := HXb.out.frozen 2
    obtain ⟨t0, t1, t2⟩ := (HXb.out.set3' 1 n ⟨#[]⟩).cells
    have HP := Lib.hid (Below.set3' HBb.out (Nat.le_refl _) (.int .i64 1) (.int .i64 n) (.string ⟨#[]⟩))
    go_wp2
    exact bodyPost_ret (v := .tuple #[.agg #[.int .i64 1, .int .i64 n, .string ⟨#[]⟩], .int .i64 0]) (by simp [results, Tryd.results29, go_sem, t0, t1, t2]) rfl ⟨by rw [HX.out]; rfl, HP.out⟩
  · have HX : Hid (X = (V0, 9)) := Lib.hid (by rw [← hX, fitV_out hin])
    have d : fitB z = false := fitB_no.2 hin
    rw [d] at HS
    clear hX hz d hin
    have HX0 := Lib.hid (Boxed.new w 0 0 ⟨#[]⟩)
    have HB0 := Lib.hid (box_below w #[.int .i64 0, .int .i64 0, .string ⟨#[]⟩] 23)
    go_enter Tryd.func29, Tryd.ntmps29
    go_wp2_with fail
    refine (HS.out _).mono ?_
    rintro r w5 ⟨⟨n, rfl, hn⟩, rfl⟩
    go_wp2_with fail
    exact bodyPost_ret (v := .tuple #[.agg #[.int .i64 0, .int .i64 0, .string ⟨#[]⟩], .int .i64 9]) (by simp [results, Tryd.results29, go_sem]) rfl ⟨by rw [HX.out]; rfl, HB0.out⟩
set_option maxRecDepth 100000 in
set_option maxHeartbeats 1000000 in
theorem g6nums10_any (a b : Int) (ha : inI a) (hb : inI b) (w : World) : Calls Tryd.prog 29 #[.int .i64 10, .int .i64 a, .int .i64 b] w (RetG (numsV 10 a b) w) := by
  rw [show numsV 10 a b = fitV (a - b) from rfl]
  by_cases hm : b = -9223372036854775808
  · subst hm
    rw [show a - -9223372036854775808 = a + 9223372036854775808 from by omega]
    have d1 : decide (a < 0) = fitB (a + 9223372036854775808) := by rw [Bool.eq_iff_iff, decide_eq_true_iff, fitB_iff]; obtain ⟨_, _⟩ := ha; unfold inI; omega
    obtain ⟨X, hX⟩ : ∃ X, fitV (a + 9223372036854775808) = X := ⟨_, rfl⟩
    rw [hX]
    obtain ⟨n, hz⟩ : ∃ z, a + 9223372036854775808 = z := ⟨_, rfl⟩
    by_cases hin : inI (a + 9223372036854775808)
    · have hw : wrap64 (a + 9223372036854775808) = n := by rw [← hz]; exact IntWalk.wrap64_in _ hin
      have HX : Hid (X = (numG n, 0)) := Lib.hid (by rw [← hX, fitV_in hin, hz])
      have d : decide (a < 0) = true := by rw [d1]; exact fitB_iff.2 hin
      clear hX hz d1 hin ha hb
      have HX0 := Lib.hid (Boxed.new w 0 0 ⟨#[]⟩)
      have HB0 := Lib.hid (box_below w #[.int .i64 0, .int .i64 0, .string ⟨#[]⟩] 23)
      go_enter Tryd.func29, Tryd.ntmps29
      go_wp2_with fail
      refine (g6number_any n _).mono ?_
      rintro r w1 ⟨rfl, hb⟩
      have HXb := Lib.hid (HX0.out.below hb)
      have HBb := Lib.hid (HB0.out.trans (hb.mono HB0.out.size))
      clear hb HX0 HB0
      obtain ⟨r0, r1, r2⟩ := HXb.out.cells
      have f0 := HXb.out.frozen 0
      have f1 := HXb.out.frozen 1
      have f2 := HXb.out.frozen 2
      obtain ⟨t0, t1, t2⟩ := (HXb.out.set3' 1 n ⟨#[]⟩).cells
      have HP := Lib.hid (Below.set3' HBb.out (Nat.le_refl _) (.int .i64 1) (.int .i64 n) (.string ⟨#[]⟩))
      go_wp2
      exact bodyPost_ret (v := .tuple #[.agg #[.int .i64 1, .int .i64 n, .string ⟨#[]⟩], .int .i64 0]) (by simp [results, Tryd.results29, go_sem, t0, t1, t2]) rfl ⟨by rw [HX.out]; rfl, HP.out⟩
    · have HX : Hid (X = (V0, 9)) := Lib.hid (by rw [← hX, fitV_out hin])
      have d : decide (a < 0) = false := by rw [d1]; exact fitB_no.2 hin
      clear hX hz d1 hin ha hb
      have HX0 := Lib.hid (Boxed.new w 0 0 ⟨#[]⟩)
      have HB0 := Lib.hid (box_below w #[.int .i64 0, .int .i64 0, .string ⟨#[]⟩] 23)
      go_enter Tryd.func29, Tryd.ntmps29
      go_wp2_with fail
      exact bodyPost_ret (v := .tuple #[.agg #[.int .i64 0, .int .i64 0, .string ⟨#[]⟩], .int .i64 9]) (by simp [results, Tryd.results29, go_sem]) rfl ⟨by rw [HX.out]; rfl, HB0.out⟩
  · have hnb : inI (-b) := by obtain ⟨_, _⟩ := hb; unfold inI; omega
    have HS := Lib.hid (fun W => g6sum_any a (-b) ha hnb W)
    unfold RetN at HS
    have hw : wrap64 (-b) = -b := IntWalk.wrap64_in _ hnb
    have d0 : (b != -9223372036854775808) = true := by rw [bne_iff_ne]; exact hm
    have d0' : (b == -9223372036854775808) = false := by rw [beq_eq_false_iff_ne]; exact hm
    rw [show a - b = a + -b from rfl]
    clear hnb hm
    obtain ⟨X, hX⟩ : ∃ X, fitV (a + -b) = X := ⟨_, rfl⟩
    rw [hX]
    obtain ⟨z, hz⟩ : ∃ z, a + -b = z := ⟨_, rfl⟩
    rw [hz] at hX HS
    by_cases hin : inI z
    · have HX : Hid (X = (numG z, 0)) := Lib.hid (by rw [← hX, fitV_in hin])
      have d : fitB z = true := fitB_iff.2 hin
      rw [d] at HS
      have HIN := Lib.hid hin
      clear hX hz d hin
      have HX0 := Lib.hid (Boxed.new w 0 0 ⟨#[]⟩)
      have HB0 := Lib.hid (box_below w #[.int .i64 0, .int .i64 0, .string ⟨#[]⟩] 23)
      go_enter Tryd.func29, Tryd.ntmps29
      go_wp2_with fail
      refine (HS.out _).mono ?_
      rintro r w5 ⟨⟨n, rfl, hn⟩, rfl⟩
      obtain rfl := hn HIN.out
      clear hn
      go_wp2_with fail
      refine (g6number_any n _).mono ?_
      rintro r w1 ⟨rfl, hb⟩
      have HXb := Lib.hid (HX0.out.below hb)
      have HBb := Lib.hid (HB0.out.trans (hb.mono HB0.out.size))
      clear hb HX0 HB0
      obtain ⟨r0, r1, r2⟩ := HXb.out.cells
      have f0 := HXb.out.frozen 0
      have f1 := HXb.out.frozen 1
      have f2 := HXb.out.frozen 2
      obtain ⟨t0, t1, t2⟩ := (HXb.out.set3' 1 n ⟨#[]⟩).cells
      have HP := Lib.hid (Below.set3' HBb.out (Nat.le_refl _) (.int .i64 1) (.int .i64 n) (.string ⟨#[]⟩))
      go_wp2
      exact bodyPost_ret (v := .tuple #[.agg #[.int .i64 1, .int .i64 n, .string ⟨#[]⟩], .int .i64 0]) (by simp [results, Tryd.results29, go_sem, t0, t1, t2]) rfl ⟨by rw [HX.out]; rfl, HP.out⟩
    · have HX : Hid (X = (V0, 9)) := Lib.hid (by rw [← hX, fitV_out hin])
      have d : fitB z = false := fitB_no.2 hin
      rw [d] at HS
      clear hX hz d hin
      have HX0 := Lib.hid (Boxed.new w 0 0 ⟨#[]⟩)
      have HB0 := Lib.hid (box_below w #[.int .i64 0, .int .i64 0, .string ⟨#[]⟩] 23)
      go_enter Tryd.func29, Tryd.ntmps29
      go_wp2_with fail
      refine (HS.out _).mono ?_
      rintro r w5 ⟨⟨n, rfl, hn⟩, rfl⟩
      go_wp2_with fail
      exact bodyPost_ret (v := .tuple #[.agg #[.int .i64 0, .int .i64 0, .string ⟨#[]⟩], .int .i64 9]) (by simp [results, Tryd.results29, go_sem]) rfl ⟨by rw [HX.out]; rfl, HB0.out⟩
set_option maxRecDepth 100000 in
set_option maxHeartbeats 1000000 in
theorem g6nums7_any (a b : Int) (ha : inI a) (hb : inI b) (w : World) : Calls Tryd.prog 29 #[.int .i64 7, .int .i64 a, .int .i64 b] w (RetG (numsV 7 a b) w) := by
  by_cases h0 : b = 0
  · subst h0
    have HX : Hid (numsV 7 a 0 = (V0, 62)) := Lib.hid rfl
    obtain ⟨X, hX⟩ : ∃ X, numsV 7 a 0 = X := ⟨_, rfl⟩
    rw [hX] at HX ⊢
    clear hX
    have HX0 := Lib.hid (Boxed.new w 0 0 ⟨#[]⟩)
    have HB0 := Lib.hid (box_below w #[.int .i64 0, .int .i64 0, .string ⟨#[]⟩] 23)
    go_enter Tryd.func29, Tryd.ntmps29
    go_wp2_with fail
    exact bodyPost_ret (v := .tuple #[.agg #[.int .i64 0, .int .i64 0, .string ⟨#[]⟩], .int .i64 62]) (by simp [results, Tryd.results29, go_sem]) rfl ⟨by rw [HX.out]; rfl, HB0.out⟩
  · have hNV : numsV 7 a b = fitV (a.tdiv b) := by unfold numsV; rw [if_neg (by decide), if_neg (by decide), if_neg (by decide), if_neg h0, if_pos rfl]
    rw [hNV]
    have HA := Lib.hid (g6half_any a ha)
    have HB := Lib.hid (g6half_any b hb)
    have hx : a.natAbs ≤ 9223372036854775808 := by obtain ⟨_, _⟩ := ha; omega
    have hy : b.natAbs ≤ 9223372036854775808 := by obtain ⟨_, _⟩ := hb; omega
    have hy0 : 1 ≤ b.natAbs := by omega
    have hsg := sign_tdiv a b
    have b0 : (b == 0) = false := by rw [beq_eq_false_iff_ne]; exact h0
    obtain ⟨x, hxe⟩ : ∃ x, a.natAbs = x := ⟨_, rfl⟩
    obtain ⟨y, hye⟩ : ∃ y, b.natAbs = y := ⟨_, rfl⟩
    rw [hxe] at HA hx hsg
    rw [hye] at HB hy hsg hy0
    obtain ⟨low, hlow⟩ : ∃ low, lowB a b = low := ⟨_, rfl⟩
    rw [hlow] at hsg
    unfold lowB at hlow
    have hlowb : (decide (a < 0) == decide (b < 0)) = !low := by rw [← hlow]; cases decide (a < 0) <;> cases decide (b < 0) <;> rfl
    clear hlow
    have y0 : ((y : Int) == 0) = false := by rw [beq_eq_false_iff_ne]; omega
    have y0n : ¬ y = 0 := by omega
    obtain ⟨Q, hQ⟩ : ∃ Q, x / y = Q := ⟨_, rfl⟩
    have hQx : Q ≤ x := by rw [← hQ]; exact Nat.div_le_self x y
    have hq1 : IntKind.u64.wrap ((x : Int).tdiv (y : Int)) = (Q : Int) := by
      rw [IntWalk.up_tdiv rfl rfl, hQ]
      exact IntWalk.u64_in _ (by omega)
    have hq2 : (x : Int) / (y : Int) = (Q : Int) := by rw [IntWalk.up_div rfl rfl, hQ]
    have hq3 : IntKind.u64.wrap (Q : Int) = (Q : Int) := IntWalk.u64_in _ (by omega)
    rw [hQ] at hsg
    have HS := Lib.hid (fun W => g6signed_any low Q (by omega) W)
    rw [hsg] at HS
    clear hx hy hy0 hsg hQ hQx h0 hxe hye hNV ha hb
    obtain ⟨X, hX⟩ : ∃ X, fitV (a.tdiv b) = X := ⟨_, rfl⟩
    rw [hX]
    obtain ⟨z, hz⟩ : ∃ z, a.tdiv b = z := ⟨_, rfl⟩
    rw [hz] at hX HS
    by_cases hin : inI z
    · have HX : Hid (X = (numG z, 0)) := Lib.hid (by rw [← hX, fitV_in hin])
      have d : fitB z = true := fitB_iff.2 hin
      rw [d] at HS
      have HIN := Lib.hid hin
      clear hX hz d hin
      have HX0 := Lib.hid (Boxed.new w 0 0 ⟨#[]⟩)
      have HB0 := Lib.hid (box_below w #[.int .i64 0, .int .i64 0, .string ⟨#[]⟩] 23)
      go_enter Tryd.func29, Tryd.ntmps29
      go_wp2_with fail
      refine (HA.out _).mono ?_
      rintro r w5 ⟨rfl, rfl⟩
      go_wp2_with fail
      refine (HB.out _).mono ?_
      rintro r w5 ⟨rfl, rfl⟩
      go_wp2_with fail
      refine (HS.out _).mono ?_
      rintro r w5 ⟨⟨n, rfl, hn⟩, rfl⟩
      obtain rfl := hn HIN.out
      clear hn
      go_wp2_with fail
      refine (g6number_any n _).mono ?_
      rintro r w1 ⟨rfl, hb⟩
      have HXb := Lib.hid (HX0.out.below hb)
      have HBb := Lib.hid (HB0.out.trans (hb.mono HB0.out.size))
      clear hb HX0 HB0
      obtain ⟨r0, r1, r2⟩ := HXb.out.cells
      have f0 := HXb.out.frozen 0
      have f1 := HXb.out.frozen 1
      have f2 := HXb.out.frozen 2
      obtain ⟨t0, t1, t2⟩ := (HXb.out.set3' 1 n ⟨#[]⟩).cells
      have HP := Lib.hid (Below.set3' HBb.out (Nat.le_refl _) (.int .i64 1) (.int .i64 n) (.string ⟨#[]⟩))
      go_wp2
      exact bodyPost_ret (v := .tuple #[.agg #[.int .i64 1, .int .i64 n, .string ⟨#[]⟩], .int .i64 0]) (by simp [results, Tryd.results29, go_sem, t0, t1, t2]) rfl ⟨by rw [HX.out]; rfl, HP.out⟩
    · have HX : Hid (X = (V0, 9)) := Lib.hid (by rw [← hX, fitV_out hin])
      have d : fitB z = false := fitB_no.2 hin
      rw [d] at HS
      clear hX hz d hin
      have HX0 := Lib.hid (Boxed.new w 0 0 ⟨#[]⟩)
      have HB0 := Lib.hid (box_below w #[.int .i64 0, .int .i64 0, .string ⟨#[]⟩] 23)
      go_enter Tryd.func29, Tryd.ntmps29
      go_wp2_with fail
      refine (HA.out _).mono ?_
      rintro r w5 ⟨rfl, rfl⟩
      go_wp2_with fail
      refine (HB.out _).mono ?_
      rintro r w5 ⟨rfl, rfl⟩
      go_wp2_with fail
      refine (HS.out _).mono ?_
      rintro r w5 ⟨⟨n, rfl, hn⟩, rfl⟩
      go_wp2_with fail
      exact bodyPost_ret (v := .tuple #[.agg #[.int .i64 0, .int .i64 0, .string ⟨#[]⟩], .int .i64 9]) (by simp [results, Tryd.results29, go_sem]) rfl ⟨by rw [HX.out]; rfl, HB0.out⟩
set_option maxRecDepth 100000 in
set_option maxHeartbeats 1000000 in
theorem g6nums8_any (a b : Int) (ha : inI a) (hb : inI b) (w : World) : Calls Tryd.prog 29 #[.int .i64 8, .int .i64 a, .int .i64 b] w (RetG (numsV 8 a b) w) := by
  by_cases h0 : b = 0
  · subst h0
    have HX : Hid (numsV 8 a 0 = (V0, 62)) := Lib.hid rfl
    obtain ⟨X, hX⟩ : ∃ X, numsV 8 a 0 = X := ⟨_, rfl⟩
    rw [hX] at HX ⊢
    clear hX
    have HX0 := Lib.hid (Boxed.new w 0 0 ⟨#[]⟩)
    have HB0 := Lib.hid (box_below w #[.int .i64 0, .int .i64 0, .string ⟨#[]⟩] 23)
    go_enter Tryd.func29, Tryd.ntmps29
    go_wp2_with fail
    exact bodyPost_ret (v := .tuple #[.agg #[.int .i64 0, .int .i64 0, .string ⟨#[]⟩], .int .i64 62]) (by simp [results, Tryd.results29, go_sem]) rfl ⟨by rw [HX.out]; rfl, HB0.out⟩
  · have hNV : numsV 8 a b = fitV (a.tmod b) := by unfold numsV; rw [if_neg (by decide), if_neg (by decide), if_neg (by decide), if_neg h0, if_neg (by decide)]
    rw [hNV]
    have HA := Lib.hid (g6half_any a ha)
    have HB := Lib.hid (g6half_any b hb)
    have hx : a.natAbs ≤ 9223372036854775808 := by obtain ⟨_, _⟩ := ha; omega
    have hy : b.natAbs ≤ 9223372036854775808 := by obtain ⟨_, _⟩ := hb; omega
    have hy0 : 1 ≤ b.natAbs := by omega
    have hsg := sign_tmod a b
    have b0 : (b == 0) = false := by rw [beq_eq_false_iff_ne]; exact h0
    obtain ⟨x, hxe⟩ : ∃ x, a.natAbs = x := ⟨_, rfl⟩
    obtain ⟨y, hye⟩ : ∃ y, b.natAbs = y := ⟨_, rfl⟩
    rw [hxe] at HA hx hsg
    rw [hye] at HB hy hsg hy0
    obtain ⟨low, hlow⟩ : ∃ low, decide (a < 0) = low := ⟨_, rfl⟩
    rw [hlow] at hsg
    have y0 : ((y : Int) == 0) = false := by rw [beq_eq_false_iff_ne]; omega
    have y0n : ¬ y = 0 := by omega
    obtain ⟨Q, hQ⟩ : ∃ Q, x % y = Q := ⟨_, rfl⟩
    have hQx : Q ≤ x := by rw [← hQ]; exact Nat.mod_le x y
    have hq1 : IntKind.u64.wrap ((x : Int).tmod (y : Int)) = (Q : Int) := by
      rw [IntWalk.up_tmod rfl rfl, hQ]
      exact IntWalk.u64_in _ (by omega)
    have hq2 : (x : Int) % (y : Int) = (Q : Int) := by rw [IntWalk.up_mod rfl rfl, hQ]
    have hq3 : IntKind.u64.wrap (Q : Int) = (Q : Int) := IntWalk.u64_in _ (by omega)
    rw [hQ] at hsg
    have HS := Lib.hid (fun W => g6signed_any low Q (by omega) W)
    rw [hsg] at HS
    clear hx hy hy0 hsg hQ hQx h0 hxe hye hNV ha hb
    obtain ⟨X, hX⟩ : ∃ X, fitV (a.tmod b) = X := ⟨_, rfl⟩
    rw [hX]
    obtain ⟨z, hz⟩ : ∃ z, a.tmod b = z := ⟨_, rfl⟩
    rw [hz] at hX HS
    by_cases hin : inI z
    · have HX : Hid (X = (numG z, 0)) := Lib.hid (by rw [← hX, fitV_in hin])
      have d : fitB z = true := fitB_iff.2 hin
      rw [d] at HS
      have HIN := Lib.hid hin
      clear hX hz d hin
      have HX0 := Lib.hid (Boxed.new w 0 0 ⟨#[]⟩)
      have HB0 := Lib.hid (box_below w #[.int .i64 0, .int .i64 0, .string ⟨#[]⟩] 23)
      go_enter Tryd.func29, Tryd.ntmps29
      go_wp2_with fail
      refine (HA.out _).mono ?_
      rintro r w5 ⟨rfl, rfl⟩
      go_wp2_with fail
      refine (HB.out _).mono ?_
      rintro r w5 ⟨rfl, rfl⟩
      go_wp2_with fail
      refine (HS.out _).mono ?_
      rintro r w5 ⟨⟨n, rfl, hn⟩, rfl⟩
      obtain rfl := hn HIN.out
      clear hn
      go_wp2_with fail
      refine (g6number_any n _).mono ?_
      rintro r w1 ⟨rfl, hb⟩
      have HXb := Lib.hid (HX0.out.below hb)
      have HBb := Lib.hid (HB0.out.trans (hb.mono HB0.out.size))
      clear hb HX0 HB0
      obtain ⟨r0, r1, r2⟩ := HXb.out.cells
      have f0 := HXb.out.frozen 0
      have f1 := HXb.out.frozen 1
      have f2 := HXb.out.frozen 2
      obtain ⟨t0, t1, t2⟩ := (HXb.out.set3' 1 n ⟨#[]⟩).cells
      have HP := Lib.hid (Below.set3' HBb.out (Nat.le_refl _) (.int .i64 1) (.int .i64 n) (.string ⟨#[]⟩))
      go_wp2
      exact bodyPost_ret (v := .tuple #[.agg #[.int .i64 1, .int .i64 n, .string ⟨#[]⟩], .int .i64 0]) (by simp [results, Tryd.results29, go_sem, t0, t1, t2]) rfl ⟨by rw [HX.out]; rfl, HP.out⟩
    · have HX : Hid (X = (V0, 9)) := Lib.hid (by rw [← hX, fitV_out hin])
      have d : fitB z = false := fitB_no.2 hin
      rw [d] at HS
      clear hX hz d hin
      have HX0 := Lib.hid (Boxed.new w 0 0 ⟨#[]⟩)
      have HB0 := Lib.hid (box_below w #[.int .i64 0, .int .i64 0, .string ⟨#[]⟩] 23)
      go_enter Tryd.func29, Tryd.ntmps29
      go_wp2_with fail
      refine (HA.out _).mono ?_
      rintro r w5 ⟨rfl, rfl⟩
      go_wp2_with fail
      refine (HB.out _).mono ?_
      rintro r w5 ⟨rfl, rfl⟩
      go_wp2_with fail
      refine (HS.out _).mono ?_
      rintro r w5 ⟨⟨n, rfl, hn⟩, rfl⟩
      go_wp2_with fail
      exact bodyPost_ret (v := .tuple #[.agg #[.int .i64 0, .int .i64 0, .string ⟨#[]⟩], .int .i64 9]) (by simp [results, Tryd.results29, go_sem]) rfl ⟨by rw [HX.out]; rfl, HB0.out⟩
end Go.Proofs.YtidomoibhjgkjaaDoor
