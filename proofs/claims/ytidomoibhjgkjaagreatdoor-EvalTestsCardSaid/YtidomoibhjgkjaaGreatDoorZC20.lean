import Derived.Test.YtidomoibhjgkjaaGreatDoorZC19
import Derived.Test.YtidomoibhjgkjaaGreatDoorZC18
/-
  Package eval: two values that are compared, put one behind the other, reckoned with.
-/
namespace Go.Proofs.YtidomoibhjgkjaaGreatDoor
open Go.RowKit

def ordB (op way : Int) : Bool := if op = 11 then decide (way < 0) else if op = 12 then decide (way ≤ 0) else if op = 13 then decide (0 < way) else decide (0 ≤ way)
def ordG (op : Int) (a b : V) : V × Int :=
  if (a.k == 1 && b.k == 1) = true then (truthV (ordB op (cmpI a.n b.n)), 0)
  else if (a.k == 3 && b.k == 3) = true then (truthV (ordB op (cmpS a.s.data.toList b.s.data.toList)), 0) else (V0, 40)
def behindG (s t : ByteArray) : V × Int := if 64 < s.size + t.size then (V0, 3) else (⟨3, 0, s ++ t⟩, 0)
def reckG (op : Int) (a b : V) : V × Int := if (a.k == 1 && b.k == 1) = true then numsV op a.n b.n else (V0, 40)

set_option maxRecDepth 100000 in
set_option maxHeartbeats 4000000 in
theorem gOrd11_any (a b : V) (w : World) : Calls Tryz.prog 58 #[.int .i64 11, a.val, b.val] w (RetG (ordG 11 a b) w) := by
  obtain ⟨ak, an, sa⟩ := a
  obtain ⟨bk, bn, sb⟩ := b
  have HQ1 := Lib.hid (fun g c W => gAre_two 1 ⟨ak, an, sa⟩ ⟨bk, bn, sb⟩ g c W)
  have HQ3 := Lib.hid (fun g c W => gAre_two 3 ⟨ak, an, sa⟩ ⟨bk, bn, sb⟩ g c W)
  have HC1 := Lib.hid (fun W => cmpL_any an bn W)
  have HC3 := Lib.hid (fun W => cmpT_any sa sb W)
  simp only [V.val] at HQ1 HQ3 ⊢
  obtain ⟨X, hX⟩ : ∃ X, ordG 11 ⟨ak, an, sa⟩ ⟨bk, bn, sb⟩ = X := ⟨_, rfl⟩
  rw [hX]
  unfold ordG at hX
  simp only at hX
  obtain ⟨q1, hq1⟩ : ∃ q, (ak == 1 && bk == 1) = q := ⟨_, rfl⟩
  obtain ⟨q3, hq3⟩ : ∃ q, (ak == 3 && bk == 3) = q := ⟨_, rfl⟩
  obtain ⟨y1, hy1⟩ : ∃ y, cmpI an bn = y := ⟨_, rfl⟩
  obtain ⟨y3, hy3⟩ : ∃ y, cmpS sa.data.toList sb.data.toList = y := ⟨_, rfl⟩
  rw [hq1] at HQ1 hX
  rw [hq3] at HQ3 hX
  rw [hy1] at HC1 hX
  rw [hy3] at HC3 hX
  have HX := Lib.hid hX.symm
  clear hq1 hq3 hy1 hy3 hX
  have H3 := Lib.hid (Three.new w ⟨ak, an, sa⟩ ⟨bk, bn, sb⟩)
  go_enter Tryz.func58, Tryz.ntmps58
  go_upto_region 1 with fail
  simp only [three_def]
  obtain ⟨g, hg⟩ : ∃ g, w.heap.size = g := ⟨_, rfl⟩
  rw [hg] at H3
  obtain ⟨w3, hw3⟩ : ∃ y, three w ⟨ak, an, sa⟩ ⟨bk, bn, sb⟩ = y := ⟨_, rfl⟩
  rw [hw3] at H3 ⊢
  simp only [hg]
  clear hw3 hg
  obtain ⟨a0, a1, a2⟩ := H3.out.a.cells
  obtain ⟨b0, b1, b2⟩ := H3.out.b.cells
  simp only at a0 a1 a2 b0 b1 b2
  obtain ⟨r0, r1, r2⟩ := H3.out.r.cells
  have f0 := H3.out.r.frozen 0
  have f1 := H3.out.r.frozen 1
  have f2 := H3.out.r.frozen 2
  go_wp2_with fail
  refine (HQ1.out _ _ _ (by simp) (by simp) (by simp) (by simp) (by simp) (by simp)).mono ?_
  rintro r w4 ⟨rfl, hb4⟩
  have H4 := Lib.hid ((H3.out.alloc _).below hb4)
  clear hb4 a0 a1 a2 b0 b1 b2 r0 r1 r2 f0 f1 f2 H3
  have H3 := H4
  clear H4
  obtain ⟨a0, a1, a2⟩ := H3.out.a.cells
  obtain ⟨b0, b1, b2⟩ := H3.out.b.cells
  simp only at a0 a1 a2 b0 b1 b2
  obtain ⟨r0, r1, r2⟩ := H3.out.r.cells
  have f0 := H3.out.r.frozen 0
  have f1 := H3.out.r.frozen 1
  have f2 := H3.out.r.frozen 2
  cases q1
  · go_wp2_with fail
    refine (HQ3.out _ _ _ (by simp) (by simp) (by simp) (by simp) (by simp) (by simp)).mono ?_
    rintro r w4 ⟨rfl, hb5⟩
    have H4 := Lib.hid ((H3.out.alloc _).below hb5)
    clear hb5 a0 a1 a2 b0 b1 b2 r0 r1 r2 f0 f1 f2 H3
    have H3 := H4
    clear H4
    obtain ⟨a0, a1, a2⟩ := H3.out.a.cells
    obtain ⟨b0, b1, b2⟩ := H3.out.b.cells
    simp only at a0 a1 a2 b0 b1 b2
    obtain ⟨r0, r1, r2⟩ := H3.out.r.cells
    have f0 := H3.out.r.frozen 0
    have f1 := H3.out.r.frozen 1
    have f2 := H3.out.r.frozen 2
    cases q3
    · obtain ⟨t0, t1, t2⟩ := (H3.out.r.set3' (0) (0) (⟨#[]⟩)).cells
      have HP := Lib.hid (H3.out.put3 (.int .i64 (0)) (.int .i64 (0)) (.string (⟨#[]⟩)))
      go_wp2
      refine bodyPost_ret (v := .tuple #[.agg #[.int .i64 (0), .int .i64 (0), .string (⟨#[]⟩)], .int .i64 40]) (by simp [results, Tryz.results58, go_sem, t0, t1, t2]) rfl ⟨?_, HP.out⟩
      rw [HX.out]
      rfl
    · obtain ⟨nn, HVB, hnn⟩ : ∃ nn : Int, Hid (∀ W, Calls Tryz.prog 57 #[.bool (decide (y3 < 0))] W fun r w' => r = .returned (.agg #[.int .i64 2, .int .i64 nn, .string ⟨#[]⟩]) ∧ Below W.heap.size W w') ∧ Hid (nn = if (decide (y3 < 0)) = true then 1 else 0) := ⟨_, Lib.hid (fun W => vBool_any _ W), Lib.hid rfl⟩
      go_wp2_with fail
      refine (HC3.out _).mono ?_
      rintro r w6 ⟨rfl, rfl⟩
      go_wp2_with fail
      refine (HVB.out _).mono ?_
      rintro r w7 ⟨rfl, hb7⟩
      have H4 := Lib.hid (H3.out.below hb7)
      clear hb7 a0 a1 a2 b0 b1 b2 r0 r1 r2 f0 f1 f2 H3
      have H3 := H4
      clear H4
      obtain ⟨a0, a1, a2⟩ := H3.out.a.cells
      obtain ⟨b0, b1, b2⟩ := H3.out.b.cells
      simp only at a0 a1 a2 b0 b1 b2
      obtain ⟨r0, r1, r2⟩ := H3.out.r.cells
      have f0 := H3.out.r.frozen 0
      have f1 := H3.out.r.frozen 1
      have f2 := H3.out.r.frozen 2
      obtain ⟨t0, t1, t2⟩ := (H3.out.r.set3' (2) (nn) (⟨#[]⟩)).cells
      have HP := Lib.hid (H3.out.put3 (.int .i64 (2)) (.int .i64 (nn)) (.string (⟨#[]⟩)))
      go_wp2
      refine bodyPost_ret (v := .tuple #[.agg #[.int .i64 (2), .int .i64 (nn), .string (⟨#[]⟩)], .int .i64 0]) (by simp [results, Tryz.results58, go_sem, t0, t1, t2]) rfl ⟨?_, HP.out⟩
      rw [HX.out, hnn.out]
      rfl
  · obtain ⟨nn, HVB, hnn⟩ : ∃ nn : Int, Hid (∀ W, Calls Tryz.prog 57 #[.bool (decide (y1 < 0))] W fun r w' => r = .returned (.agg #[.int .i64 2, .int .i64 nn, .string ⟨#[]⟩]) ∧ Below W.heap.size W w') ∧ Hid (nn = if (decide (y1 < 0)) = true then 1 else 0) := ⟨_, Lib.hid (fun W => vBool_any _ W), Lib.hid rfl⟩
    go_wp2_with fail
    refine (HC1.out _).mono ?_
    rintro r w6 ⟨rfl, rfl⟩
    go_wp2_with fail
    refine (HVB.out _).mono ?_
    rintro r w7 ⟨rfl, hb7⟩
    have H4 := Lib.hid (H3.out.below hb7)
    clear hb7 a0 a1 a2 b0 b1 b2 r0 r1 r2 f0 f1 f2 H3
    have H3 := H4
    clear H4
    obtain ⟨a0, a1, a2⟩ := H3.out.a.cells
    obtain ⟨b0, b1, b2⟩ := H3.out.b.cells
    simp only at a0 a1 a2 b0 b1 b2
    obtain ⟨r0, r1, r2⟩ := H3.out.r.cells
    have f0 := H3.out.r.frozen 0
    have f1 := H3.out.r.frozen 1
    have f2 := H3.out.r.frozen 2
    obtain ⟨t0, t1, t2⟩ := (H3.out.r.set3' (2) (nn) (⟨#[]⟩)).cells
    have HP := Lib.hid (H3.out.put3 (.int .i64 (2)) (.int .i64 (nn)) (.string (⟨#[]⟩)))
    go_wp2
    refine bodyPost_ret (v := .tuple #[.agg #[.int .i64 (2), .int .i64 (nn), .string (⟨#[]⟩)], .int .i64 0]) (by simp [results, Tryz.results58, go_sem, t0, t1, t2]) rfl ⟨?_, HP.out⟩
    rw [HX.out, hnn.out]
    rfl
set_option maxRecDepth 100000 in
set_option maxHeartbeats 4000000 in
theorem gOrd12_any (a b : V) (w : World) : Calls Tryz.prog 58 #[.int .i64 12, a.val, b.val] w (RetG (ordG 12 a b) w) := by
  obtain ⟨ak, an, sa⟩ := a
  obtain ⟨bk, bn, sb⟩ := b
  have HQ1 := Lib.hid (fun g c W => gAre_two 1 ⟨ak, an, sa⟩ ⟨bk, bn, sb⟩ g c W)
  have HQ3 := Lib.hid (fun g c W => gAre_two 3 ⟨ak, an, sa⟩ ⟨bk, bn, sb⟩ g c W)
  have HC1 := Lib.hid (fun W => cmpL_any an bn W)
  have HC3 := Lib.hid (fun W => cmpT_any sa sb W)
  simp only [V.val] at HQ1 HQ3 ⊢
  obtain ⟨X, hX⟩ : ∃ X, ordG 12 ⟨ak, an, sa⟩ ⟨bk, bn, sb⟩ = X := ⟨_, rfl⟩
  rw [hX]
  unfold ordG at hX
  simp only at hX
  obtain ⟨q1, hq1⟩ : ∃ q, (ak == 1 && bk == 1) = q := ⟨_, rfl⟩
  obtain ⟨q3, hq3⟩ : ∃ q, (ak == 3 && bk == 3) = q := ⟨_, rfl⟩
  obtain ⟨y1, hy1⟩ : ∃ y, cmpI an bn = y := ⟨_, rfl⟩
  obtain ⟨y3, hy3⟩ : ∃ y, cmpS sa.data.toList sb.data.toList = y := ⟨_, rfl⟩
  rw [hq1] at HQ1 hX
  rw [hq3] at HQ3 hX
  rw [hy1] at HC1 hX
  rw [hy3] at HC3 hX
  have HX := Lib.hid hX.symm
  clear hq1 hq3 hy1 hy3 hX
  have H3 := Lib.hid (Three.new w ⟨ak, an, sa⟩ ⟨bk, bn, sb⟩)
  go_enter Tryz.func58, Tryz.ntmps58
  go_upto_region 1 with fail
  simp only [three_def]
  obtain ⟨g, hg⟩ : ∃ g, w.heap.size = g := ⟨_, rfl⟩
  rw [hg] at H3
  obtain ⟨w3, hw3⟩ : ∃ y, three w ⟨ak, an, sa⟩ ⟨bk, bn, sb⟩ = y := ⟨_, rfl⟩
  rw [hw3] at H3 ⊢
  simp only [hg]
  clear hw3 hg
  obtain ⟨a0, a1, a2⟩ := H3.out.a.cells
  obtain ⟨b0, b1, b2⟩ := H3.out.b.cells
  simp only at a0 a1 a2 b0 b1 b2
  obtain ⟨r0, r1, r2⟩ := H3.out.r.cells
  have f0 := H3.out.r.frozen 0
  have f1 := H3.out.r.frozen 1
  have f2 := H3.out.r.frozen 2
  go_wp2_with fail
  refine (HQ1.out _ _ _ (by simp) (by simp) (by simp) (by simp) (by simp) (by simp)).mono ?_
  rintro r w4 ⟨rfl, hb4⟩
  have H4 := Lib.hid ((H3.out.alloc _).below hb4)
  clear hb4 a0 a1 a2 b0 b1 b2 r0 r1 r2 f0 f1 f2 H3
  have H3 := H4
  clear H4
  obtain ⟨a0, a1, a2⟩ := H3.out.a.cells
  obtain ⟨b0, b1, b2⟩ := H3.out.b.cells
  simp only at a0 a1 a2 b0 b1 b2
  obtain ⟨r0, r1, r2⟩ := H3.out.r.cells
  have f0 := H3.out.r.frozen 0
  have f1 := H3.out.r.frozen 1
  have f2 := H3.out.r.frozen 2
  cases q1
  · go_wp2_with fail
    refine (HQ3.out _ _ _ (by simp) (by simp) (by simp) (by simp) (by simp) (by simp)).mono ?_
    rintro r w4 ⟨rfl, hb5⟩
    have H4 := Lib.hid ((H3.out.alloc _).below hb5)
    clear hb5 a0 a1 a2 b0 b1 b2 r0 r1 r2 f0 f1 f2 H3
    have H3 := H4
    clear H4
    obtain ⟨a0, a1, a2⟩ := H3.out.a.cells
    obtain ⟨b0, b1, b2⟩ := H3.out.b.cells
    simp only at a0 a1 a2 b0 b1 b2
    obtain ⟨r0, r1, r2⟩ := H3.out.r.cells
    have f0 := H3.out.r.frozen 0
    have f1 := H3.out.r.frozen 1
    have f2 := H3.out.r.frozen 2
    cases q3
    · obtain ⟨t0, t1, t2⟩ := (H3.out.r.set3' (0) (0) (⟨#[]⟩)).cells
      have HP := Lib.hid (H3.out.put3 (.int .i64 (0)) (.int .i64 (0)) (.string (⟨#[]⟩)))
      go_wp2
      refine bodyPost_ret (v := .tuple #[.agg #[.int .i64 (0), .int .i64 (0), .string (⟨#[]⟩)], .int .i64 40]) (by simp [results, Tryz.results58, go_sem, t0, t1, t2]) rfl ⟨?_, HP.out⟩
      rw [HX.out]
      rfl
    · obtain ⟨nn, HVB, hnn⟩ : ∃ nn : Int, Hid (∀ W, Calls Tryz.prog 57 #[.bool (decide (y3 ≤ 0))] W fun r w' => r = .returned (.agg #[.int .i64 2, .int .i64 nn, .string ⟨#[]⟩]) ∧ Below W.heap.size W w') ∧ Hid (nn = if (decide (y3 ≤ 0)) = true then 1 else 0) := ⟨_, Lib.hid (fun W => vBool_any _ W), Lib.hid rfl⟩
      go_wp2_with fail
      refine (HC3.out _).mono ?_
      rintro r w6 ⟨rfl, rfl⟩
      go_wp2_with fail
      refine (HVB.out _).mono ?_
      rintro r w7 ⟨rfl, hb7⟩
      have H4 := Lib.hid (H3.out.below hb7)
      clear hb7 a0 a1 a2 b0 b1 b2 r0 r1 r2 f0 f1 f2 H3
      have H3 := H4
      clear H4
      obtain ⟨a0, a1, a2⟩ := H3.out.a.cells
      obtain ⟨b0, b1, b2⟩ := H3.out.b.cells
      simp only at a0 a1 a2 b0 b1 b2
      obtain ⟨r0, r1, r2⟩ := H3.out.r.cells
      have f0 := H3.out.r.frozen 0
      have f1 := H3.out.r.frozen 1
      have f2 := H3.out.r.frozen 2
      obtain ⟨t0, t1, t2⟩ := (H3.out.r.set3' (2) (nn) (⟨#[]⟩)).cells
      have HP := Lib.hid (H3.out.put3 (.int .i64 (2)) (.int .i64 (nn)) (.string (⟨#[]⟩)))
      go_wp2
      refine bodyPost_ret (v := .tuple #[.agg #[.int .i64 (2), .int .i64 (nn), .string (⟨#[]⟩)], .int .i64 0]) (by simp [results, Tryz.results58, go_sem, t0, t1, t2]) rfl ⟨?_, HP.out⟩
      rw [HX.out, hnn.out]
      rfl
  · obtain ⟨nn, HVB, hnn⟩ : ∃ nn : Int, Hid (∀ W, Calls Tryz.prog 57 #[.bool (decide (y1 ≤ 0))] W fun r w' => r = .returned (.agg #[.int .i64 2, .int .i64 nn, .string ⟨#[]⟩]) ∧ Below W.heap.size W w') ∧ Hid (nn = if (decide (y1 ≤ 0)) = true then 1 else 0) := ⟨_, Lib.hid (fun W => vBool_any _ W), Lib.hid rfl⟩
    go_wp2_with fail
    refine (HC1.out _).mono ?_
    rintro r w6 ⟨rfl, rfl⟩
    go_wp2_with fail
    refine (HVB.out _).mono ?_
    rintro r w7 ⟨rfl, hb7⟩
    have H4 := Lib.hid (H3.out.below hb7)
    clear hb7 a0 a1 a2 b0 b1 b2 r0 r1 r2 f0 f1 f2 H3
    have H3 := H4
    clear H4
    obtain ⟨a0, a1, a2⟩ := H3.out.a.cells
    obtain ⟨b0, b1, b2⟩ := H3.out.b.cells
    simp only at a0 a1 a2 b0 b1 b2
    obtain ⟨r0, r1, r2⟩ := H3.out.r.cells
    have f0 := H3.out.r.frozen 0
    have f1 := H3.out.r.frozen 1
    have f2 := H3.out.r.frozen 2
    obtain ⟨t0, t1, t2⟩ := (H3.out.r.set3' (2) (nn) (⟨#[]⟩)).cells
    have HP := Lib.hid (H3.out.put3 (.int .i64 (2)) (.int .i64 (nn)) (.string (⟨#[]⟩)))
    go_wp2
    refine bodyPost_ret (v := .tuple #[.agg #[.int .i64 (2), .int .i64 (nn), .string (⟨#[]⟩)], .int .i64 0]) (by simp [results, Tryz.results58, go_sem, t0, t1, t2]) rfl ⟨?_, HP.out⟩
    rw [HX.out, hnn.out]
    rfl
set_option maxRecDepth 100000 in
set_option maxHeartbeats 4000000 in
theorem gOrd13_any (a b : V) (w : World) : Calls Tryz.prog 58 #[.int .i64 13, a.val, b.val] w (RetG (ordG 13 a b) w) := by
  obtain ⟨ak, an, sa⟩ := a
  obtain ⟨bk, bn, sb⟩ := b
  have HQ1 := Lib.hid (fun g c W => gAre_two 1 ⟨ak, an, sa⟩ ⟨bk, bn, sb⟩ g c W)
  have HQ3 := Lib.hid (fun g c W => gAre_two 3 ⟨ak, an, sa⟩ ⟨bk, bn, sb⟩ g c W)
  have HC1 := Lib.hid (fun W => cmpL_any an bn W)
  have HC3 := Lib.hid (fun W => cmpT_any sa sb W)
  simp only [V.val] at HQ1 HQ3 ⊢
  obtain ⟨X, hX⟩ : ∃ X, ordG 13 ⟨ak, an, sa⟩ ⟨bk, bn, sb⟩ = X := ⟨_, rfl⟩
  rw [hX]
  unfold ordG at hX
  simp only at hX
  obtain ⟨q1, hq1⟩ : ∃ q, (ak == 1 && bk == 1) = q := ⟨_, rfl⟩
  obtain ⟨q3, hq3⟩ : ∃ q, (ak == 3 && bk == 3) = q := ⟨_, rfl⟩
  obtain ⟨y1, hy1⟩ : ∃ y, cmpI an bn = y := ⟨_, rfl⟩
  obtain ⟨y3, hy3⟩ : ∃ y, cmpS sa.data.toList sb.data.toList = y := ⟨_, rfl⟩
  rw [hq1] at HQ1 hX
  rw [hq3] at HQ3 hX
  rw [hy1] at HC1 hX
  rw [hy3] at HC3 hX
  have HX := Lib.hid hX.symm
  clear hq1 hq3 hy1 hy3 hX
  have H3 := Lib.hid (Three.new w ⟨ak, an, sa⟩ ⟨bk, bn, sb⟩)
  go_enter Tryz.func58, Tryz.ntmps58
  go_upto_region 1 with fail
  simp only [three_def]
  obtain ⟨g, hg⟩ : ∃ g, w.heap.size = g := ⟨_, rfl⟩
  rw [hg] at H3
  obtain ⟨w3, hw3⟩ : ∃ y, three w ⟨ak, an, sa⟩ ⟨bk, bn, sb⟩ = y := ⟨_, rfl⟩
  rw [hw3] at H3 ⊢
  simp only [hg]
  clear hw3 hg
  obtain ⟨a0, a1, a2⟩ := H3.out.a.cells
  obtain ⟨b0, b1, b2⟩ := H3.out.b.cells
  simp only at a0 a1 a2 b0 b1 b2
  obtain ⟨r0, r1, r2⟩ := H3.out.r.cells
  have f0 := H3.out.r.frozen 0
  have f1 := H3.out.r.frozen 1
  have f2 := H3.out.r.frozen 2
  go_wp2_with fail
  refine (HQ1.out _ _ _ (by simp) (by simp) (by simp) (by simp) (by simp) (by simp)).mono ?_
  rintro r w4 ⟨rfl, hb4⟩
  have H4 := Lib.hid ((H3.out.alloc _).below hb4)
  clear hb4 a0 a1 a2 b0 b1 b2 r0 r1 r2 f0 f1 f2 H3
  have H3 := H4
  clear H4
  obtain ⟨a0, a1, a2⟩ := H3.out.a.cells
  obtain ⟨b0, b1, b2⟩ := H3.out.b.cells
  simp only at a0 a1 a2 b0 b1 b2
  obtain ⟨r0, r1, r2⟩ := H3.out.r.cells
  have f0 := H3.out.r.frozen 0
  have f1 := H3.out.r.frozen 1
  have f2 := H3.out.r.frozen 2
  cases q1
  · go_wp2_with fail
    refine (HQ3.out _ _ _ (by simp) (by simp) (by simp) (by simp) (by simp) (by simp)).mono ?_
    rintro r w4 ⟨rfl, hb5⟩
    have H4 := Lib.hid ((H3.out.alloc _).below hb5)
    clear hb5 a0 a1 a2 b0 b1 b2 r0 r1 r2 f0 f1 f2 H3
    have H3 := H4
    clear H4
    obtain ⟨a0, a1, a2⟩ := H3.out.a.cells
    obtain ⟨b0, b1, b2⟩ := H3.out.b.cells
    simp only at a0 a1 a2 b0 b1 b2
    obtain ⟨r0, r1, r2⟩ := H3.out.r.cells
    have f0 := H3.out.r.frozen 0
    have f1 := H3.out.r.frozen 1
    have f2 := H3.out.r.frozen 2
    cases q3
    · obtain ⟨t0, t1, t2⟩ := (H3.out.r.set3' (0) (0) (⟨#[]⟩)).cells
      have HP := Lib.hid (H3.out.put3 (.int .i64 (0)) (.int .i64 (0)) (.string (⟨#[]⟩)))
      go_wp2
      refine bodyPost_ret (v := .tuple #[.agg #[.int .i64 (0), .int .i64 (0), .string (⟨#[]⟩)], .int .i64 40]) (by simp [results, Tryz.results58, go_sem, t0, t1, t2]) rfl ⟨?_, HP.out⟩
      rw [HX.out]
      rfl
    · obtain ⟨nn, HVB, hnn⟩ : ∃ nn : Int, Hid (∀ W, Calls Tryz.prog 57 #[.bool (decide (0 < y3))] W fun r w' => r = .returned (.agg #[.int .i64 2, .int .i64 nn, .string ⟨#[]⟩]) ∧ Below W.heap.size W w') ∧ Hid (nn = if (decide (0 < y3)) = true then 1 else 0) := ⟨_, Lib.hid (fun W => vBool_any _ W), Lib.hid rfl⟩
      go_wp2_with fail
      refine (HC3.out _).mono ?_
      rintro r w6 ⟨rfl, rfl⟩
      go_wp2_with fail
      refine (HVB.out _).mono ?_
      rintro r w7 ⟨rfl, hb7⟩
      have H4 := Lib.hid (H3.out.below hb7)
      clear hb7 a0 a1 a2 b0 b1 b2 r0 r1 r2 f0 f1 f2 H3
      have H3 := H4
      clear H4
      obtain ⟨a0, a1, a2⟩ := H3.out.a.cells
      obtain ⟨b0, b1, b2⟩ := H3.out.b.cells
      simp only at a0 a1 a2 b0 b1 b2
      obtain ⟨r0, r1, r2⟩ := H3.out.r.cells
      have f0 := H3.out.r.frozen 0
      have f1 := H3.out.r.frozen 1
      have f2 := H3.out.r.frozen 2
      obtain ⟨t0, t1, t2⟩ := (H3.out.r.set3' (2) (nn) (⟨#[]⟩)).cells
      have HP := Lib.hid (H3.out.put3 (.int .i64 (2)) (.int .i64 (nn)) (.string (⟨#[]⟩)))
      go_wp2
      refine bodyPost_ret (v := .tuple #[.agg #[.int .i64 (2), .int .i64 (nn), .string (⟨#[]⟩)], .int .i64 0]) (by simp [results, Tryz.results58, go_sem, t0, t1, t2]) rfl ⟨?_, HP.out⟩
      rw [HX.out, hnn.out]
      rfl
  · obtain ⟨nn, HVB, hnn⟩ : ∃ nn : Int, Hid (∀ W, Calls Tryz.prog 57 #[.bool (decide (0 < y1))] W fun r w' => r = .returned (.agg #[.int .i64 2, .int .i64 nn, .string ⟨#[]⟩]) ∧ Below W.heap.size W w') ∧ Hid (nn = if (decide (0 < y1)) = true then 1 else 0) := ⟨_, Lib.hid (fun W => vBool_any _ W), Lib.hid rfl⟩
    go_wp2_with fail
    refine (HC1.out _).mono ?_
    rintro r w6 ⟨rfl, rfl⟩
    go_wp2_with fail
    refine (HVB.out _).mono ?_
    rintro r w7 ⟨rfl, hb7⟩
    have H4 := Lib.hid (H3.out.below hb7)
    clear hb7 a0 a1 a2 b0 b1 b2 r0 r1 r2 f0 f1 f2 H3
    have H3 := H4
    clear H4
    obtain ⟨a0, a1, a2⟩ := H3.out.a.cells
    obtain ⟨b0, b1, b2⟩ := H3.out.b.cells
    simp only at a0 a1 a2 b0 b1 b2
    obtain ⟨r0, r1, r2⟩ := H3.out.r.cells
    have f0 := H3.out.r.frozen 0
    have f1 := H3.out.r.frozen 1
    have f2 := H3.out.r.frozen 2
    obtain ⟨t0, t1, t2⟩ := (H3.out.r.set3' (2) (nn) (⟨#[]⟩)).cells
    have HP := Lib.hid (H3.out.put3 (.int .i64 (2)) (.int .i64 (nn)) (.string (⟨#[]⟩)))
    go_wp2
    refine bodyPost_ret (v := .tuple #[.agg #[.int .i64 (2), .int .i64 (nn), .string (⟨#[]⟩)], .int .i64 0]) (by simp [results, Tryz.results58, go_sem, t0, t1, t2]) rfl ⟨?_, HP.out⟩
    rw [HX.out, hnn.out]
    rfl
set_option maxRecDepth 100000 in
set_option maxHeartbeats 4000000 in
theorem gOrd14_any (a b : V) (w : World) : Calls Tryz.prog 58 #[.int .i64 14, a.val, b.val] w (RetG (ordG 14 a b) w) := by
  obtain ⟨ak, an, sa⟩ := a
  obtain ⟨bk, bn, sb⟩ := b
  have HQ1 := Lib.hid (fun g c W => gAre_two 1 ⟨ak, an, sa⟩ ⟨bk, bn, sb⟩ g c W)
  have HQ3 := Lib.hid (fun g c W => gAre_two 3 ⟨ak, an, sa⟩ ⟨bk, bn, sb⟩ g c W)
  have HC1 := Lib.hid (fun W => cmpL_any an bn W)
  have HC3 := Lib.hid (fun W => cmpT_any sa sb W)
  simp only [V.val] at HQ1 HQ3 ⊢
  obtain ⟨X, hX⟩ : ∃ X, ordG 14 ⟨ak, an, sa⟩ ⟨bk, bn, sb⟩ = X := ⟨_, rfl⟩
  rw [hX]
  unfold ordG at hX
  simp only at hX
  obtain ⟨q1, hq1⟩ : ∃ q, (ak == 1 && bk == 1) = q := ⟨_, rfl⟩
  obtain ⟨q3, hq3⟩ : ∃ q, (ak == 3 && bk == 3) = q := ⟨_, rfl⟩
  obtain ⟨y1, hy1⟩ : ∃ y, cmpI an bn = y := ⟨_, rfl⟩
  obtain ⟨y3, hy3⟩ : ∃ y, cmpS sa.data.toList sb.data.toList = y := ⟨_, rfl⟩
  rw [hq1] at HQ1 hX
  rw [hq3] at HQ3 hX
  rw [hy1] at HC1 hX
  rw [hy3] at HC3 hX
  have HX := Lib.hid hX.symm
  clear hq1 hq3 hy1 hy3 hX
  have H3 := Lib.hid (Three.new w ⟨ak, an, sa⟩ ⟨bk, bn, sb⟩)
  go_enter Tryz.func58, Tryz.ntmps58
  go_upto_region 1 with fail
  simp only [three_def]
  obtain ⟨g, hg⟩ : ∃ g, w.heap.size = g := ⟨_, rfl⟩
  rw [hg] at H3
  obtain ⟨w3, hw3⟩ : ∃ y, three w ⟨ak, an, sa⟩ ⟨bk, bn, sb⟩ = y := ⟨_, rfl⟩
  rw [hw3] at H3 ⊢
  simp only [hg]
  clear hw3 hg
  obtain ⟨a0, a1, a2⟩ := H3.out.a.cells
  obtain ⟨b0, b1, b2⟩ := H3.out.b.cells
  simp only at a0 a1 a2 b0 b1 b2
  obtain ⟨r0, r1, r2⟩ := H3.out.r.cells
  have f0 := H3.out.r.frozen 0
  have f1 := H3.out.r.frozen 1
  have f2 := H3.out.r.frozen 2
  go_wp2_with fail
  refine (HQ1.out _ _ _ (by simp) (by simp) (by simp) (by simp) (by simp) (by simp)).mono ?_
  rintro r w4 ⟨rfl, hb4⟩
  have H4 := Lib.hid ((H3.out.alloc _).below hb4)
  clear hb4 a0 a1 a2 b0 b1 b2 r0 r1 r2 f0 f1 f2 H3
  have H3 := H4
  clear H4
  obtain ⟨a0, a1, a2⟩ := H3.out.a.cells
  obtain ⟨b0, b1, b2⟩ := H3.out.b.cells
  simp only at a0 a1 a2 b0 b1 b2
  obtain ⟨r0, r1, r2⟩ := H3.out.r.cells
  have f0 := H3.out.r.frozen 0
  have f1 := H3.out.r.frozen 1
  have f2 := H3.out.r.frozen 2
  cases q1
  · go_wp2_with fail
    refine (HQ3.out _ _ _ (by simp) (by simp) (by simp) (by simp) (by simp) (by simp)).mono ?_
    rintro r w4 ⟨rfl, hb5⟩
    have H4 := Lib.hid ((H3.out.alloc _).below hb5)
    clear hb5 a0 a1 a2 b0 b1 b2 r0 r1 r2 f0 f1 f2 H3
    have H3 := H4
    clear H4
    obtain ⟨a0, a1, a2⟩ := H3.out.a.cells
    obtain ⟨b0, b1, b2⟩ := H3.out.b.cells
    simp only at a0 a1 a2 b0 b1 b2
    obtain ⟨r0, r1, r2⟩ := H3.out.r.cells
    have f0 := H3.out.r.frozen 0
    have f1 := H3.out.r.frozen 1
    have f2 := H3.out.r.frozen 2
    cases q3
    · obtain ⟨t0, t1, t2⟩ := (H3.out.r.set3' (0) (0) (⟨#[]⟩)).cells
      have HP := Lib.hid (H3.out.put3 (.int .i64 (0)) (.int .i64 (0)) (.string (⟨#[]⟩)))
      go_wp2
      refine bodyPost_ret (v := .tuple #[.agg #[.int .i64 (0), .int .i64 (0), .string (⟨#[]⟩)], .int .i64 40]) (by simp [results, Tryz.results58, go_sem, t0, t1, t2]) rfl ⟨?_, HP.out⟩
      rw [HX.out]
      rfl
    · obtain ⟨nn, HVB, hnn⟩ : ∃ nn : Int, Hid (∀ W, Calls Tryz.prog 57 #[.bool (decide (0 ≤ y3))] W fun r w' => r = .returned (.agg #[.int .i64 2, .int .i64 nn, .string ⟨#[]⟩]) ∧ Below W.heap.size W w') ∧ Hid (nn = if (decide (0 ≤ y3)) = true then 1 else 0) := ⟨_, Lib.hid (fun W => vBool_any _ W), Lib.hid rfl⟩
      go_wp2_with fail
      refine (HC3.out _).mono ?_
      rintro r w6 ⟨rfl, rfl⟩
      go_wp2_with fail
      refine (HVB.out _).mono ?_
      rintro r w7 ⟨rfl, hb7⟩
      have H4 := Lib.hid (H3.out.below hb7)
      clear hb7 a0 a1 a2 b0 b1 b2 r0 r1 r2 f0 f1 f2 H3
      have H3 := H4
      clear H4
      obtain ⟨a0, a1, a2⟩ := H3.out.a.cells
      obtain ⟨b0, b1, b2⟩ := H3.out.b.cells
      simp only at a0 a1 a2 b0 b1 b2
      obtain ⟨r0, r1, r2⟩ := H3.out.r.cells
      have f0 := H3.out.r.frozen 0
      have f1 := H3.out.r.frozen 1
      have f2 := H3.out.r.frozen 2
      obtain ⟨t0, t1, t2⟩ := (H3.out.r.set3' (2) (nn) (⟨#[]⟩)).cells
      have HP := Lib.hid (H3.out.put3 (.int .i64 (2)) (.int .i64 (nn)) (.string (⟨#[]⟩)))
      go_wp2
      refine bodyPost_ret (v := .tuple #[.agg #[.int .i64 (2), .int .i64 (nn), .string (⟨#[]⟩)], .int .i64 0]) (by simp [results, Tryz.results58, go_sem, t0, t1, t2]) rfl ⟨?_, HP.out⟩
      rw [HX.out, hnn.out]
      rfl
  · obtain ⟨nn, HVB, hnn⟩ : ∃ nn : Int, Hid (∀ W, Calls Tryz.prog 57 #[.bool (decide (0 ≤ y1))] W fun r w' => r = .returned (.agg #[.int .i64 2, .int .i64 nn, .string ⟨#[]⟩]) ∧ Below W.heap.size W w') ∧ Hid (nn = if (decide (0 ≤ y1)) = true then 1 else 0) := ⟨_, Lib.hid (fun W => vBool_any _ W), Lib.hid rfl⟩
    go_wp2_with fail
    refine (HC1.out _).mono ?_
    rintro r w6 ⟨rfl, rfl⟩
    go_wp2_with fail
    refine (HVB.out _).mono ?_
    rintro r w7 ⟨rfl, hb7⟩
    have H4 := Lib.hid (H3.out.below hb7)
    clear hb7 a0 a1 a2 b0 b1 b2 r0 r1 r2 f0 f1 f2 H3
    have H3 := H4
    clear H4
    obtain ⟨a0, a1, a2⟩ := H3.out.a.cells
    obtain ⟨b0, b1, b2⟩ := H3.out.b.cells
    simp only at a0 a1 a2 b0 b1 b2
    obtain ⟨r0, r1, r2⟩ := H3.out.r.cells
    have f0 := H3.out.r.frozen 0
    have f1 := H3.out.r.frozen 1
    have f2 := H3.out.r.frozen 2
    obtain ⟨t0, t1, t2⟩ := (H3.out.r.set3' (2) (nn) (⟨#[]⟩)).cells
    have HP := Lib.hid (H3.out.put3 (.int .i64 (2)) (.int .i64 (nn)) (.string (⟨#[]⟩)))
    go_wp2
    refine bodyPost_ret (v := .tuple #[.agg #[.int .i64 (2), .int .i64 (nn), .string (⟨#[]⟩)], .int .i64 0]) (by simp [results, Tryz.results58, go_sem, t0, t1, t2]) rfl ⟨?_, HP.out⟩
    rw [HX.out, hnn.out]
    rfl
set_option maxRecDepth 100000 in
set_option maxHeartbeats 2000000 in
theorem gBehind_any (s t : ByteArray) (w : World) (hs : s.size ≤ 1000000) (ht : t.size ≤ 1000000) : Calls Tryz.prog 59 #[.string s, .string t] w (RetG (behindG s t) w) := by
  have HX0 := Lib.hid (Boxed.new w 0 0 ⟨#[]⟩)
  have HB0 := Lib.hid (box_below w #[.int .i64 0, .int .i64 0, .string ⟨#[]⟩] 27)
  obtain ⟨X, hX⟩ : ∃ X, behindG s t = X := ⟨_, rfl⟩
  rw [hX]
  unfold behindG at hX
  by_cases h : 64 < s.size + t.size
  · rw [if_pos h] at hX
    have HX := Lib.hid hX.symm
    have d : decide ((64 : Int) < (s.size : Int) + (t.size : Int)) = true := by rw [decide_eq_true_iff]; omega
    clear hX h
    go_enter Tryz.func59, Tryz.ntmps59
    go_wp2
    refine bodyPost_ret (v := .tuple #[.agg #[.int .i64 0, .int .i64 0, .string ⟨#[]⟩], .int .i64 3]) (by simp [results, Tryz.results59, go_sem]) rfl ⟨?_, HB0.out⟩
    rw [HX.out]
    rfl
  · rw [if_neg h] at hX
    have HX := Lib.hid hX.symm
    have d : decide ((64 : Int) < (s.size : Int) + (t.size : Int)) = false := by rw [decide_eq_false_iff_not]; omega
    have hsz : (s ++ t).size ≤ 2000000 := by rw [ByteArray.size_append]; omega
    clear hX h
    go_enter Tryz.func59, Tryz.ntmps59
    go_wp2_with fail
    refine (vText_any _ _).mono ?_
    rintro r w1 ⟨rfl, hb⟩
    have HXa := Lib.hid (HX0.out.below hb)
    have HB := Lib.hid (HB0.out.trans (hb.mono HB0.out.size))
    clear hb HX0 HB0
    obtain ⟨r0, r1, r2⟩ := HXa.out.cells
    have f0 := HXa.out.frozen 0
    have f1 := HXa.out.frozen 1
    have f2 := HXa.out.frozen 2
    obtain ⟨t0, t1, t2⟩ := (HXa.out.set3' 3 0 (s ++ t)).cells
    have HP := Lib.hid (Below.set3' HB.out (Nat.le_refl _) (.int .i64 3) (.int .i64 0) (.string (s ++ t)))
    go_wp2
    refine bodyPost_ret (v := .tuple #[.agg #[.int .i64 3, .int .i64 0, .string (s ++ t)], .int .i64 0]) (by simp [results, Tryz.results59, go_sem, t0, t1, t2]) rfl ⟨?_, HP.out⟩
    rw [HX.out]
    rfl
set_option maxRecDepth 100000 in
set_option maxHeartbeats 4000000 in
theorem gMul_any (a b : V) (w : World) (ha : inI a.n) (hb : inI b.n) : Calls Tryz.prog 60 #[.int .i64 6, a.val, b.val] w (RetG (reckG 6 a b) w) := by
  obtain ⟨ak, an, sa⟩ := a
  obtain ⟨bk, bn, sb⟩ := b
  have HQ := Lib.hid (fun g c W => gAre_two 1 ⟨ak, an, sa⟩ ⟨bk, bn, sb⟩ g c W)
  simp only [V.val] at HQ ha hb ⊢
  obtain ⟨X, hX⟩ : ∃ X, reckG 6 ⟨ak, an, sa⟩ ⟨bk, bn, sb⟩ = X := ⟨_, rfl⟩
  rw [hX]
  unfold reckG at hX
  simp only at hX
  obtain ⟨q, hq⟩ : ∃ q, (ak == 1 && bk == 1) = q := ⟨_, rfl⟩
  rw [hq] at HQ hX
  have HX := Lib.hid hX.symm
  have HA := Lib.hid ha
  have HBn := Lib.hid hb
  clear hq hX ha hb
  have H3 := Lib.hid (Three.new w ⟨ak, an, sa⟩ ⟨bk, bn, sb⟩)
  go_enter Tryz.func60, Tryz.ntmps60
  go_upto_region 1 with fail
  simp only [three_def]
  obtain ⟨g, hg⟩ : ∃ g, w.heap.size = g := ⟨_, rfl⟩
  rw [hg] at H3
  obtain ⟨w3, hw3⟩ : ∃ y, three w ⟨ak, an, sa⟩ ⟨bk, bn, sb⟩ = y := ⟨_, rfl⟩
  rw [hw3] at H3 ⊢
  simp only [hg]
  clear hw3 hg
  obtain ⟨a0, a1, a2⟩ := H3.out.a.cells
  obtain ⟨b0, b1, b2⟩ := H3.out.b.cells
  simp only at a0 a1 a2 b0 b1 b2
  obtain ⟨r0, r1, r2⟩ := H3.out.r.cells
  have f0 := H3.out.r.frozen 0
  have f1 := H3.out.r.frozen 1
  have f2 := H3.out.r.frozen 2
  go_wp2_with fail
  refine (HQ.out _ _ _ (by simp) (by simp) (by simp) (by simp) (by simp) (by simp)).mono ?_
  rintro r w4 ⟨rfl, hb4⟩
  have H4 := Lib.hid ((H3.out.alloc _).below hb4)
  clear hb4 a0 a1 a2 b0 b1 b2 r0 r1 r2 f0 f1 f2 H3
  have H3 := H4
  clear H4
  obtain ⟨a0, a1, a2⟩ := H3.out.a.cells
  obtain ⟨b0, b1, b2⟩ := H3.out.b.cells
  simp only at a0 a1 a2 b0 b1 b2
  obtain ⟨r0, r1, r2⟩ := H3.out.r.cells
  have f0 := H3.out.r.frozen 0
  have f1 := H3.out.r.frozen 1
  have f2 := H3.out.r.frozen 2
  cases q
  · obtain ⟨t0, t1, t2⟩ := (H3.out.r.set3' (0) (0) (⟨#[]⟩)).cells
    have HP := Lib.hid (H3.out.put3 (.int .i64 (0)) (.int .i64 (0)) (.string (⟨#[]⟩)))
    go_wp2
    refine bodyPost_ret (v := .tuple #[.agg #[.int .i64 (0), .int .i64 (0), .string (⟨#[]⟩)], .int .i64 40]) (by simp [results, Tryz.results60, go_sem, t0, t1, t2]) rfl ⟨?_, HP.out⟩
    rw [HX.out]
    rfl
  · have HN0 := Lib.hid (show numsV 6 an bn = fitV (an * bn) by unfold numsV; rw [if_pos rfl])
    obtain ⟨b0q, hb0⟩ : ∃ q, (bn == 0) = q := ⟨_, rfl⟩
    cases b0q
    · have HF := Lib.hid (fun W => gProduct_any an bn HA.out HBn.out W)
      have HZ := Lib.hid (fit_val (an * bn))
      obtain ⟨z, hz⟩ : ∃ z, IntKind.i64.wrap (an * bn) = z := ⟨_, rfl⟩
      obtain ⟨F, hF⟩ : ∃ F, fitB (an * bn) = F := ⟨_, rfl⟩
      rw [hz, hF] at HF HZ
      have HXX := Lib.hid (HX.out.trans (HN0.out.trans HZ.out.symm))
      have HM := Lib.hid (fun W => gNumber_any z F W)
      clear hz hF HX HN0 HZ
      cases F
      · simp only [Bool.false_eq_true, if_false, V.val, V0] at HM
        go_wp2_with fail
        refine (HF.out _).mono ?_
        rintro r w5 ⟨rfl, rfl⟩
        go_wp2_with fail
        refine (HM.out _).mono ?_
        rintro r w6 ⟨rfl, hb6⟩
        have H4 := Lib.hid (H3.out.below hb6)
        clear hb6 a0 a1 a2 b0 b1 b2 r0 r1 r2 f0 f1 f2 H3
        have H3 := H4
        clear H4
        obtain ⟨a0, a1, a2⟩ := H3.out.a.cells
        obtain ⟨b0, b1, b2⟩ := H3.out.b.cells
        simp only at a0 a1 a2 b0 b1 b2
        obtain ⟨r0, r1, r2⟩ := H3.out.r.cells
        have f0 := H3.out.r.frozen 0
        have f1 := H3.out.r.frozen 1
        have f2 := H3.out.r.frozen 2
        obtain ⟨t0, t1, t2⟩ := (H3.out.r.set3' (0) (0) (⟨#[]⟩)).cells
        have HP := Lib.hid (H3.out.put3 (.int .i64 (0)) (.int .i64 (0)) (.string (⟨#[]⟩)))
        go_wp2
        refine bodyPost_ret (v := .tuple #[.agg #[.int .i64 (0), .int .i64 (0), .string (⟨#[]⟩)], .int .i64 9]) (by simp [results, Tryz.results60, go_sem, t0, t1, t2]) rfl ⟨?_, HP.out⟩
        rw [HXX.out]
        rfl
      · simp only [if_true, V.val, numG, mtS] at HM
        go_wp2_with fail
        refine (HF.out _).mono ?_
        rintro r w5 ⟨rfl, rfl⟩
        go_wp2_with fail
        refine (HM.out _).mono ?_
        rintro r w6 ⟨rfl, hb6⟩
        have H4 := Lib.hid (H3.out.below hb6)
        clear hb6 a0 a1 a2 b0 b1 b2 r0 r1 r2 f0 f1 f2 H3
        have H3 := H4
        clear H4
        obtain ⟨a0, a1, a2⟩ := H3.out.a.cells
        obtain ⟨b0, b1, b2⟩ := H3.out.b.cells
        simp only at a0 a1 a2 b0 b1 b2
        obtain ⟨r0, r1, r2⟩ := H3.out.r.cells
        have f0 := H3.out.r.frozen 0
        have f1 := H3.out.r.frozen 1
        have f2 := H3.out.r.frozen 2
        obtain ⟨t0, t1, t2⟩ := (H3.out.r.set3' (1) (z) (⟨#[]⟩)).cells
        have HP := Lib.hid (H3.out.put3 (.int .i64 (1)) (.int .i64 (z)) (.string (⟨#[]⟩)))
        go_wp2
        refine bodyPost_ret (v := .tuple #[.agg #[.int .i64 (1), .int .i64 (z), .string (⟨#[]⟩)], .int .i64 0]) (by simp [results, Tryz.results60, go_sem, t0, t1, t2]) rfl ⟨?_, HP.out⟩
        rw [HXX.out]
        rfl
    · have HF := Lib.hid (fun W => gProduct_any an bn HA.out HBn.out W)
      have HZ := Lib.hid (fit_val (an * bn))
      obtain ⟨z, hz⟩ : ∃ z, IntKind.i64.wrap (an * bn) = z := ⟨_, rfl⟩
      obtain ⟨F, hF⟩ : ∃ F, fitB (an * bn) = F := ⟨_, rfl⟩
      rw [hz, hF] at HF HZ
      have HXX := Lib.hid (HX.out.trans (HN0.out.trans HZ.out.symm))
      have HM := Lib.hid (fun W => gNumber_any z F W)
      clear hz hF HX HN0 HZ
      cases F
      · simp only [Bool.false_eq_true, if_false, V.val, V0] at HM
        go_wp2_with fail
        refine (HF.out _).mono ?_
        rintro r w5 ⟨rfl, rfl⟩
        go_wp2_with fail
        refine (HM.out _).mono ?_
        rintro r w6 ⟨rfl, hb6⟩
        have H4 := Lib.hid (H3.out.below hb6)
        clear hb6 a0 a1 a2 b0 b1 b2 r0 r1 r2 f0 f1 f2 H3
        have H3 := H4
        clear H4
        obtain ⟨a0, a1, a2⟩ := H3.out.a.cells
        obtain ⟨b0, b1, b2⟩ := H3.out.b.cells
        simp only at a0 a1 a2 b0 b1 b2
        obtain ⟨r0, r1, r2⟩ := H3.out.r.cells
        have f0 := H3.out.r.frozen 0
        have f1 := H3.out.r.frozen 1
        have f2 := H3.out.r.frozen 2
        obtain ⟨t0, t1, t2⟩ := (H3.out.r.set3' (0) (0) (⟨#[]⟩)).cells
        have HP := Lib.hid (H3.out.put3 (.int .i64 (0)) (.int .i64 (0)) (.string (⟨#[]⟩)))
        go_wp2
        refine bodyPost_ret (v := .tuple #[.agg #[.int .i64 (0), .int .i64 (0), .string (⟨#[]⟩)], .int .i64 9]) (by simp [results, Tryz.results60, go_sem, t0, t1, t2]) rfl ⟨?_, HP.out⟩
        rw [HXX.out]
        rfl
      · simp only [if_true, V.val, numG, mtS] at HM
        go_wp2_with fail
        refine (HF.out _).mono ?_
        rintro r w5 ⟨rfl, rfl⟩
        go_wp2_with fail
        refine (HM.out _).mono ?_
        rintro r w6 ⟨rfl, hb6⟩
        have H4 := Lib.hid (H3.out.below hb6)
        clear hb6 a0 a1 a2 b0 b1 b2 r0 r1 r2 f0 f1 f2 H3
        have H3 := H4
        clear H4
        obtain ⟨a0, a1, a2⟩ := H3.out.a.cells
        obtain ⟨b0, b1, b2⟩ := H3.out.b.cells
        simp only at a0 a1 a2 b0 b1 b2
        obtain ⟨r0, r1, r2⟩ := H3.out.r.cells
        have f0 := H3.out.r.frozen 0
        have f1 := H3.out.r.frozen 1
        have f2 := H3.out.r.frozen 2
        obtain ⟨t0, t1, t2⟩ := (H3.out.r.set3' (1) (z) (⟨#[]⟩)).cells
        have HP := Lib.hid (H3.out.put3 (.int .i64 (1)) (.int .i64 (z)) (.string (⟨#[]⟩)))
        go_wp2
        refine bodyPost_ret (v := .tuple #[.agg #[.int .i64 (1), .int .i64 (z), .string (⟨#[]⟩)], .int .i64 0]) (by simp [results, Tryz.results60, go_sem, t0, t1, t2]) rfl ⟨?_, HP.out⟩
        rw [HXX.out]
        rfl
set_option maxRecDepth 100000 in
set_option maxHeartbeats 4000000 in
theorem gDiv_any (a b : V) (w : World) (ha : inI a.n) (hb : inI b.n) : Calls Tryz.prog 60 #[.int .i64 7, a.val, b.val] w (RetG (reckG 7 a b) w) := by
  obtain ⟨ak, an, sa⟩ := a
  obtain ⟨bk, bn, sb⟩ := b
  have HQ := Lib.hid (fun g c W => gAre_two 1 ⟨ak, an, sa⟩ ⟨bk, bn, sb⟩ g c W)
  simp only [V.val] at HQ ha hb ⊢
  obtain ⟨X, hX⟩ : ∃ X, reckG 7 ⟨ak, an, sa⟩ ⟨bk, bn, sb⟩ = X := ⟨_, rfl⟩
  rw [hX]
  unfold reckG at hX
  simp only at hX
  obtain ⟨q, hq⟩ : ∃ q, (ak == 1 && bk == 1) = q := ⟨_, rfl⟩
  rw [hq] at HQ hX
  have HX := Lib.hid hX.symm
  have HA := Lib.hid ha
  have HBn := Lib.hid hb
  clear hq hX ha hb
  have H3 := Lib.hid (Three.new w ⟨ak, an, sa⟩ ⟨bk, bn, sb⟩)
  go_enter Tryz.func60, Tryz.ntmps60
  go_upto_region 1 with fail
  simp only [three_def]
  obtain ⟨g, hg⟩ : ∃ g, w.heap.size = g := ⟨_, rfl⟩
  rw [hg] at H3
  obtain ⟨w3, hw3⟩ : ∃ y, three w ⟨ak, an, sa⟩ ⟨bk, bn, sb⟩ = y := ⟨_, rfl⟩
  rw [hw3] at H3 ⊢
  simp only [hg]
  clear hw3 hg
  obtain ⟨a0, a1, a2⟩ := H3.out.a.cells
  obtain ⟨b0, b1, b2⟩ := H3.out.b.cells
  simp only at a0 a1 a2 b0 b1 b2
  obtain ⟨r0, r1, r2⟩ := H3.out.r.cells
  have f0 := H3.out.r.frozen 0
  have f1 := H3.out.r.frozen 1
  have f2 := H3.out.r.frozen 2
  go_wp2_with fail
  refine (HQ.out _ _ _ (by simp) (by simp) (by simp) (by simp) (by simp) (by simp)).mono ?_
  rintro r w4 ⟨rfl, hb4⟩
  have H4 := Lib.hid ((H3.out.alloc _).below hb4)
  clear hb4 a0 a1 a2 b0 b1 b2 r0 r1 r2 f0 f1 f2 H3
  have H3 := H4
  clear H4
  obtain ⟨a0, a1, a2⟩ := H3.out.a.cells
  obtain ⟨b0, b1, b2⟩ := H3.out.b.cells
  simp only at a0 a1 a2 b0 b1 b2
  obtain ⟨r0, r1, r2⟩ := H3.out.r.cells
  have f0 := H3.out.r.frozen 0
  have f1 := H3.out.r.frozen 1
  have f2 := H3.out.r.frozen 2
  cases q
  · obtain ⟨t0, t1, t2⟩ := (H3.out.r.set3' (0) (0) (⟨#[]⟩)).cells
    have HP := Lib.hid (H3.out.put3 (.int .i64 (0)) (.int .i64 (0)) (.string (⟨#[]⟩)))
    go_wp2
    refine bodyPost_ret (v := .tuple #[.agg #[.int .i64 (0), .int .i64 (0), .string (⟨#[]⟩)], .int .i64 40]) (by simp [results, Tryz.results60, go_sem, t0, t1, t2]) rfl ⟨?_, HP.out⟩
    rw [HX.out]
    rfl
  · by_cases h0 : bn = 0
    · have hb0 : (bn == 0) = true := by rw [h0]; rfl
      have HN0 := Lib.hid (show numsV 7 an bn = (V0, 62) by unfold numsV; rw [if_neg (by decide), if_neg (by decide), if_neg (by decide), if_pos h0])
      clear h0
      obtain ⟨t0, t1, t2⟩ := (H3.out.r.set3' (0) (0) (⟨#[]⟩)).cells
      have HP := Lib.hid (H3.out.put3 (.int .i64 (0)) (.int .i64 (0)) (.string (⟨#[]⟩)))
      go_wp2
      refine bodyPost_ret (v := .tuple #[.agg #[.int .i64 (0), .int .i64 (0), .string (⟨#[]⟩)], .int .i64 62]) (by simp [results, Tryz.results60, go_sem, t0, t1, t2]) rfl ⟨?_, HP.out⟩
      rw [HX.out, HN0.out]
      rfl
    · have hb0 : (bn == 0) = false := by rw [beq_eq_false_iff_ne]; exact h0
      have HN := Lib.hid h0
      have HN0 := Lib.hid (show numsV 7 an bn = fitV (an.tdiv bn) by unfold numsV; rw [if_neg (by decide), if_neg (by decide), if_neg (by decide), if_neg h0, if_pos rfl])
      clear h0
      have HF := Lib.hid (fun W => gQuotient_any an bn HA.out HN.out W)
      have HZ := Lib.hid (fit_val (an.tdiv bn))
      obtain ⟨z, hz⟩ : ∃ z, IntKind.i64.wrap (an.tdiv bn) = z := ⟨_, rfl⟩
      obtain ⟨F, hF⟩ : ∃ F, fitB (an.tdiv bn) = F := ⟨_, rfl⟩
      rw [hz, hF] at HF HZ
      have HXX := Lib.hid (HX.out.trans (HN0.out.trans HZ.out.symm))
      have HM := Lib.hid (fun W => gNumber_any z F W)
      clear hz hF HX HN0 HZ
      cases F
      · simp only [Bool.false_eq_true, if_false, V.val, V0] at HM
        go_wp2_with fail
        refine (HF.out _).mono ?_
        rintro r w5 ⟨rfl, rfl⟩
        go_wp2_with fail
        refine (HM.out _).mono ?_
        rintro r w6 ⟨rfl, hb6⟩
        have H4 := Lib.hid (H3.out.below hb6)
        clear hb6 a0 a1 a2 b0 b1 b2 r0 r1 r2 f0 f1 f2 H3
        have H3 := H4
        clear H4
        obtain ⟨a0, a1, a2⟩ := H3.out.a.cells
        obtain ⟨b0, b1, b2⟩ := H3.out.b.cells
        simp only at a0 a1 a2 b0 b1 b2
        obtain ⟨r0, r1, r2⟩ := H3.out.r.cells
        have f0 := H3.out.r.frozen 0
        have f1 := H3.out.r.frozen 1
        have f2 := H3.out.r.frozen 2
        obtain ⟨t0, t1, t2⟩ := (H3.out.r.set3' (0) (0) (⟨#[]⟩)).cells
        have HP := Lib.hid (H3.out.put3 (.int .i64 (0)) (.int .i64 (0)) (.string (⟨#[]⟩)))
        go_wp2
        refine bodyPost_ret (v := .tuple #[.agg #[.int .i64 (0), .int .i64 (0), .string (⟨#[]⟩)], .int .i64 9]) (by simp [results, Tryz.results60, go_sem, t0, t1, t2]) rfl ⟨?_, HP.out⟩
        rw [HXX.out]
        rfl
      · simp only [if_true, V.val, numG, mtS] at HM
        go_wp2_with fail
        refine (HF.out _).mono ?_
        rintro r w5 ⟨rfl, rfl⟩
        go_wp2_with fail
        refine (HM.out _).mono ?_
        rintro r w6 ⟨rfl, hb6⟩
        have H4 := Lib.hid (H3.out.below hb6)
        clear hb6 a0 a1 a2 b0 b1 b2 r0 r1 r2 f0 f1 f2 H3
        have H3 := H4
        clear H4
        obtain ⟨a0, a1, a2⟩ := H3.out.a.cells
        obtain ⟨b0, b1, b2⟩ := H3.out.b.cells
        simp only at a0 a1 a2 b0 b1 b2
        obtain ⟨r0, r1, r2⟩ := H3.out.r.cells
        have f0 := H3.out.r.frozen 0
        have f1 := H3.out.r.frozen 1
        have f2 := H3.out.r.frozen 2
        obtain ⟨t0, t1, t2⟩ := (H3.out.r.set3' (1) (z) (⟨#[]⟩)).cells
        have HP := Lib.hid (H3.out.put3 (.int .i64 (1)) (.int .i64 (z)) (.string (⟨#[]⟩)))
        go_wp2
        refine bodyPost_ret (v := .tuple #[.agg #[.int .i64 (1), .int .i64 (z), .string (⟨#[]⟩)], .int .i64 0]) (by simp [results, Tryz.results60, go_sem, t0, t1, t2]) rfl ⟨?_, HP.out⟩
        rw [HXX.out]
        rfl
set_option maxRecDepth 100000 in
set_option maxHeartbeats 4000000 in
theorem gMod_any (a b : V) (w : World) (ha : inI a.n) (hb : inI b.n) : Calls Tryz.prog 60 #[.int .i64 8, a.val, b.val] w (RetG (reckG 8 a b) w) := by
  obtain ⟨ak, an, sa⟩ := a
  obtain ⟨bk, bn, sb⟩ := b
  have HQ := Lib.hid (fun g c W => gAre_two 1 ⟨ak, an, sa⟩ ⟨bk, bn, sb⟩ g c W)
  simp only [V.val] at HQ ha hb ⊢
  obtain ⟨X, hX⟩ : ∃ X, reckG 8 ⟨ak, an, sa⟩ ⟨bk, bn, sb⟩ = X := ⟨_, rfl⟩
  rw [hX]
  unfold reckG at hX
  simp only at hX
  obtain ⟨q, hq⟩ : ∃ q, (ak == 1 && bk == 1) = q := ⟨_, rfl⟩
  rw [hq] at HQ hX
  have HX := Lib.hid hX.symm
  have HA := Lib.hid ha
  have HBn := Lib.hid hb
  clear hq hX ha hb
  have H3 := Lib.hid (Three.new w ⟨ak, an, sa⟩ ⟨bk, bn, sb⟩)
  go_enter Tryz.func60, Tryz.ntmps60
  go_upto_region 1 with fail
  simp only [three_def]
  obtain ⟨g, hg⟩ : ∃ g, w.heap.size = g := ⟨_, rfl⟩
  rw [hg] at H3
  obtain ⟨w3, hw3⟩ : ∃ y, three w ⟨ak, an, sa⟩ ⟨bk, bn, sb⟩ = y := ⟨_, rfl⟩
  rw [hw3] at H3 ⊢
  simp only [hg]
  clear hw3 hg
  obtain ⟨a0, a1, a2⟩ := H3.out.a.cells
  obtain ⟨b0, b1, b2⟩ := H3.out.b.cells
  simp only at a0 a1 a2 b0 b1 b2
  obtain ⟨r0, r1, r2⟩ := H3.out.r.cells
  have f0 := H3.out.r.frozen 0
  have f1 := H3.out.r.frozen 1
  have f2 := H3.out.r.frozen 2
  go_wp2_with fail
  refine (HQ.out _ _ _ (by simp) (by simp) (by simp) (by simp) (by simp) (by simp)).mono ?_
  rintro r w4 ⟨rfl, hb4⟩
  have H4 := Lib.hid ((H3.out.alloc _).below hb4)
  clear hb4 a0 a1 a2 b0 b1 b2 r0 r1 r2 f0 f1 f2 H3
  have H3 := H4
  clear H4
  obtain ⟨a0, a1, a2⟩ := H3.out.a.cells
  obtain ⟨b0, b1, b2⟩ := H3.out.b.cells
  simp only at a0 a1 a2 b0 b1 b2
  obtain ⟨r0, r1, r2⟩ := H3.out.r.cells
  have f0 := H3.out.r.frozen 0
  have f1 := H3.out.r.frozen 1
  have f2 := H3.out.r.frozen 2
  cases q
  · obtain ⟨t0, t1, t2⟩ := (H3.out.r.set3' (0) (0) (⟨#[]⟩)).cells
    have HP := Lib.hid (H3.out.put3 (.int .i64 (0)) (.int .i64 (0)) (.string (⟨#[]⟩)))
    go_wp2
    refine bodyPost_ret (v := .tuple #[.agg #[.int .i64 (0), .int .i64 (0), .string (⟨#[]⟩)], .int .i64 40]) (by simp [results, Tryz.results60, go_sem, t0, t1, t2]) rfl ⟨?_, HP.out⟩
    rw [HX.out]
    rfl
  · by_cases h0 : bn = 0
    · have hb0 : (bn == 0) = true := by rw [h0]; rfl
      have HN0 := Lib.hid (show numsV 8 an bn = (V0, 62) by unfold numsV; rw [if_neg (by decide), if_neg (by decide), if_neg (by decide), if_pos h0])
      clear h0
      obtain ⟨t0, t1, t2⟩ := (H3.out.r.set3' (0) (0) (⟨#[]⟩)).cells
      have HP := Lib.hid (H3.out.put3 (.int .i64 (0)) (.int .i64 (0)) (.string (⟨#[]⟩)))
      go_wp2
      refine bodyPost_ret (v := .tuple #[.agg #[.int .i64 (0), .int .i64 (0), .string (⟨#[]⟩)], .int .i64 62]) (by simp [results, Tryz.results60, go_sem, t0, t1, t2]) rfl ⟨?_, HP.out⟩
      rw [HX.out, HN0.out]
      rfl
    · have hb0 : (bn == 0) = false := by rw [beq_eq_false_iff_ne]; exact h0
      have HN := Lib.hid h0
      have HN0 := Lib.hid (show numsV 8 an bn = (numG (an.tmod bn), 0) by unfold numsV; rw [if_neg (by decide), if_neg (by decide), if_neg (by decide), if_neg h0, if_neg (by decide), fitV_in (tmod_in HA.out)])
      clear h0
      have hz : IntKind.i64.wrap (an.tmod bn) = an.tmod bn := wrap_in (tmod_in HA.out)
      have HV := Lib.hid (fun W => vInt_all (an.tmod bn) W)
      obtain ⟨z, hzz⟩ : ∃ z, an.tmod bn = z := ⟨_, rfl⟩
      rw [hzz] at hz HV HN0
      go_wp2_with fail
      refine (HV.out _).mono ?_
      rintro r w5 ⟨rfl, hb5⟩
      have H4 := Lib.hid (H3.out.below hb5)
      clear hb5 a0 a1 a2 b0 b1 b2 r0 r1 r2 f0 f1 f2 H3
      have H3 := H4
      clear H4
      obtain ⟨a0, a1, a2⟩ := H3.out.a.cells
      obtain ⟨b0, b1, b2⟩ := H3.out.b.cells
      simp only at a0 a1 a2 b0 b1 b2
      obtain ⟨r0, r1, r2⟩ := H3.out.r.cells
      have f0 := H3.out.r.frozen 0
      have f1 := H3.out.r.frozen 1
      have f2 := H3.out.r.frozen 2
      obtain ⟨t0, t1, t2⟩ := (H3.out.r.set3' (1) (z) (⟨#[]⟩)).cells
      have HP := Lib.hid (H3.out.put3 (.int .i64 (1)) (.int .i64 (z)) (.string (⟨#[]⟩)))
      go_wp2
      refine bodyPost_ret (v := .tuple #[.agg #[.int .i64 (1), .int .i64 (z), .string (⟨#[]⟩)], .int .i64 0]) (by simp [results, Tryz.results60, go_sem, t0, t1, t2]) rfl ⟨?_, HP.out⟩
      rw [HX.out, HN0.out]
      rfl
set_option maxRecDepth 100000 in
set_option maxHeartbeats 4000000 in
theorem gAdd_any (a b : V) (w : World) (ha : inI a.n) (hb : inI b.n) : Calls Tryz.prog 60 #[.int .i64 9, a.val, b.val] w (RetG (reckG 9 a b) w) := by
  obtain ⟨ak, an, sa⟩ := a
  obtain ⟨bk, bn, sb⟩ := b
  have HQ := Lib.hid (fun g c W => gAre_two 1 ⟨ak, an, sa⟩ ⟨bk, bn, sb⟩ g c W)
  simp only [V.val] at HQ ha hb ⊢
  obtain ⟨X, hX⟩ : ∃ X, reckG 9 ⟨ak, an, sa⟩ ⟨bk, bn, sb⟩ = X := ⟨_, rfl⟩
  rw [hX]
  unfold reckG at hX
  simp only at hX
  obtain ⟨q, hq⟩ : ∃ q, (ak == 1 && bk == 1) = q := ⟨_, rfl⟩
  rw [hq] at HQ hX
  have HX := Lib.hid hX.symm
  have HA := Lib.hid ha
  have HBn := Lib.hid hb
  clear hq hX ha hb
  have H3 := Lib.hid (Three.new w ⟨ak, an, sa⟩ ⟨bk, bn, sb⟩)
  go_enter Tryz.func60, Tryz.ntmps60
  go_upto_region 1 with fail
  simp only [three_def]
  obtain ⟨g, hg⟩ : ∃ g, w.heap.size = g := ⟨_, rfl⟩
  rw [hg] at H3
  obtain ⟨w3, hw3⟩ : ∃ y, three w ⟨ak, an, sa⟩ ⟨bk, bn, sb⟩ = y := ⟨_, rfl⟩
  rw [hw3] at H3 ⊢
  simp only [hg]
  clear hw3 hg
  obtain ⟨a0, a1, a2⟩ := H3.out.a.cells
  obtain ⟨b0, b1, b2⟩ := H3.out.b.cells
  simp only at a0 a1 a2 b0 b1 b2
  obtain ⟨r0, r1, r2⟩ := H3.out.r.cells
  have f0 := H3.out.r.frozen 0
  have f1 := H3.out.r.frozen 1
  have f2 := H3.out.r.frozen 2
  go_wp2_with fail
  refine (HQ.out _ _ _ (by simp) (by simp) (by simp) (by simp) (by simp) (by simp)).mono ?_
  rintro r w4 ⟨rfl, hb4⟩
  have H4 := Lib.hid ((H3.out.alloc _).below hb4)
  clear hb4 a0 a1 a2 b0 b1 b2 r0 r1 r2 f0 f1 f2 H3
  have H3 := H4
  clear H4
  obtain ⟨a0, a1, a2⟩ := H3.out.a.cells
  obtain ⟨b0, b1, b2⟩ := H3.out.b.cells
  simp only at a0 a1 a2 b0 b1 b2
  obtain ⟨r0, r1, r2⟩ := H3.out.r.cells
  have f0 := H3.out.r.frozen 0
  have f1 := H3.out.r.frozen 1
  have f2 := H3.out.r.frozen 2
  cases q
  · obtain ⟨t0, t1, t2⟩ := (H3.out.r.set3' (0) (0) (⟨#[]⟩)).cells
    have HP := Lib.hid (H3.out.put3 (.int .i64 (0)) (.int .i64 (0)) (.string (⟨#[]⟩)))
    go_wp2
    refine bodyPost_ret (v := .tuple #[.agg #[.int .i64 (0), .int .i64 (0), .string (⟨#[]⟩)], .int .i64 40]) (by simp [results, Tryz.results60, go_sem, t0, t1, t2]) rfl ⟨?_, HP.out⟩
    rw [HX.out]
    rfl
  · have HN0 := Lib.hid (show numsV 9 an bn = fitV (an + bn) by unfold numsV; rw [if_neg (by decide), if_pos rfl])
    obtain ⟨b0q, hb0⟩ : ∃ q, (bn == 0) = q := ⟨_, rfl⟩
    cases b0q
    · have HF := Lib.hid (fun W => gPlus_any an bn HA.out HBn.out W)
      have HZ := Lib.hid (fit_val (an + bn))
      obtain ⟨z, hz⟩ : ∃ z, IntKind.i64.wrap (an + bn) = z := ⟨_, rfl⟩
      obtain ⟨F, hF⟩ : ∃ F, fitB (an + bn) = F := ⟨_, rfl⟩
      rw [hz, hF] at HF HZ
      have HXX := Lib.hid (HX.out.trans (HN0.out.trans HZ.out.symm))
      have HM := Lib.hid (fun W => gNumber_any z F W)
      clear hz hF HX HN0 HZ
      cases F
      · simp only [Bool.false_eq_true, if_false, V.val, V0] at HM
        go_wp2_with fail
        refine (HF.out _).mono ?_
        rintro r w5 ⟨rfl, rfl⟩
        go_wp2_with fail
        refine (HM.out _).mono ?_
        rintro r w6 ⟨rfl, hb6⟩
        have H4 := Lib.hid (H3.out.below hb6)
        clear hb6 a0 a1 a2 b0 b1 b2 r0 r1 r2 f0 f1 f2 H3
        have H3 := H4
        clear H4
        obtain ⟨a0, a1, a2⟩ := H3.out.a.cells
        obtain ⟨b0, b1, b2⟩ := H3.out.b.cells
        simp only at a0 a1 a2 b0 b1 b2
        obtain ⟨r0, r1, r2⟩ := H3.out.r.cells
        have f0 := H3.out.r.frozen 0
        have f1 := H3.out.r.frozen 1
        have f2 := H3.out.r.frozen 2
        obtain ⟨t0, t1, t2⟩ := (H3.out.r.set3' (0) (0) (⟨#[]⟩)).cells
        have HP := Lib.hid (H3.out.put3 (.int .i64 (0)) (.int .i64 (0)) (.string (⟨#[]⟩)))
        go_wp2
        refine bodyPost_ret (v := .tuple #[.agg #[.int .i64 (0), .int .i64 (0), .string (⟨#[]⟩)], .int .i64 9]) (by simp [results, Tryz.results60, go_sem, t0, t1, t2]) rfl ⟨?_, HP.out⟩
        rw [HXX.out]
        rfl
      · simp only [if_true, V.val, numG, mtS] at HM
        go_wp2_with fail
        refine (HF.out _).mono ?_
        rintro r w5 ⟨rfl, rfl⟩
        go_wp2_with fail
        refine (HM.out _).mono ?_
        rintro r w6 ⟨rfl, hb6⟩
        have H4 := Lib.hid (H3.out.below hb6)
        clear hb6 a0 a1 a2 b0 b1 b2 r0 r1 r2 f0 f1 f2 H3
        have H3 := H4
        clear H4
        obtain ⟨a0, a1, a2⟩ := H3.out.a.cells
        obtain ⟨b0, b1, b2⟩ := H3.out.b.cells
        simp only at a0 a1 a2 b0 b1 b2
        obtain ⟨r0, r1, r2⟩ := H3.out.r.cells
        have f0 := H3.out.r.frozen 0
        have f1 := H3.out.r.frozen 1
        have f2 := H3.out.r.frozen 2
        obtain ⟨t0, t1, t2⟩ := (H3.out.r.set3' (1) (z) (⟨#[]⟩)).cells
        have HP := Lib.hid (H3.out.put3 (.int .i64 (1)) (.int .i64 (z)) (.string (⟨#[]⟩)))
        go_wp2
        refine bodyPost_ret (v := .tuple #[.agg #[.int .i64 (1), .int .i64 (z), .string (⟨#[]⟩)], .int .i64 0]) (by simp [results, Tryz.results60, go_sem, t0, t1, t2]) rfl ⟨?_, HP.out⟩
        rw [HXX.out]
        rfl
    · have HF := Lib.hid (fun W => gPlus_any an bn HA.out HBn.out W)
      have HZ := Lib.hid (fit_val (an + bn))
      obtain ⟨z, hz⟩ : ∃ z, IntKind.i64.wrap (an + bn) = z := ⟨_, rfl⟩
      obtain ⟨F, hF⟩ : ∃ F, fitB (an + bn) = F := ⟨_, rfl⟩
      rw [hz, hF] at HF HZ
      have HXX := Lib.hid (HX.out.trans (HN0.out.trans HZ.out.symm))
      have HM := Lib.hid (fun W => gNumber_any z F W)
      clear hz hF HX HN0 HZ
      cases F
      · simp only [Bool.false_eq_true, if_false, V.val, V0] at HM
        go_wp2_with fail
        refine (HF.out _).mono ?_
        rintro r w5 ⟨rfl, rfl⟩
        go_wp2_with fail
        refine (HM.out _).mono ?_
        rintro r w6 ⟨rfl, hb6⟩
        have H4 := Lib.hid (H3.out.below hb6)
        clear hb6 a0 a1 a2 b0 b1 b2 r0 r1 r2 f0 f1 f2 H3
        have H3 := H4
        clear H4
        obtain ⟨a0, a1, a2⟩ := H3.out.a.cells
        obtain ⟨b0, b1, b2⟩ := H3.out.b.cells
        simp only at a0 a1 a2 b0 b1 b2
        obtain ⟨r0, r1, r2⟩ := H3.out.r.cells
        have f0 := H3.out.r.frozen 0
        have f1 := H3.out.r.frozen 1
        have f2 := H3.out.r.frozen 2
        obtain ⟨t0, t1, t2⟩ := (H3.out.r.set3' (0) (0) (⟨#[]⟩)).cells
        have HP := Lib.hid (H3.out.put3 (.int .i64 (0)) (.int .i64 (0)) (.string (⟨#[]⟩)))
        go_wp2
        refine bodyPost_ret (v := .tuple #[.agg #[.int .i64 (0), .int .i64 (0), .string (⟨#[]⟩)], .int .i64 9]) (by simp [results, Tryz.results60, go_sem, t0, t1, t2]) rfl ⟨?_, HP.out⟩
        rw [HXX.out]
        rfl
      · simp only [if_true, V.val, numG, mtS] at HM
        go_wp2_with fail
        refine (HF.out _).mono ?_
        rintro r w5 ⟨rfl, rfl⟩
        go_wp2_with fail
        refine (HM.out _).mono ?_
        rintro r w6 ⟨rfl, hb6⟩
        have H4 := Lib.hid (H3.out.below hb6)
        clear hb6 a0 a1 a2 b0 b1 b2 r0 r1 r2 f0 f1 f2 H3
        have H3 := H4
        clear H4
        obtain ⟨a0, a1, a2⟩ := H3.out.a.cells
        obtain ⟨b0, b1, b2⟩ := H3.out.b.cells
        simp only at a0 a1 a2 b0 b1 b2
        obtain ⟨r0, r1, r2⟩ := H3.out.r.cells
        have f0 := H3.out.r.frozen 0
        have f1 := H3.out.r.frozen 1
        have f2 := H3.out.r.frozen 2
        obtain ⟨t0, t1, t2⟩ := (H3.out.r.set3' (1) (z) (⟨#[]⟩)).cells
        have HP := Lib.hid (H3.out.put3 (.int .i64 (1)) (.int .i64 (z)) (.string (⟨#[]⟩)))
        go_wp2
        refine bodyPost_ret (v := .tuple #[.agg #[.int .i64 (1), .int .i64 (z), .string (⟨#[]⟩)], .int .i64 0]) (by simp [results, Tryz.results60, go_sem, t0, t1, t2]) rfl ⟨?_, HP.out⟩
        rw [HXX.out]
        rfl
set_option maxRecDepth 100000 in
set_option maxHeartbeats 4000000 in
theorem gSub_any (a b : V) (w : World) (ha : inI a.n) (hb : inI b.n) : Calls Tryz.prog 60 #[.int .i64 10, a.val, b.val] w (RetG (reckG 10 a b) w) := by
  obtain ⟨ak, an, sa⟩ := a
  obtain ⟨bk, bn, sb⟩ := b
  have HQ := Lib.hid (fun g c W => gAre_two 1 ⟨ak, an, sa⟩ ⟨bk, bn, sb⟩ g c W)
  simp only [V.val] at HQ ha hb ⊢
  obtain ⟨X, hX⟩ : ∃ X, reckG 10 ⟨ak, an, sa⟩ ⟨bk, bn, sb⟩ = X := ⟨_, rfl⟩
  rw [hX]
  unfold reckG at hX
  simp only at hX
  obtain ⟨q, hq⟩ : ∃ q, (ak == 1 && bk == 1) = q := ⟨_, rfl⟩
  rw [hq] at HQ hX
  have HX := Lib.hid hX.symm
  have HA := Lib.hid ha
  have HBn := Lib.hid hb
  clear hq hX ha hb
  have H3 := Lib.hid (Three.new w ⟨ak, an, sa⟩ ⟨bk, bn, sb⟩)
  go_enter Tryz.func60, Tryz.ntmps60
  go_upto_region 1 with fail
  simp only [three_def]
  obtain ⟨g, hg⟩ : ∃ g, w.heap.size = g := ⟨_, rfl⟩
  rw [hg] at H3
  obtain ⟨w3, hw3⟩ : ∃ y, three w ⟨ak, an, sa⟩ ⟨bk, bn, sb⟩ = y := ⟨_, rfl⟩
  rw [hw3] at H3 ⊢
  simp only [hg]
  clear hw3 hg
  obtain ⟨a0, a1, a2⟩ := H3.out.a.cells
  obtain ⟨b0, b1, b2⟩ := H3.out.b.cells
  simp only at a0 a1 a2 b0 b1 b2
  obtain ⟨r0, r1, r2⟩ := H3.out.r.cells
  have f0 := H3.out.r.frozen 0
  have f1 := H3.out.r.frozen 1
  have f2 := H3.out.r.frozen 2
  go_wp2_with fail
  refine (HQ.out _ _ _ (by simp) (by simp) (by simp) (by simp) (by simp) (by simp)).mono ?_
  rintro r w4 ⟨rfl, hb4⟩
  have H4 := Lib.hid ((H3.out.alloc _).below hb4)
  clear hb4 a0 a1 a2 b0 b1 b2 r0 r1 r2 f0 f1 f2 H3
  have H3 := H4
  clear H4
  obtain ⟨a0, a1, a2⟩ := H3.out.a.cells
  obtain ⟨b0, b1, b2⟩ := H3.out.b.cells
  simp only at a0 a1 a2 b0 b1 b2
  obtain ⟨r0, r1, r2⟩ := H3.out.r.cells
  have f0 := H3.out.r.frozen 0
  have f1 := H3.out.r.frozen 1
  have f2 := H3.out.r.frozen 2
  cases q
  · obtain ⟨t0, t1, t2⟩ := (H3.out.r.set3' (0) (0) (⟨#[]⟩)).cells
    have HP := Lib.hid (H3.out.put3 (.int .i64 (0)) (.int .i64 (0)) (.string (⟨#[]⟩)))
    go_wp2
    refine bodyPost_ret (v := .tuple #[.agg #[.int .i64 (0), .int .i64 (0), .string (⟨#[]⟩)], .int .i64 40]) (by simp [results, Tryz.results60, go_sem, t0, t1, t2]) rfl ⟨?_, HP.out⟩
    rw [HX.out]
    rfl
  · have HN0 := Lib.hid (show numsV 10 an bn = fitV (an - bn) by unfold numsV; rw [if_neg (by decide), if_neg (by decide), if_pos rfl])
    obtain ⟨b0q, hb0⟩ : ∃ q, (bn == 0) = q := ⟨_, rfl⟩
    cases b0q
    · have HF := Lib.hid (fun W => gMinus_any an bn HA.out HBn.out W)
      have HZ := Lib.hid (fit_val (an - bn))
      obtain ⟨z, hz⟩ : ∃ z, IntKind.i64.wrap (an - bn) = z := ⟨_, rfl⟩
      obtain ⟨F, hF⟩ : ∃ F, fitB (an - bn) = F := ⟨_, rfl⟩
      rw [hz, hF] at HF HZ
      have HXX := Lib.hid (HX.out.trans (HN0.out.trans HZ.out.symm))
      have HM := Lib.hid (fun W => gNumber_any z F W)
      clear hz hF HX HN0 HZ
      cases F
      · simp only [Bool.false_eq_true, if_false, V.val, V0] at HM
        go_wp2_with fail
        refine (HF.out _).mono ?_
        rintro r w5 ⟨rfl, rfl⟩
        go_wp2_with fail
        refine (HM.out _).mono ?_
        rintro r w6 ⟨rfl, hb6⟩
        have H4 := Lib.hid (H3.out.below hb6)
        clear hb6 a0 a1 a2 b0 b1 b2 r0 r1 r2 f0 f1 f2 H3
        have H3 := H4
        clear H4
        obtain ⟨a0, a1, a2⟩ := H3.out.a.cells
        obtain ⟨b0, b1, b2⟩ := H3.out.b.cells
        simp only at a0 a1 a2 b0 b1 b2
        obtain ⟨r0, r1, r2⟩ := H3.out.r.cells
        have f0 := H3.out.r.frozen 0
        have f1 := H3.out.r.frozen 1
        have f2 := H3.out.r.frozen 2
        obtain ⟨t0, t1, t2⟩ := (H3.out.r.set3' (0) (0) (⟨#[]⟩)).cells
        have HP := Lib.hid (H3.out.put3 (.int .i64 (0)) (.int .i64 (0)) (.string (⟨#[]⟩)))
        go_wp2
        refine bodyPost_ret (v := .tuple #[.agg #[.int .i64 (0), .int .i64 (0), .string (⟨#[]⟩)], .int .i64 9]) (by simp [results, Tryz.results60, go_sem, t0, t1, t2]) rfl ⟨?_, HP.out⟩
        rw [HXX.out]
        rfl
      · simp only [if_true, V.val, numG, mtS] at HM
        go_wp2_with fail
        refine (HF.out _).mono ?_
        rintro r w5 ⟨rfl, rfl⟩
        go_wp2_with fail
        refine (HM.out _).mono ?_
        rintro r w6 ⟨rfl, hb6⟩
        have H4 := Lib.hid (H3.out.below hb6)
        clear hb6 a0 a1 a2 b0 b1 b2 r0 r1 r2 f0 f1 f2 H3
        have H3 := H4
        clear H4
        obtain ⟨a0, a1, a2⟩ := H3.out.a.cells
        obtain ⟨b0, b1, b2⟩ := H3.out.b.cells
        simp only at a0 a1 a2 b0 b1 b2
        obtain ⟨r0, r1, r2⟩ := H3.out.r.cells
        have f0 := H3.out.r.frozen 0
        have f1 := H3.out.r.frozen 1
        have f2 := H3.out.r.frozen 2
        obtain ⟨t0, t1, t2⟩ := (H3.out.r.set3' (1) (z) (⟨#[]⟩)).cells
        have HP := Lib.hid (H3.out.put3 (.int .i64 (1)) (.int .i64 (z)) (.string (⟨#[]⟩)))
        go_wp2
        refine bodyPost_ret (v := .tuple #[.agg #[.int .i64 (1), .int .i64 (z), .string (⟨#[]⟩)], .int .i64 0]) (by simp [results, Tryz.results60, go_sem, t0, t1, t2]) rfl ⟨?_, HP.out⟩
        rw [HXX.out]
        rfl
    · have HF := Lib.hid (fun W => gMinus_any an bn HA.out HBn.out W)
      have HZ := Lib.hid (fit_val (an - bn))
      obtain ⟨z, hz⟩ : ∃ z, IntKind.i64.wrap (an - bn) = z := ⟨_, rfl⟩
      obtain ⟨F, hF⟩ : ∃ F, fitB (an - bn) = F := ⟨_, rfl⟩
      rw [hz, hF] at HF HZ
      have HXX := Lib.hid (HX.out.trans (HN0.out.trans HZ.out.symm))
      have HM := Lib.hid (fun W => gNumber_any z F W)
      clear hz hF HX HN0 HZ
      cases F
      · simp only [Bool.false_eq_true, if_false, V.val, V0] at HM
        go_wp2_with fail
        refine (HF.out _).mono ?_
        rintro r w5 ⟨rfl, rfl⟩
        go_wp2_with fail
        refine (HM.out _).mono ?_
        rintro r w6 ⟨rfl, hb6⟩
        have H4 := Lib.hid (H3.out.below hb6)
        clear hb6 a0 a1 a2 b0 b1 b2 r0 r1 r2 f0 f1 f2 H3
        have H3 := H4
        clear H4
        obtain ⟨a0, a1, a2⟩ := H3.out.a.cells
        obtain ⟨b0, b1, b2⟩ := H3.out.b.cells
        simp only at a0 a1 a2 b0 b1 b2
        obtain ⟨r0, r1, r2⟩ := H3.out.r.cells
        have f0 := H3.out.r.frozen 0
        have f1 := H3.out.r.frozen 1
        have f2 := H3.out.r.frozen 2
        obtain ⟨t0, t1, t2⟩ := (H3.out.r.set3' (0) (0) (⟨#[]⟩)).cells
        have HP := Lib.hid (H3.out.put3 (.int .i64 (0)) (.int .i64 (0)) (.string (⟨#[]⟩)))
        go_wp2
        refine bodyPost_ret (v := .tuple #[.agg #[.int .i64 (0), .int .i64 (0), .string (⟨#[]⟩)], .int .i64 9]) (by simp [results, Tryz.results60, go_sem, t0, t1, t2]) rfl ⟨?_, HP.out⟩
        rw [HXX.out]
        rfl
      · simp only [if_true, V.val, numG, mtS] at HM
        go_wp2_with fail
        refine (HF.out _).mono ?_
        rintro r w5 ⟨rfl, rfl⟩
        go_wp2_with fail
        refine (HM.out _).mono ?_
        rintro r w6 ⟨rfl, hb6⟩
        have H4 := Lib.hid (H3.out.below hb6)
        clear hb6 a0 a1 a2 b0 b1 b2 r0 r1 r2 f0 f1 f2 H3
        have H3 := H4
        clear H4
        obtain ⟨a0, a1, a2⟩ := H3.out.a.cells
        obtain ⟨b0, b1, b2⟩ := H3.out.b.cells
        simp only at a0 a1 a2 b0 b1 b2
        obtain ⟨r0, r1, r2⟩ := H3.out.r.cells
        have f0 := H3.out.r.frozen 0
        have f1 := H3.out.r.frozen 1
        have f2 := H3.out.r.frozen 2
        obtain ⟨t0, t1, t2⟩ := (H3.out.r.set3' (1) (z) (⟨#[]⟩)).cells
        have HP := Lib.hid (H3.out.put3 (.int .i64 (1)) (.int .i64 (z)) (.string (⟨#[]⟩)))
        go_wp2
        refine bodyPost_ret (v := .tuple #[.agg #[.int .i64 (1), .int .i64 (z), .string (⟨#[]⟩)], .int .i64 0]) (by simp [results, Tryz.results60, go_sem, t0, t1, t2]) rfl ⟨?_, HP.out⟩
        rw [HXX.out]
        rfl
end Go.Proofs.YtidomoibhjgkjaaGreatDoor
