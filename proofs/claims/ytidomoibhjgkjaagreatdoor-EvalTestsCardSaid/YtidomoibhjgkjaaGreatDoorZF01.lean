import Derived.Test.YtidomoibhjgkjaaGreatDoorZF00
import Derived.Test.YtidomoibhjgkjaaGreatDoorZC21
/-
  What two values come to: the document's own answer.
-/
namespace Go.Proofs.YtidomoibhjgkjaaGreatDoor
open Go.RowKit

theorem kindB_yes {a b : V} {k n : Int} (h : kindB a b = k) (hk : k = n) (hn : n ≠ 0) : a.k = n ∧ b.k = n := by
  unfold kindB at h
  split at h <;> omega
theorem kindB_no {a b : V} {k n : Int} (h : kindB a b = k) (hk : k ≠ n) (_ : n ≠ 0) : ¬ (a.k = n ∧ b.k = n) := by
  rintro ⟨h1, h2⟩
  unfold kindB at h
  rw [if_pos (by omega)] at h
  omega
theorem kindB_or {a b : V} {k : Int} (h : kindB a b = k) (hk : k = 1 ∨ k = 3) : (a.k = 1 ∧ b.k = 1) ∨ (a.k = 3 ∧ b.k = 3) := by
  rcases hk with h1 | h1
  · exact .inl (kindB_yes h h1 (by decide))
  · exact .inr (kindB_yes h h1 (by decide))
theorem kindB_nor {a b : V} {k : Int} (h : kindB a b = k) (h1 : k ≠ 1) (h3 : k ≠ 3) : ¬ ((a.k = 1 ∧ b.k = 1) ∨ (a.k = 3 ∧ b.k = 3)) := by
  rintro (g | g)
  · exact kindB_no h h1 (by decide) g
  · exact kindB_no h h3 (by decide) g
theorem ne_d (n : Int) : (n != 0) = decide (n ≠ 0) := by by_cases h : n = 0 <;> simp [h]
theorem two_l17 (an bn : Int) (sa sb : ByteArray) : twoV 17 ⟨2, an, sa⟩ ⟨2, bn, sb⟩ = (truthV ((an != 0) && (bn != 0)), 0) := by rw [ne_d, ne_d]; rfl
theorem two_l18 (an bn : Int) (sa sb : ByteArray) : twoV 18 ⟨2, an, sa⟩ ⟨2, bn, sb⟩ = (truthV ((an != 0) || (bn != 0)), 0) := by rw [ne_d, ne_d]; rfl
theorem two_ln17 {a b : V} (h : ¬ (a.k = 2 ∧ b.k = 2)) : twoV 17 a b = (V0, 40) := by
  unfold twoV
  rw [if_neg (by decide), if_neg (by decide), if_neg (by decide), if_pos (.inl rfl), if_pos (by omega)]
theorem two_ln18 {a b : V} (h : ¬ (a.k = 2 ∧ b.k = 2)) : twoV 18 a b = (V0, 40) := by
  unfold twoV
  rw [if_neg (by decide), if_neg (by decide), if_neg (by decide), if_pos (.inr rfl), if_pos (by omega)]
theorem two_oy {op : Int} (hop : op = 11 ∨ op = 12 ∨ op = 13 ∨ op = 14) {a b : V} (h : (a.k = 1 ∧ b.k = 1) ∨ (a.k = 3 ∧ b.k = 3)) : twoV op a b = (truthV (standV op a b), 0) := by
  unfold twoV
  rw [if_neg (by omega), if_neg (by omega), if_neg (by omega), if_neg (by omega), if_neg (by omega), if_pos (show 11 ≤ op by omega)]
theorem two_on {op : Int} (hop : op = 11 ∨ op = 12 ∨ op = 13 ∨ op = 14) {a b : V} (h : ¬ ((a.k = 1 ∧ b.k = 1) ∨ (a.k = 3 ∧ b.k = 3))) : twoV op a b = (V0, 40) := by
  unfold twoV
  rw [if_neg (by omega), if_neg (by omega), if_neg (by omega), if_neg (by omega), if_pos (by omega)]
theorem two_ny {op : Int} (hop : op = 6 ∨ op = 7 ∨ op = 8 ∨ op = 9 ∨ op = 10) {a b : V} (h : a.k = 1 ∧ b.k = 1) : twoV op a b = numsV op a.n b.n := by
  unfold twoV
  rw [if_neg (by omega), if_neg (by omega), if_neg (by omega), if_neg (by omega), if_neg (by omega), if_neg (by omega), if_neg (by omega)]
theorem two_nn {op : Int} (hop : op = 6 ∨ op = 7 ∨ op = 8 ∨ op = 10) {a b : V} (h : ¬ (a.k = 1 ∧ b.k = 1)) : twoV op a b = (V0, 40) := by
  unfold twoV
  rw [if_neg (by omega), if_neg (by omega), if_neg (by omega), if_neg (by omega), if_pos (by omega)]
theorem two_an {a b : V} (h : ¬ ((a.k = 1 ∧ b.k = 1) ∨ (a.k = 3 ∧ b.k = 3))) : twoV 9 a b = (V0, 40) := by
  unfold twoV
  rw [if_neg (by omega), if_neg (by omega), if_neg (by omega), if_neg (by omega), if_pos (by omega)]
theorem two_t3 (an bn : Int) (sa sb : ByteArray) : twoV 9 ⟨3, an, sa⟩ ⟨3, bn, sb⟩ = if 64 < sa.size + sb.size then (V0, 3) else (⟨3, 0, sa ++ sb⟩, 0) := by
  unfold twoV
  rw [if_neg (by omega), if_neg (by omega), if_neg (by omega), if_neg (by omega), if_neg (by simp), if_neg (by omega), if_pos rfl]

set_option maxRecDepth 100000 in
set_option maxHeartbeats 1000000 in
theorem g6Two17_any (a b : V) (w : World) (ha : okV a) (hb : okV b) : Calls Tryz.prog 37 #[.int .i64 17, a.val, b.val] w (RetG (twoV 17 a b) w) := by
  obtain ⟨ak, an, sa⟩ := a
  obtain ⟨bk, bn, sb⟩ := b
  have HK := Lib.hid (fun W => g6kind_any ⟨ak, an, sa⟩ ⟨bk, bn, sb⟩ W)
  have HT0 := Lib.hid (fun W => g6truth_any false W)
  have HT1 := Lib.hid (fun W => g6truth_any true W)
  simp only [V.val, truthV, mtS, Bool.false_eq_true, if_false, if_true] at HK HT0 HT1 ⊢
  obtain ⟨X, hX⟩ : ∃ X, twoV 17 ⟨ak, an, sa⟩ ⟨bk, bn, sb⟩ = X := ⟨_, rfl⟩
  rw [hX]
  obtain ⟨kb, hkb⟩ : ∃ k, kindB ⟨ak, an, sa⟩ ⟨bk, bn, sb⟩ = k := ⟨_, rfl⟩
  rw [hkb] at HK
  by_cases h2 : kb = 2
  · have hkk := kindB_yes hkb h2 (by decide)
    obtain ⟨rfl, rfl⟩ : ak = 2 ∧ bk = 2 := hkk
    obtain ⟨q1, hq1⟩ : ∃ q, (an != 0) = q := ⟨_, rfl⟩
    obtain ⟨q2, hq2⟩ : ∃ q, (bn != 0) = q := ⟨_, rfl⟩
    have HX : Hid (X = (truthV (q1 && q2), 0)) := Lib.hid (by rw [← hX, two_l17, hq1, hq2])
    have n2 : (kb != 2) = false := by rw [bne_eq_false_iff_eq]; exact h2
    have e2 : (kb == 2) = true := by rw [beq_iff_eq]; exact h2
    clear hX hkb ha hb h2
    cases q1 <;> cases q2
    · have H3 := Lib.hid (Three.new w ⟨2, an, sa⟩ ⟨2, bn, sb⟩)
      go_enter Tryz.func37, Tryz.ntmps37
      go_upto_region 1 with fail
      simp only [three_def]
      obtain ⟨g, hg⟩ : ∃ g, w.heap.size = g := ⟨_, rfl⟩
      rw [hg] at H3
      obtain ⟨w3, hw3⟩ : ∃ y, three w ⟨2, an, sa⟩ ⟨2, bn, sb⟩ = y := ⟨_, rfl⟩
      rw [hw3] at H3 ⊢
      simp only [hg]
      clear hw3 hg
      obtain ⟨a0, a1, a2⟩ := H3.out.a.cells
      obtain ⟨b0, b1, b2⟩ := H3.out.b.cells
      simp only at a0 a1 a2 b0 b1 b2
      obtain ⟨r0, r1, r2⟩ := H3.out.r.cells
      have f0 := H3.out.r.frozen 0
      have f1 := H3.out.r.frozen 1
      have f2 := H3.out.r.frozen 2
      go_wp2_with fail
      refine (HK.out _).mono ?_
      rintro r w5 ⟨rfl, hb5⟩
      have H4 := Lib.hid (H3.out.below hb5)
      clear hb5 a0 a1 a2 b0 b1 b2 r0 r1 r2 f0 f1 f2 H3
      have H3 := H4
      clear H4
      obtain ⟨a0, a1, a2⟩ := H3.out.a.cells
      obtain ⟨b0, b1, b2⟩ := H3.out.b.cells
      simp only at a0 a1 a2 b0 b1 b2
      obtain ⟨r0, r1, r2⟩ := H3.out.r.cells
      have f0 := H3.out.r.frozen 0
      have f1 := H3.out.r.frozen 1
      have f2 := H3.out.r.frozen 2
      go_wp2_with fail
      refine (HT0.out _).mono ?_
      rintro r w5 ⟨rfl, hb5⟩
      have H4 := Lib.hid (H3.out.below hb5)
      clear hb5 a0 a1 a2 b0 b1 b2 r0 r1 r2 f0 f1 f2 H3
      have H3 := H4
      clear H4
      obtain ⟨a0, a1, a2⟩ := H3.out.a.cells
      obtain ⟨b0, b1, b2⟩ := H3.out.b.cells
      simp only at a0 a1 a2 b0 b1 b2
      obtain ⟨r0, r1, r2⟩ := H3.out.r.cells
      have f0 := H3.out.r.frozen 0
      have f1 := H3.out.r.frozen 1
      have f2 := H3.out.r.frozen 2
      obtain ⟨t0, t1, t2⟩ := (H3.out.r.set3' (2) (0) (⟨#[]⟩)).cells
      have HP := Lib.hid (H3.out.put3 (.int .i64 (2)) (.int .i64 (0)) (.string (⟨#[]⟩)))
      go_wp2
      refine bodyPost_ret (v := .tuple #[.agg #[.int .i64 (2), .int .i64 (0), .string (⟨#[]⟩)], .int .i64 0]) (by simp [results, Tryz.results37, go_sem, t0, t1, t2]) rfl ⟨?_, HP.out⟩
      rw [HX.out]
      rfl
    · have H3 := Lib.hid (Three.new w ⟨2, an, sa⟩ ⟨2, bn, sb⟩)
      go_enter Tryz.func37, Tryz.ntmps37
      go_upto_region 1 with fail
      simp only [three_def]
      obtain ⟨g, hg⟩ : ∃ g, w.heap.size = g := ⟨_, rfl⟩
      rw [hg] at H3
      obtain ⟨w3, hw3⟩ : ∃ y, three w ⟨2, an, sa⟩ ⟨2, bn, sb⟩ = y := ⟨_, rfl⟩
      rw [hw3] at H3 ⊢
      simp only [hg]
      clear hw3 hg
      obtain ⟨a0, a1, a2⟩ := H3.out.a.cells
      obtain ⟨b0, b1, b2⟩ := H3.out.b.cells
      simp only at a0 a1 a2 b0 b1 b2
      obtain ⟨r0, r1, r2⟩ := H3.out.r.cells
      have f0 := H3.out.r.frozen 0
      have f1 := H3.out.r.frozen 1
      have f2 := H3.out.r.frozen 2
      go_wp2_with fail
      refine (HK.out _).mono ?_
      rintro r w5 ⟨rfl, hb5⟩
      have H4 := Lib.hid (H3.out.below hb5)
      clear hb5 a0 a1 a2 b0 b1 b2 r0 r1 r2 f0 f1 f2 H3
      have H3 := H4
      clear H4
      obtain ⟨a0, a1, a2⟩ := H3.out.a.cells
      obtain ⟨b0, b1, b2⟩ := H3.out.b.cells
      simp only at a0 a1 a2 b0 b1 b2
      obtain ⟨r0, r1, r2⟩ := H3.out.r.cells
      have f0 := H3.out.r.frozen 0
      have f1 := H3.out.r.frozen 1
      have f2 := H3.out.r.frozen 2
      go_wp2_with fail
      refine (HT0.out _).mono ?_
      rintro r w5 ⟨rfl, hb5⟩
      have H4 := Lib.hid (H3.out.below hb5)
      clear hb5 a0 a1 a2 b0 b1 b2 r0 r1 r2 f0 f1 f2 H3
      have H3 := H4
      clear H4
      obtain ⟨a0, a1, a2⟩ := H3.out.a.cells
      obtain ⟨b0, b1, b2⟩ := H3.out.b.cells
      simp only at a0 a1 a2 b0 b1 b2
      obtain ⟨r0, r1, r2⟩ := H3.out.r.cells
      have f0 := H3.out.r.frozen 0
      have f1 := H3.out.r.frozen 1
      have f2 := H3.out.r.frozen 2
      obtain ⟨t0, t1, t2⟩ := (H3.out.r.set3' (2) (0) (⟨#[]⟩)).cells
      have HP := Lib.hid (H3.out.put3 (.int .i64 (2)) (.int .i64 (0)) (.string (⟨#[]⟩)))
      go_wp2
      refine bodyPost_ret (v := .tuple #[.agg #[.int .i64 (2), .int .i64 (0), .string (⟨#[]⟩)], .int .i64 0]) (by simp [results, Tryz.results37, go_sem, t0, t1, t2]) rfl ⟨?_, HP.out⟩
      rw [HX.out]
      rfl
    · have H3 := Lib.hid (Three.new w ⟨2, an, sa⟩ ⟨2, bn, sb⟩)
      go_enter Tryz.func37, Tryz.ntmps37
      go_upto_region 1 with fail
      simp only [three_def]
      obtain ⟨g, hg⟩ : ∃ g, w.heap.size = g := ⟨_, rfl⟩
      rw [hg] at H3
      obtain ⟨w3, hw3⟩ : ∃ y, three w ⟨2, an, sa⟩ ⟨2, bn, sb⟩ = y := ⟨_, rfl⟩
      rw [hw3] at H3 ⊢
      simp only [hg]
      clear hw3 hg
      obtain ⟨a0, a1, a2⟩ := H3.out.a.cells
      obtain ⟨b0, b1, b2⟩ := H3.out.b.cells
      simp only at a0 a1 a2 b0 b1 b2
      obtain ⟨r0, r1, r2⟩ := H3.out.r.cells
      have f0 := H3.out.r.frozen 0
      have f1 := H3.out.r.frozen 1
      have f2 := H3.out.r.frozen 2
      go_wp2_with fail
      refine (HK.out _).mono ?_
      rintro r w5 ⟨rfl, hb5⟩
      have H4 := Lib.hid (H3.out.below hb5)
      clear hb5 a0 a1 a2 b0 b1 b2 r0 r1 r2 f0 f1 f2 H3
      have H3 := H4
      clear H4
      obtain ⟨a0, a1, a2⟩ := H3.out.a.cells
      obtain ⟨b0, b1, b2⟩ := H3.out.b.cells
      simp only at a0 a1 a2 b0 b1 b2
      obtain ⟨r0, r1, r2⟩ := H3.out.r.cells
      have f0 := H3.out.r.frozen 0
      have f1 := H3.out.r.frozen 1
      have f2 := H3.out.r.frozen 2
      go_wp2_with fail
      refine (HT0.out _).mono ?_
      rintro r w5 ⟨rfl, hb5⟩
      have H4 := Lib.hid (H3.out.below hb5)
      clear hb5 a0 a1 a2 b0 b1 b2 r0 r1 r2 f0 f1 f2 H3
      have H3 := H4
      clear H4
      obtain ⟨a0, a1, a2⟩ := H3.out.a.cells
      obtain ⟨b0, b1, b2⟩ := H3.out.b.cells
      simp only at a0 a1 a2 b0 b1 b2
      obtain ⟨r0, r1, r2⟩ := H3.out.r.cells
      have f0 := H3.out.r.frozen 0
      have f1 := H3.out.r.frozen 1
      have f2 := H3.out.r.frozen 2
      obtain ⟨t0, t1, t2⟩ := (H3.out.r.set3' (2) (0) (⟨#[]⟩)).cells
      have HP := Lib.hid (H3.out.put3 (.int .i64 (2)) (.int .i64 (0)) (.string (⟨#[]⟩)))
      go_wp2
      refine bodyPost_ret (v := .tuple #[.agg #[.int .i64 (2), .int .i64 (0), .string (⟨#[]⟩)], .int .i64 0]) (by simp [results, Tryz.results37, go_sem, t0, t1, t2]) rfl ⟨?_, HP.out⟩
      rw [HX.out]
      rfl
    · have H3 := Lib.hid (Three.new w ⟨2, an, sa⟩ ⟨2, bn, sb⟩)
      go_enter Tryz.func37, Tryz.ntmps37
      go_upto_region 1 with fail
      simp only [three_def]
      obtain ⟨g, hg⟩ : ∃ g, w.heap.size = g := ⟨_, rfl⟩
      rw [hg] at H3
      obtain ⟨w3, hw3⟩ : ∃ y, three w ⟨2, an, sa⟩ ⟨2, bn, sb⟩ = y := ⟨_, rfl⟩
      rw [hw3] at H3 ⊢
      simp only [hg]
      clear hw3 hg
      obtain ⟨a0, a1, a2⟩ := H3.out.a.cells
      obtain ⟨b0, b1, b2⟩ := H3.out.b.cells
      simp only at a0 a1 a2 b0 b1 b2
      obtain ⟨r0, r1, r2⟩ := H3.out.r.cells
      have f0 := H3.out.r.frozen 0
      have f1 := H3.out.r.frozen 1
      have f2 := H3.out.r.frozen 2
      go_wp2_with fail
      refine (HK.out _).mono ?_
      rintro r w5 ⟨rfl, hb5⟩
      have H4 := Lib.hid (H3.out.below hb5)
      clear hb5 a0 a1 a2 b0 b1 b2 r0 r1 r2 f0 f1 f2 H3
      have H3 := H4
      clear H4
      obtain ⟨a0, a1, a2⟩ := H3.out.a.cells
      obtain ⟨b0, b1, b2⟩ := H3.out.b.cells
      simp only at a0 a1 a2 b0 b1 b2
      obtain ⟨r0, r1, r2⟩ := H3.out.r.cells
      have f0 := H3.out.r.frozen 0
      have f1 := H3.out.r.frozen 1
      have f2 := H3.out.r.frozen 2
      go_wp2_with fail
      refine (HT1.out _).mono ?_
      rintro r w5 ⟨rfl, hb5⟩
      have H4 := Lib.hid (H3.out.below hb5)
      clear hb5 a0 a1 a2 b0 b1 b2 r0 r1 r2 f0 f1 f2 H3
      have H3 := H4
      clear H4
      obtain ⟨a0, a1, a2⟩ := H3.out.a.cells
      obtain ⟨b0, b1, b2⟩ := H3.out.b.cells
      simp only at a0 a1 a2 b0 b1 b2
      obtain ⟨r0, r1, r2⟩ := H3.out.r.cells
      have f0 := H3.out.r.frozen 0
      have f1 := H3.out.r.frozen 1
      have f2 := H3.out.r.frozen 2
      obtain ⟨t0, t1, t2⟩ := (H3.out.r.set3' (2) (1) (⟨#[]⟩)).cells
      have HP := Lib.hid (H3.out.put3 (.int .i64 (2)) (.int .i64 (1)) (.string (⟨#[]⟩)))
      go_wp2
      refine bodyPost_ret (v := .tuple #[.agg #[.int .i64 (2), .int .i64 (1), .string (⟨#[]⟩)], .int .i64 0]) (by simp [results, Tryz.results37, go_sem, t0, t1, t2]) rfl ⟨?_, HP.out⟩
      rw [HX.out]
      rfl
  · have HX : Hid (X = (V0, 40)) := Lib.hid (by rw [← hX, two_ln17 (kindB_no hkb h2 (by decide))])
    have n2 : (kb != 2) = true := by rw [bne_iff_ne]; exact h2
    have e2 : (kb == 2) = false := by rw [beq_eq_false_iff_ne]; exact h2
    clear hX hkb ha hb h2
    have H3 := Lib.hid (Three.new w ⟨ak, an, sa⟩ ⟨bk, bn, sb⟩)
    go_enter Tryz.func37, Tryz.ntmps37
    go_upto_region 1 with fail
    simp only [three_def]
    obtain ⟨g, hg⟩ : ∃ g, w.heap.size = g := ⟨_, rfl⟩
    rw [hg] at H3
    obtain ⟨w3, hw3⟩ : ∃ y, three w ⟨ak, an, sa⟩ ⟨bk, bn, sb⟩ = y := ⟨_, rfl⟩
    rw [hw3] at H3 ⊢
    simp only [hg]
    clear hw3 hg
    obtain ⟨a0, a1, a2⟩ := H3.out.a.cells
    obtain ⟨b0, b1, b2⟩ := H3.out.b.cells
    simp only at a0 a1 a2 b0 b1 b2
    obtain ⟨r0, r1, r2⟩ := H3.out.r.cells
    have f0 := H3.out.r.frozen 0
    have f1 := H3.out.r.frozen 1
    have f2 := H3.out.r.frozen 2
    go_wp2_with fail
    refine (HK.out _).mono ?_
    rintro r w5 ⟨rfl, hb5⟩
    have H4 := Lib.hid (H3.out.below hb5)
    clear hb5 a0 a1 a2 b0 b1 b2 r0 r1 r2 f0 f1 f2 H3
    have H3 := H4
    clear H4
    obtain ⟨a0, a1, a2⟩ := H3.out.a.cells
    obtain ⟨b0, b1, b2⟩ := H3.out.b.cells
    simp only at a0 a1 a2 b0 b1 b2
    obtain ⟨r0, r1, r2⟩ := H3.out.r.cells
    have f0 := H3.out.r.frozen 0
    have f1 := H3.out.r.frozen 1
    have f2 := H3.out.r.frozen 2
    obtain ⟨t0, t1, t2⟩ := (H3.out.r.set3' (0) (0) (⟨#[]⟩)).cells
    have HP := Lib.hid (H3.out.put3 (.int .i64 (0)) (.int .i64 (0)) (.string (⟨#[]⟩)))
    go_wp2
    refine bodyPost_ret (v := .tuple #[.agg #[.int .i64 (0), .int .i64 (0), .string (⟨#[]⟩)], .int .i64 40]) (by simp [results, Tryz.results37, go_sem, t0, t1, t2]) rfl ⟨?_, HP.out⟩
    rw [HX.out]
    rfl
set_option maxRecDepth 100000 in
set_option maxHeartbeats 1000000 in
theorem g6Two18_any (a b : V) (w : World) (ha : okV a) (hb : okV b) : Calls Tryz.prog 37 #[.int .i64 18, a.val, b.val] w (RetG (twoV 18 a b) w) := by
  obtain ⟨ak, an, sa⟩ := a
  obtain ⟨bk, bn, sb⟩ := b
  have HK := Lib.hid (fun W => g6kind_any ⟨ak, an, sa⟩ ⟨bk, bn, sb⟩ W)
  have HT0 := Lib.hid (fun W => g6truth_any false W)
  have HT1 := Lib.hid (fun W => g6truth_any true W)
  simp only [V.val, truthV, mtS, Bool.false_eq_true, if_false, if_true] at HK HT0 HT1 ⊢
  obtain ⟨X, hX⟩ : ∃ X, twoV 18 ⟨ak, an, sa⟩ ⟨bk, bn, sb⟩ = X := ⟨_, rfl⟩
  rw [hX]
  obtain ⟨kb, hkb⟩ : ∃ k, kindB ⟨ak, an, sa⟩ ⟨bk, bn, sb⟩ = k := ⟨_, rfl⟩
  rw [hkb] at HK
  by_cases h2 : kb = 2
  · have hkk := kindB_yes hkb h2 (by decide)
    obtain ⟨rfl, rfl⟩ : ak = 2 ∧ bk = 2 := hkk
    obtain ⟨q1, hq1⟩ : ∃ q, (an != 0) = q := ⟨_, rfl⟩
    obtain ⟨q2, hq2⟩ : ∃ q, (bn != 0) = q := ⟨_, rfl⟩
    have HX : Hid (X = (truthV (q1 || q2), 0)) := Lib.hid (by rw [← hX, two_l18, hq1, hq2])
    have n2 : (kb != 2) = false := by rw [bne_eq_false_iff_eq]; exact h2
    have e2 : (kb == 2) = true := by rw [beq_iff_eq]; exact h2
    clear hX hkb ha hb h2
    cases q1 <;> cases q2
    · have H3 := Lib.hid (Three.new w ⟨2, an, sa⟩ ⟨2, bn, sb⟩)
      go_enter Tryz.func37, Tryz.ntmps37
      go_upto_region 1 with fail
      simp only [three_def]
      obtain ⟨g, hg⟩ : ∃ g, w.heap.size = g := ⟨_, rfl⟩
      rw [hg] at H3
      obtain ⟨w3, hw3⟩ : ∃ y, three w ⟨2, an, sa⟩ ⟨2, bn, sb⟩ = y := ⟨_, rfl⟩
      rw [hw3] at H3 ⊢
      simp only [hg]
      clear hw3 hg
      obtain ⟨a0, a1, a2⟩ := H3.out.a.cells
      obtain ⟨b0, b1, b2⟩ := H3.out.b.cells
      simp only at a0 a1 a2 b0 b1 b2
      obtain ⟨r0, r1, r2⟩ := H3.out.r.cells
      have f0 := H3.out.r.frozen 0
      have f1 := H3.out.r.frozen 1
      have f2 := H3.out.r.frozen 2
      go_wp2_with fail
      refine (HK.out _).mono ?_
      rintro r w5 ⟨rfl, hb5⟩
      have H4 := Lib.hid (H3.out.below hb5)
      clear hb5 a0 a1 a2 b0 b1 b2 r0 r1 r2 f0 f1 f2 H3
      have H3 := H4
      clear H4
      obtain ⟨a0, a1, a2⟩ := H3.out.a.cells
      obtain ⟨b0, b1, b2⟩ := H3.out.b.cells
      simp only at a0 a1 a2 b0 b1 b2
      obtain ⟨r0, r1, r2⟩ := H3.out.r.cells
      have f0 := H3.out.r.frozen 0
      have f1 := H3.out.r.frozen 1
      have f2 := H3.out.r.frozen 2
      go_wp2_with fail
      refine (HT0.out _).mono ?_
      rintro r w5 ⟨rfl, hb5⟩
      have H4 := Lib.hid (H3.out.below hb5)
      clear hb5 a0 a1 a2 b0 b1 b2 r0 r1 r2 f0 f1 f2 H3
      have H3 := H4
      clear H4
      obtain ⟨a0, a1, a2⟩ := H3.out.a.cells
      obtain ⟨b0, b1, b2⟩ := H3.out.b.cells
      simp only at a0 a1 a2 b0 b1 b2
      obtain ⟨r0, r1, r2⟩ := H3.out.r.cells
      have f0 := H3.out.r.frozen 0
      have f1 := H3.out.r.frozen 1
      have f2 := H3.out.r.frozen 2
      obtain ⟨t0, t1, t2⟩ := (H3.out.r.set3' (2) (0) (⟨#[]⟩)).cells
      have HP := Lib.hid (H3.out.put3 (.int .i64 (2)) (.int .i64 (0)) (.string (⟨#[]⟩)))
      go_wp2
      refine bodyPost_ret (v := .tuple #[.agg #[.int .i64 (2), .int .i64 (0), .string (⟨#[]⟩)], .int .i64 0]) (by simp [results, Tryz.results37, go_sem, t0, t1, t2]) rfl ⟨?_, HP.out⟩
      rw [HX.out]
      rfl
    · have H3 := Lib.hid (Three.new w ⟨2, an, sa⟩ ⟨2, bn, sb⟩)
      go_enter Tryz.func37, Tryz.ntmps37
      go_upto_region 1 with fail
      simp only [three_def]
      obtain ⟨g, hg⟩ : ∃ g, w.heap.size = g := ⟨_, rfl⟩
      rw [hg] at H3
      obtain ⟨w3, hw3⟩ : ∃ y, three w ⟨2, an, sa⟩ ⟨2, bn, sb⟩ = y := ⟨_, rfl⟩
      rw [hw3] at H3 ⊢
      simp only [hg]
      clear hw3 hg
      obtain ⟨a0, a1, a2⟩ := H3.out.a.cells
      obtain ⟨b0, b1, b2⟩ := H3.out.b.cells
      simp only at a0 a1 a2 b0 b1 b2
      obtain ⟨r0, r1, r2⟩ := H3.out.r.cells
      have f0 := H3.out.r.frozen 0
      have f1 := H3.out.r.frozen 1
      have f2 := H3.out.r.frozen 2
      go_wp2_with fail
      refine (HK.out _).mono ?_
      rintro r w5 ⟨rfl, hb5⟩
      have H4 := Lib.hid (H3.out.below hb5)
      clear hb5 a0 a1 a2 b0 b1 b2 r0 r1 r2 f0 f1 f2 H3
      have H3 := H4
      clear H4
      obtain ⟨a0, a1, a2⟩ := H3.out.a.cells
      obtain ⟨b0, b1, b2⟩ := H3.out.b.cells
      simp only at a0 a1 a2 b0 b1 b2
      obtain ⟨r0, r1, r2⟩ := H3.out.r.cells
      have f0 := H3.out.r.frozen 0
      have f1 := H3.out.r.frozen 1
      have f2 := H3.out.r.frozen 2
      go_wp2_with fail
      refine (HT1.out _).mono ?_
      rintro r w5 ⟨rfl, hb5⟩
      have H4 := Lib.hid (H3.out.below hb5)
      clear hb5 a0 a1 a2 b0 b1 b2 r0 r1 r2 f0 f1 f2 H3
      have H3 := H4
      clear H4
      obtain ⟨a0, a1, a2⟩ := H3.out.a.cells
      obtain ⟨b0, b1, b2⟩ := H3.out.b.cells
      simp only at a0 a1 a2 b0 b1 b2
      obtain ⟨r0, r1, r2⟩ := H3.out.r.cells
      have f0 := H3.out.r.frozen 0
      have f1 := H3.out.r.frozen 1
      have f2 := H3.out.r.frozen 2
      obtain ⟨t0, t1, t2⟩ := (H3.out.r.set3' (2) (1) (⟨#[]⟩)).cells
      have HP := Lib.hid (H3.out.put3 (.int .i64 (2)) (.int .i64 (1)) (.string (⟨#[]⟩)))
      go_wp2
      refine bodyPost_ret (v := .tuple #[.agg #[.int .i64 (2), .int .i64 (1), .string (⟨#[]⟩)], .int .i64 0]) (by simp [results, Tryz.results37, go_sem, t0, t1, t2]) rfl ⟨?_, HP.out⟩
      rw [HX.out]
      rfl
    · have H3 := Lib.hid (Three.new w ⟨2, an, sa⟩ ⟨2, bn, sb⟩)
      go_enter Tryz.func37, Tryz.ntmps37
      go_upto_region 1 with fail
      simp only [three_def]
      obtain ⟨g, hg⟩ : ∃ g, w.heap.size = g := ⟨_, rfl⟩
      rw [hg] at H3
      obtain ⟨w3, hw3⟩ : ∃ y, three w ⟨2, an, sa⟩ ⟨2, bn, sb⟩ = y := ⟨_, rfl⟩
      rw [hw3] at H3 ⊢
      simp only [hg]
      clear hw3 hg
      obtain ⟨a0, a1, a2⟩ := H3.out.a.cells
      obtain ⟨b0, b1, b2⟩ := H3.out.b.cells
      simp only at a0 a1 a2 b0 b1 b2
      obtain ⟨r0, r1, r2⟩ := H3.out.r.cells
      have f0 := H3.out.r.frozen 0
      have f1 := H3.out.r.frozen 1
      have f2 := H3.out.r.frozen 2
      go_wp2_with fail
      refine (HK.out _).mono ?_
      rintro r w5 ⟨rfl, hb5⟩
      have H4 := Lib.hid (H3.out.below hb5)
      clear hb5 a0 a1 a2 b0 b1 b2 r0 r1 r2 f0 f1 f2 H3
      have H3 := H4
      clear H4
      obtain ⟨a0, a1, a2⟩ := H3.out.a.cells
      obtain ⟨b0, b1, b2⟩ := H3.out.b.cells
      simp only at a0 a1 a2 b0 b1 b2
      obtain ⟨r0, r1, r2⟩ := H3.out.r.cells
      have f0 := H3.out.r.frozen 0
      have f1 := H3.out.r.frozen 1
      have f2 := H3.out.r.frozen 2
      go_wp2_with fail
      refine (HT1.out _).mono ?_
      rintro r w5 ⟨rfl, hb5⟩
      have H4 := Lib.hid (H3.out.below hb5)
      clear hb5 a0 a1 a2 b0 b1 b2 r0 r1 r2 f0 f1 f2 H3
      have H3 := H4
      clear H4
      obtain ⟨a0, a1, a2⟩ := H3.out.a.cells
      obtain ⟨b0, b1, b2⟩ := H3.out.b.cells
      simp only at a0 a1 a2 b0 b1 b2
      obtain ⟨r0, r1, r2⟩ := H3.out.r.cells
      have f0 := H3.out.r.frozen 0
      have f1 := H3.out.r.frozen 1
      have f2 := H3.out.r.frozen 2
      obtain ⟨t0, t1, t2⟩ := (H3.out.r.set3' (2) (1) (⟨#[]⟩)).cells
      have HP := Lib.hid (H3.out.put3 (.int .i64 (2)) (.int .i64 (1)) (.string (⟨#[]⟩)))
      go_wp2
      refine bodyPost_ret (v := .tuple #[.agg #[.int .i64 (2), .int .i64 (1), .string (⟨#[]⟩)], .int .i64 0]) (by simp [results, Tryz.results37, go_sem, t0, t1, t2]) rfl ⟨?_, HP.out⟩
      rw [HX.out]
      rfl
    · have H3 := Lib.hid (Three.new w ⟨2, an, sa⟩ ⟨2, bn, sb⟩)
      go_enter Tryz.func37, Tryz.ntmps37
      go_upto_region 1 with fail
      simp only [three_def]
      obtain ⟨g, hg⟩ : ∃ g, w.heap.size = g := ⟨_, rfl⟩
      rw [hg] at H3
      obtain ⟨w3, hw3⟩ : ∃ y, three w ⟨2, an, sa⟩ ⟨2, bn, sb⟩ = y := ⟨_, rfl⟩
      rw [hw3] at H3 ⊢
      simp only [hg]
      clear hw3 hg
      obtain ⟨a0, a1, a2⟩ := H3.out.a.cells
      obtain ⟨b0, b1, b2⟩ := H3.out.b.cells
      simp only at a0 a1 a2 b0 b1 b2
      obtain ⟨r0, r1, r2⟩ := H3.out.r.cells
      have f0 := H3.out.r.frozen 0
      have f1 := H3.out.r.frozen 1
      have f2 := H3.out.r.frozen 2
      go_wp2_with fail
      refine (HK.out _).mono ?_
      rintro r w5 ⟨rfl, hb5⟩
      have H4 := Lib.hid (H3.out.below hb5)
      clear hb5 a0 a1 a2 b0 b1 b2 r0 r1 r2 f0 f1 f2 H3
      have H3 := H4
      clear H4
      obtain ⟨a0, a1, a2⟩ := H3.out.a.cells
      obtain ⟨b0, b1, b2⟩ := H3.out.b.cells
      simp only at a0 a1 a2 b0 b1 b2
      obtain ⟨r0, r1, r2⟩ := H3.out.r.cells
      have f0 := H3.out.r.frozen 0
      have f1 := H3.out.r.frozen 1
      have f2 := H3.out.r.frozen 2
      go_wp2_with fail
      refine (HT1.out _).mono ?_
      rintro r w5 ⟨rfl, hb5⟩
      have H4 := Lib.hid (H3.out.below hb5)
      clear hb5 a0 a1 a2 b0 b1 b2 r0 r1 r2 f0 f1 f2 H3
      have H3 := H4
      clear H4
      obtain ⟨a0, a1, a2⟩ := H3.out.a.cells
      obtain ⟨b0, b1, b2⟩ := H3.out.b.cells
      simp only at a0 a1 a2 b0 b1 b2
      obtain ⟨r0, r1, r2⟩ := H3.out.r.cells
      have f0 := H3.out.r.frozen 0
      have f1 := H3.out.r.frozen 1
      have f2 := H3.out.r.frozen 2
      obtain ⟨t0, t1, t2⟩ := (H3.out.r.set3' (2) (1) (⟨#[]⟩)).cells
      have HP := Lib.hid (H3.out.put3 (.int .i64 (2)) (.int .i64 (1)) (.string (⟨#[]⟩)))
      go_wp2
      refine bodyPost_ret (v := .tuple #[.agg #[.int .i64 (2), .int .i64 (1), .string (⟨#[]⟩)], .int .i64 0]) (by simp [results, Tryz.results37, go_sem, t0, t1, t2]) rfl ⟨?_, HP.out⟩
      rw [HX.out]
      rfl
  · have HX : Hid (X = (V0, 40)) := Lib.hid (by rw [← hX, two_ln18 (kindB_no hkb h2 (by decide))])
    have n2 : (kb != 2) = true := by rw [bne_iff_ne]; exact h2
    have e2 : (kb == 2) = false := by rw [beq_eq_false_iff_ne]; exact h2
    clear hX hkb ha hb h2
    have H3 := Lib.hid (Three.new w ⟨ak, an, sa⟩ ⟨bk, bn, sb⟩)
    go_enter Tryz.func37, Tryz.ntmps37
    go_upto_region 1 with fail
    simp only [three_def]
    obtain ⟨g, hg⟩ : ∃ g, w.heap.size = g := ⟨_, rfl⟩
    rw [hg] at H3
    obtain ⟨w3, hw3⟩ : ∃ y, three w ⟨ak, an, sa⟩ ⟨bk, bn, sb⟩ = y := ⟨_, rfl⟩
    rw [hw3] at H3 ⊢
    simp only [hg]
    clear hw3 hg
    obtain ⟨a0, a1, a2⟩ := H3.out.a.cells
    obtain ⟨b0, b1, b2⟩ := H3.out.b.cells
    simp only at a0 a1 a2 b0 b1 b2
    obtain ⟨r0, r1, r2⟩ := H3.out.r.cells
    have f0 := H3.out.r.frozen 0
    have f1 := H3.out.r.frozen 1
    have f2 := H3.out.r.frozen 2
    go_wp2_with fail
    refine (HK.out _).mono ?_
    rintro r w5 ⟨rfl, hb5⟩
    have H4 := Lib.hid (H3.out.below hb5)
    clear hb5 a0 a1 a2 b0 b1 b2 r0 r1 r2 f0 f1 f2 H3
    have H3 := H4
    clear H4
    obtain ⟨a0, a1, a2⟩ := H3.out.a.cells
    obtain ⟨b0, b1, b2⟩ := H3.out.b.cells
    simp only at a0 a1 a2 b0 b1 b2
    obtain ⟨r0, r1, r2⟩ := H3.out.r.cells
    have f0 := H3.out.r.frozen 0
    have f1 := H3.out.r.frozen 1
    have f2 := H3.out.r.frozen 2
    obtain ⟨t0, t1, t2⟩ := (H3.out.r.set3' (0) (0) (⟨#[]⟩)).cells
    have HP := Lib.hid (H3.out.put3 (.int .i64 (0)) (.int .i64 (0)) (.string (⟨#[]⟩)))
    go_wp2
    refine bodyPost_ret (v := .tuple #[.agg #[.int .i64 (0), .int .i64 (0), .string (⟨#[]⟩)], .int .i64 40]) (by simp [results, Tryz.results37, go_sem, t0, t1, t2]) rfl ⟨?_, HP.out⟩
    rw [HX.out]
    rfl
set_option maxRecDepth 100000 in
set_option maxHeartbeats 1000000 in
theorem g6Two15_any (a b : V) (w : World) (ha : okV a) (hb : okV b) : Calls Tryz.prog 37 #[.int .i64 15, a.val, b.val] w (RetG (twoV 15 a b) w) := by
  obtain ⟨ak, an, sa⟩ := a
  obtain ⟨bk, bn, sb⟩ := b
  have HK := Lib.hid (fun W => g6kind_any ⟨ak, an, sa⟩ ⟨bk, bn, sb⟩ W)
  have HT0 := Lib.hid (fun W => g6truth_any false W)
  have HT1 := Lib.hid (fun W => g6truth_any true W)
  simp only [V.val, truthV, mtS, Bool.false_eq_true, if_false, if_true] at HK HT0 HT1 ⊢
  obtain ⟨X, hX⟩ : ∃ X, twoV 15 ⟨ak, an, sa⟩ ⟨bk, bn, sb⟩ = X := ⟨_, rfl⟩
  rw [hX]
  obtain ⟨kb, hkb⟩ : ∃ k, kindB ⟨ak, an, sa⟩ ⟨bk, bn, sb⟩ = k := ⟨_, rfl⟩
  rw [hkb] at HK
  have q : ∀ w, (Op.equalIn 10000 27 (.agg #[.int .i64 ak, .int .i64 an, .string sa]) (.agg #[.int .i64 bk, .int .i64 bn, .string sb])).run Tryz.prog w = .ok (eqV ⟨ak, an, sa⟩ ⟨bk, bn, sb⟩) w := fun w => eq_in ak an bk bn sa sb w
  rw [two_eq] at hX
  obtain ⟨e, he⟩ : ∃ e, eqV ⟨ak, an, sa⟩ ⟨bk, bn, sb⟩ = e := ⟨_, rfl⟩
  rw [he] at q hX
  have HX := Lib.hid hX.symm
  clear hX he ha hb hkb
  cases e
  · have H3 := Lib.hid (Three.new w ⟨ak, an, sa⟩ ⟨bk, bn, sb⟩)
    go_enter Tryz.func37, Tryz.ntmps37
    go_upto_region 1 with fail
    simp only [three_def]
    obtain ⟨g, hg⟩ : ∃ g, w.heap.size = g := ⟨_, rfl⟩
    rw [hg] at H3
    obtain ⟨w3, hw3⟩ : ∃ y, three w ⟨ak, an, sa⟩ ⟨bk, bn, sb⟩ = y := ⟨_, rfl⟩
    rw [hw3] at H3 ⊢
    simp only [hg]
    clear hw3 hg
    obtain ⟨a0, a1, a2⟩ := H3.out.a.cells
    obtain ⟨b0, b1, b2⟩ := H3.out.b.cells
    simp only at a0 a1 a2 b0 b1 b2
    obtain ⟨r0, r1, r2⟩ := H3.out.r.cells
    have f0 := H3.out.r.frozen 0
    have f1 := H3.out.r.frozen 1
    have f2 := H3.out.r.frozen 2
    go_wp2_with fail
    refine (HK.out _).mono ?_
    rintro r w5 ⟨rfl, hb5⟩
    have H4 := Lib.hid (H3.out.below hb5)
    clear hb5 a0 a1 a2 b0 b1 b2 r0 r1 r2 f0 f1 f2 H3
    have H3 := H4
    clear H4
    obtain ⟨a0, a1, a2⟩ := H3.out.a.cells
    obtain ⟨b0, b1, b2⟩ := H3.out.b.cells
    simp only at a0 a1 a2 b0 b1 b2
    obtain ⟨r0, r1, r2⟩ := H3.out.r.cells
    have f0 := H3.out.r.frozen 0
    have f1 := H3.out.r.frozen 1
    have f2 := H3.out.r.frozen 2
    go_wp2_with fail
    refine (HT0.out _).mono ?_
    rintro r w5 ⟨rfl, hb5⟩
    have H4 := Lib.hid (H3.out.below hb5)
    clear hb5 a0 a1 a2 b0 b1 b2 r0 r1 r2 f0 f1 f2 H3
    have H3 := H4
    clear H4
    obtain ⟨a0, a1, a2⟩ := H3.out.a.cells
    obtain ⟨b0, b1, b2⟩ := H3.out.b.cells
    simp only at a0 a1 a2 b0 b1 b2
    obtain ⟨r0, r1, r2⟩ := H3.out.r.cells
    have f0 := H3.out.r.frozen 0
    have f1 := H3.out.r.frozen 1
    have f2 := H3.out.r.frozen 2
    obtain ⟨t0, t1, t2⟩ := (H3.out.r.set3' (2) (0) (⟨#[]⟩)).cells
    have HP := Lib.hid (H3.out.put3 (.int .i64 (2)) (.int .i64 (0)) (.string (⟨#[]⟩)))
    go_wp2
    refine bodyPost_ret (v := .tuple #[.agg #[.int .i64 (2), .int .i64 (0), .string (⟨#[]⟩)], .int .i64 0]) (by simp [results, Tryz.results37, go_sem, t0, t1, t2]) rfl ⟨?_, HP.out⟩
    rw [HX.out]
    rfl
  · have H3 := Lib.hid (Three.new w ⟨ak, an, sa⟩ ⟨bk, bn, sb⟩)
    go_enter Tryz.func37, Tryz.ntmps37
    go_upto_region 1 with fail
    simp only [three_def]
    obtain ⟨g, hg⟩ : ∃ g, w.heap.size = g := ⟨_, rfl⟩
    rw [hg] at H3
    obtain ⟨w3, hw3⟩ : ∃ y, three w ⟨ak, an, sa⟩ ⟨bk, bn, sb⟩ = y := ⟨_, rfl⟩
    rw [hw3] at H3 ⊢
    simp only [hg]
    clear hw3 hg
    obtain ⟨a0, a1, a2⟩ := H3.out.a.cells
    obtain ⟨b0, b1, b2⟩ := H3.out.b.cells
    simp only at a0 a1 a2 b0 b1 b2
    obtain ⟨r0, r1, r2⟩ := H3.out.r.cells
    have f0 := H3.out.r.frozen 0
    have f1 := H3.out.r.frozen 1
    have f2 := H3.out.r.frozen 2
    go_wp2_with fail
    refine (HK.out _).mono ?_
    rintro r w5 ⟨rfl, hb5⟩
    have H4 := Lib.hid (H3.out.below hb5)
    clear hb5 a0 a1 a2 b0 b1 b2 r0 r1 r2 f0 f1 f2 H3
    have H3 := H4
    clear H4
    obtain ⟨a0, a1, a2⟩ := H3.out.a.cells
    obtain ⟨b0, b1, b2⟩ := H3.out.b.cells
    simp only at a0 a1 a2 b0 b1 b2
    obtain ⟨r0, r1, r2⟩ := H3.out.r.cells
    have f0 := H3.out.r.frozen 0
    have f1 := H3.out.r.frozen 1
    have f2 := H3.out.r.frozen 2
    go_wp2_with fail
    refine (HT1.out _).mono ?_
    rintro r w5 ⟨rfl, hb5⟩
    have H4 := Lib.hid (H3.out.below hb5)
    clear hb5 a0 a1 a2 b0 b1 b2 r0 r1 r2 f0 f1 f2 H3
    have H3 := H4
    clear H4
    obtain ⟨a0, a1, a2⟩ := H3.out.a.cells
    obtain ⟨b0, b1, b2⟩ := H3.out.b.cells
    simp only at a0 a1 a2 b0 b1 b2
    obtain ⟨r0, r1, r2⟩ := H3.out.r.cells
    have f0 := H3.out.r.frozen 0
    have f1 := H3.out.r.frozen 1
    have f2 := H3.out.r.frozen 2
    obtain ⟨t0, t1, t2⟩ := (H3.out.r.set3' (2) (1) (⟨#[]⟩)).cells
    have HP := Lib.hid (H3.out.put3 (.int .i64 (2)) (.int .i64 (1)) (.string (⟨#[]⟩)))
    go_wp2
    refine bodyPost_ret (v := .tuple #[.agg #[.int .i64 (2), .int .i64 (1), .string (⟨#[]⟩)], .int .i64 0]) (by simp [results, Tryz.results37, go_sem, t0, t1, t2]) rfl ⟨?_, HP.out⟩
    rw [HX.out]
    rfl
set_option maxRecDepth 100000 in
set_option maxHeartbeats 1000000 in
theorem g6Two16_any (a b : V) (w : World) (ha : okV a) (hb : okV b) : Calls Tryz.prog 37 #[.int .i64 16, a.val, b.val] w (RetG (twoV 16 a b) w) := by
  obtain ⟨ak, an, sa⟩ := a
  obtain ⟨bk, bn, sb⟩ := b
  have HK := Lib.hid (fun W => g6kind_any ⟨ak, an, sa⟩ ⟨bk, bn, sb⟩ W)
  have HT0 := Lib.hid (fun W => g6truth_any false W)
  have HT1 := Lib.hid (fun W => g6truth_any true W)
  simp only [V.val, truthV, mtS, Bool.false_eq_true, if_false, if_true] at HK HT0 HT1 ⊢
  obtain ⟨X, hX⟩ : ∃ X, twoV 16 ⟨ak, an, sa⟩ ⟨bk, bn, sb⟩ = X := ⟨_, rfl⟩
  rw [hX]
  obtain ⟨kb, hkb⟩ : ∃ k, kindB ⟨ak, an, sa⟩ ⟨bk, bn, sb⟩ = k := ⟨_, rfl⟩
  rw [hkb] at HK
  have q : ∀ w, (Op.equalIn 10000 27 (.agg #[.int .i64 ak, .int .i64 an, .string sa]) (.agg #[.int .i64 bk, .int .i64 bn, .string sb])).run Tryz.prog w = .ok (eqV ⟨ak, an, sa⟩ ⟨bk, bn, sb⟩) w := fun w => eq_in ak an bk bn sa sb w
  rw [two_ne] at hX
  obtain ⟨e, he⟩ : ∃ e, eqV ⟨ak, an, sa⟩ ⟨bk, bn, sb⟩ = e := ⟨_, rfl⟩
  rw [he] at q hX
  have HX := Lib.hid hX.symm
  clear hX he ha hb hkb
  cases e
  · have H3 := Lib.hid (Three.new w ⟨ak, an, sa⟩ ⟨bk, bn, sb⟩)
    go_enter Tryz.func37, Tryz.ntmps37
    go_upto_region 1 with fail
    simp only [three_def]
    obtain ⟨g, hg⟩ : ∃ g, w.heap.size = g := ⟨_, rfl⟩
    rw [hg] at H3
    obtain ⟨w3, hw3⟩ : ∃ y, three w ⟨ak, an, sa⟩ ⟨bk, bn, sb⟩ = y := ⟨_, rfl⟩
    rw [hw3] at H3 ⊢
    simp only [hg]
    clear hw3 hg
    obtain ⟨a0, a1, a2⟩ := H3.out.a.cells
    obtain ⟨b0, b1, b2⟩ := H3.out.b.cells
    simp only at a0 a1 a2 b0 b1 b2
    obtain ⟨r0, r1, r2⟩ := H3.out.r.cells
    have f0 := H3.out.r.frozen 0
    have f1 := H3.out.r.frozen 1
    have f2 := H3.out.r.frozen 2
    go_wp2_with fail
    refine (HK.out _).mono ?_
    rintro r w5 ⟨rfl, hb5⟩
    have H4 := Lib.hid (H3.out.below hb5)
    clear hb5 a0 a1 a2 b0 b1 b2 r0 r1 r2 f0 f1 f2 H3
    have H3 := H4
    clear H4
    obtain ⟨a0, a1, a2⟩ := H3.out.a.cells
    obtain ⟨b0, b1, b2⟩ := H3.out.b.cells
    simp only at a0 a1 a2 b0 b1 b2
    obtain ⟨r0, r1, r2⟩ := H3.out.r.cells
    have f0 := H3.out.r.frozen 0
    have f1 := H3.out.r.frozen 1
    have f2 := H3.out.r.frozen 2
    go_wp2_with fail
    refine (HT1.out _).mono ?_
    rintro r w5 ⟨rfl, hb5⟩
    have H4 := Lib.hid (H3.out.below hb5)
    clear hb5 a0 a1 a2 b0 b1 b2 r0 r1 r2 f0 f1 f2 H3
    have H3 := H4
    clear H4
    obtain ⟨a0, a1, a2⟩ := H3.out.a.cells
    obtain ⟨b0, b1, b2⟩ := H3.out.b.cells
    simp only at a0 a1 a2 b0 b1 b2
    obtain ⟨r0, r1, r2⟩ := H3.out.r.cells
    have f0 := H3.out.r.frozen 0
    have f1 := H3.out.r.frozen 1
    have f2 := H3.out.r.frozen 2
    obtain ⟨t0, t1, t2⟩ := (H3.out.r.set3' (2) (1) (⟨#[]⟩)).cells
    have HP := Lib.hid (H3.out.put3 (.int .i64 (2)) (.int .i64 (1)) (.string (⟨#[]⟩)))
    go_wp2
    refine bodyPost_ret (v := .tuple #[.agg #[.int .i64 (2), .int .i64 (1), .string (⟨#[]⟩)], .int .i64 0]) (by simp [results, Tryz.results37, go_sem, t0, t1, t2]) rfl ⟨?_, HP.out⟩
    rw [HX.out]
    rfl
  · have H3 := Lib.hid (Three.new w ⟨ak, an, sa⟩ ⟨bk, bn, sb⟩)
    go_enter Tryz.func37, Tryz.ntmps37
    go_upto_region 1 with fail
    simp only [three_def]
    obtain ⟨g, hg⟩ : ∃ g, w.heap.size = g := ⟨_, rfl⟩
    rw [hg] at H3
    obtain ⟨w3, hw3⟩ : ∃ y, three w ⟨ak, an, sa⟩ ⟨bk, bn, sb⟩ = y := ⟨_, rfl⟩
    rw [hw3] at H3 ⊢
    simp only [hg]
    clear hw3 hg
    obtain ⟨a0, a1, a2⟩ := H3.out.a.cells
    obtain ⟨b0, b1, b2⟩ := H3.out.b.cells
    simp only at a0 a1 a2 b0 b1 b2
    obtain ⟨r0, r1, r2⟩ := H3.out.r.cells
    have f0 := H3.out.r.frozen 0
    have f1 := H3.out.r.frozen 1
    have f2 := H3.out.r.frozen 2
    go_wp2_with fail
    refine (HK.out _).mono ?_
    rintro r w5 ⟨rfl, hb5⟩
    have H4 := Lib.hid (H3.out.below hb5)
    clear hb5 a0 a1 a2 b0 b1 b2 r0 r1 r2 f0 f1 f2 H3
    have H3 := H4
    clear H4
    obtain ⟨a0, a1, a2⟩ := H3.out.a.cells
    obtain ⟨b0, b1, b2⟩ := H3.out.b.cells
    simp only at a0 a1 a2 b0 b1 b2
    obtain ⟨r0, r1, r2⟩ := H3.out.r.cells
    have f0 := H3.out.r.frozen 0
    have f1 := H3.out.r.frozen 1
    have f2 := H3.out.r.frozen 2
    go_wp2_with fail
    refine (HT0.out _).mono ?_
    rintro r w5 ⟨rfl, hb5⟩
    have H4 := Lib.hid (H3.out.below hb5)
    clear hb5 a0 a1 a2 b0 b1 b2 r0 r1 r2 f0 f1 f2 H3
    have H3 := H4
    clear H4
    obtain ⟨a0, a1, a2⟩ := H3.out.a.cells
    obtain ⟨b0, b1, b2⟩ := H3.out.b.cells
    simp only at a0 a1 a2 b0 b1 b2
    obtain ⟨r0, r1, r2⟩ := H3.out.r.cells
    have f0 := H3.out.r.frozen 0
    have f1 := H3.out.r.frozen 1
    have f2 := H3.out.r.frozen 2
    obtain ⟨t0, t1, t2⟩ := (H3.out.r.set3' (2) (0) (⟨#[]⟩)).cells
    have HP := Lib.hid (H3.out.put3 (.int .i64 (2)) (.int .i64 (0)) (.string (⟨#[]⟩)))
    go_wp2
    refine bodyPost_ret (v := .tuple #[.agg #[.int .i64 (2), .int .i64 (0), .string (⟨#[]⟩)], .int .i64 0]) (by simp [results, Tryz.results37, go_sem, t0, t1, t2]) rfl ⟨?_, HP.out⟩
    rw [HX.out]
    rfl
set_option maxRecDepth 100000 in
set_option maxHeartbeats 1000000 in
theorem g6Two11_any (a b : V) (w : World) (ha : okV a) (hb : okV b) : Calls Tryz.prog 37 #[.int .i64 11, a.val, b.val] w (RetG (twoV 11 a b) w) := by
  obtain ⟨ak, an, sa⟩ := a
  obtain ⟨bk, bn, sb⟩ := b
  have HK := Lib.hid (fun W => g6kind_any ⟨ak, an, sa⟩ ⟨bk, bn, sb⟩ W)
  have HT0 := Lib.hid (fun W => g6truth_any false W)
  have HT1 := Lib.hid (fun W => g6truth_any true W)
  simp only [V.val, truthV, mtS, Bool.false_eq_true, if_false, if_true] at HK HT0 HT1 ⊢
  obtain ⟨X, hX⟩ : ∃ X, twoV 11 ⟨ak, an, sa⟩ ⟨bk, bn, sb⟩ = X := ⟨_, rfl⟩
  rw [hX]
  obtain ⟨kb, hkb⟩ : ∃ k, kindB ⟨ak, an, sa⟩ ⟨bk, bn, sb⟩ = k := ⟨_, rfl⟩
  rw [hkb] at HK
  obtain ⟨s, hs⟩ : ∃ s, standV 11 ⟨ak, an, sa⟩ ⟨bk, bn, sb⟩ = s := ⟨_, rfl⟩
  by_cases h13 : kb = 1 ∨ kb = 3
  · have HX : Hid (X = (truthV s, 0)) := Lib.hid (by rw [← hX, two_oy (by decide) (kindB_or hkb h13), hs])
    have HS := Lib.hid (fun W => g6stands11_any ⟨ak, an, sa⟩ ⟨bk, bn, sb⟩ W)
    simp only [V.val] at HS
    rw [hs] at HS
    have hn : ((kb != 1) = false ∧ (kb == 1) = true) ∨ ((kb != 1) = true ∧ (kb == 1) = false ∧ (kb != 3) = false ∧ (kb == 3) = true) := by
      rcases h13 with rfl | rfl
      · exact .inl ⟨rfl, rfl⟩
      · exact .inr ⟨rfl, rfl, rfl, rfl⟩
    clear hX hkb ha hb h13 hs
    rcases hn with ⟨n1, e1⟩ | ⟨n1, e1, n3, e3⟩
    all_goals
      cases s
      · have H3 := Lib.hid (Three.new w ⟨ak, an, sa⟩ ⟨bk, bn, sb⟩)
        go_enter Tryz.func37, Tryz.ntmps37
        go_upto_region 1 with fail
        simp only [three_def]
        obtain ⟨g, hg⟩ : ∃ g, w.heap.size = g := ⟨_, rfl⟩
        rw [hg] at H3
        obtain ⟨w3, hw3⟩ : ∃ y, three w ⟨ak, an, sa⟩ ⟨bk, bn, sb⟩ = y := ⟨_, rfl⟩
        rw [hw3] at H3 ⊢
        simp only [hg]
        clear hw3 hg
        obtain ⟨a0, a1, a2⟩ := H3.out.a.cells
        obtain ⟨b0, b1, b2⟩ := H3.out.b.cells
        simp only at a0 a1 a2 b0 b1 b2
        obtain ⟨r0, r1, r2⟩ := H3.out.r.cells
        have f0 := H3.out.r.frozen 0
        have f1 := H3.out.r.frozen 1
        have f2 := H3.out.r.frozen 2
        go_wp2_with fail
        refine (HK.out _).mono ?_
        rintro r w5 ⟨rfl, hb5⟩
        have H4 := Lib.hid (H3.out.below hb5)
        clear hb5 a0 a1 a2 b0 b1 b2 r0 r1 r2 f0 f1 f2 H3
        have H3 := H4
        clear H4
        obtain ⟨a0, a1, a2⟩ := H3.out.a.cells
        obtain ⟨b0, b1, b2⟩ := H3.out.b.cells
        simp only at a0 a1 a2 b0 b1 b2
        obtain ⟨r0, r1, r2⟩ := H3.out.r.cells
        have f0 := H3.out.r.frozen 0
        have f1 := H3.out.r.frozen 1
        have f2 := H3.out.r.frozen 2
        go_wp2_with fail
        refine (HS.out _).mono ?_
        rintro r w5 ⟨rfl, hb5⟩
        have H4 := Lib.hid (H3.out.below hb5)
        clear hb5 a0 a1 a2 b0 b1 b2 r0 r1 r2 f0 f1 f2 H3
        have H3 := H4
        clear H4
        obtain ⟨a0, a1, a2⟩ := H3.out.a.cells
        obtain ⟨b0, b1, b2⟩ := H3.out.b.cells
        simp only at a0 a1 a2 b0 b1 b2
        obtain ⟨r0, r1, r2⟩ := H3.out.r.cells
        have f0 := H3.out.r.frozen 0
        have f1 := H3.out.r.frozen 1
        have f2 := H3.out.r.frozen 2
        go_wp2_with fail
        refine (HT0.out _).mono ?_
        rintro r w5 ⟨rfl, hb5⟩
        have H4 := Lib.hid (H3.out.below hb5)
        clear hb5 a0 a1 a2 b0 b1 b2 r0 r1 r2 f0 f1 f2 H3
        have H3 := H4
        clear H4
        obtain ⟨a0, a1, a2⟩ := H3.out.a.cells
        obtain ⟨b0, b1, b2⟩ := H3.out.b.cells
        simp only at a0 a1 a2 b0 b1 b2
        obtain ⟨r0, r1, r2⟩ := H3.out.r.cells
        have f0 := H3.out.r.frozen 0
        have f1 := H3.out.r.frozen 1
        have f2 := H3.out.r.frozen 2
        obtain ⟨t0, t1, t2⟩ := (H3.out.r.set3' (2) (0) (⟨#[]⟩)).cells
        have HP := Lib.hid (H3.out.put3 (.int .i64 (2)) (.int .i64 (0)) (.string (⟨#[]⟩)))
        go_wp2
        refine bodyPost_ret (v := .tuple #[.agg #[.int .i64 (2), .int .i64 (0), .string (⟨#[]⟩)], .int .i64 0]) (by simp [results, Tryz.results37, go_sem, t0, t1, t2]) rfl ⟨?_, HP.out⟩
        rw [HX.out]
        rfl
      · have H3 := Lib.hid (Three.new w ⟨ak, an, sa⟩ ⟨bk, bn, sb⟩)
        go_enter Tryz.func37, Tryz.ntmps37
        go_upto_region 1 with fail
        simp only [three_def]
        obtain ⟨g, hg⟩ : ∃ g, w.heap.size = g := ⟨_, rfl⟩
        rw [hg] at H3
        obtain ⟨w3, hw3⟩ : ∃ y, three w ⟨ak, an, sa⟩ ⟨bk, bn, sb⟩ = y := ⟨_, rfl⟩
        rw [hw3] at H3 ⊢
        simp only [hg]
        clear hw3 hg
        obtain ⟨a0, a1, a2⟩ := H3.out.a.cells
        obtain ⟨b0, b1, b2⟩ := H3.out.b.cells
        simp only at a0 a1 a2 b0 b1 b2
        obtain ⟨r0, r1, r2⟩ := H3.out.r.cells
        have f0 := H3.out.r.frozen 0
        have f1 := H3.out.r.frozen 1
        have f2 := H3.out.r.frozen 2
        go_wp2_with fail
        refine (HK.out _).mono ?_
        rintro r w5 ⟨rfl, hb5⟩
        have H4 := Lib.hid (H3.out.below hb5)
        clear hb5 a0 a1 a2 b0 b1 b2 r0 r1 r2 f0 f1 f2 H3
        have H3 := H4
        clear H4
        obtain ⟨a0, a1, a2⟩ := H3.out.a.cells
        obtain ⟨b0, b1, b2⟩ := H3.out.b.cells
        simp only at a0 a1 a2 b0 b1 b2
        obtain ⟨r0, r1, r2⟩ := H3.out.r.cells
        have f0 := H3.out.r.frozen 0
        have f1 := H3.out.r.frozen 1
        have f2 := H3.out.r.frozen 2
        go_wp2_with fail
        refine (HS.out _).mono ?_
        rintro r w5 ⟨rfl, hb5⟩
        have H4 := Lib.hid (H3.out.below hb5)
        clear hb5 a0 a1 a2 b0 b1 b2 r0 r1 r2 f0 f1 f2 H3
        have H3 := H4
        clear H4
        obtain ⟨a0, a1, a2⟩ := H3.out.a.cells
        obtain ⟨b0, b1, b2⟩ := H3.out.b.cells
        simp only at a0 a1 a2 b0 b1 b2
        obtain ⟨r0, r1, r2⟩ := H3.out.r.cells
        have f0 := H3.out.r.frozen 0
        have f1 := H3.out.r.frozen 1
        have f2 := H3.out.r.frozen 2
        go_wp2_with fail
        refine (HT1.out _).mono ?_
        rintro r w5 ⟨rfl, hb5⟩
        have H4 := Lib.hid (H3.out.below hb5)
        clear hb5 a0 a1 a2 b0 b1 b2 r0 r1 r2 f0 f1 f2 H3
        have H3 := H4
        clear H4
        obtain ⟨a0, a1, a2⟩ := H3.out.a.cells
        obtain ⟨b0, b1, b2⟩ := H3.out.b.cells
        simp only at a0 a1 a2 b0 b1 b2
        obtain ⟨r0, r1, r2⟩ := H3.out.r.cells
        have f0 := H3.out.r.frozen 0
        have f1 := H3.out.r.frozen 1
        have f2 := H3.out.r.frozen 2
        obtain ⟨t0, t1, t2⟩ := (H3.out.r.set3' (2) (1) (⟨#[]⟩)).cells
        have HP := Lib.hid (H3.out.put3 (.int .i64 (2)) (.int .i64 (1)) (.string (⟨#[]⟩)))
        go_wp2
        refine bodyPost_ret (v := .tuple #[.agg #[.int .i64 (2), .int .i64 (1), .string (⟨#[]⟩)], .int .i64 0]) (by simp [results, Tryz.results37, go_sem, t0, t1, t2]) rfl ⟨?_, HP.out⟩
        rw [HX.out]
        rfl
  · have h1 : kb ≠ 1 := fun e => h13 (.inl e)
    have h3 : kb ≠ 3 := fun e => h13 (.inr e)
    have HX : Hid (X = (V0, 40)) := Lib.hid (by rw [← hX, two_on (by decide) (kindB_nor hkb h1 h3)])
    have n1 : (kb != 1) = true := by rw [bne_iff_ne]; exact h1
    have e1 : (kb == 1) = false := by rw [beq_eq_false_iff_ne]; exact h1
    have n3 : (kb != 3) = true := by rw [bne_iff_ne]; exact h3
    have e3 : (kb == 3) = false := by rw [beq_eq_false_iff_ne]; exact h3
    clear hX hkb ha hb h13 h1 h3 hs
    have H3 := Lib.hid (Three.new w ⟨ak, an, sa⟩ ⟨bk, bn, sb⟩)
    go_enter Tryz.func37, Tryz.ntmps37
    go_upto_region 1 with fail
    simp only [three_def]
    obtain ⟨g, hg⟩ : ∃ g, w.heap.size = g := ⟨_, rfl⟩
    rw [hg] at H3
    obtain ⟨w3, hw3⟩ : ∃ y, three w ⟨ak, an, sa⟩ ⟨bk, bn, sb⟩ = y := ⟨_, rfl⟩
    rw [hw3] at H3 ⊢
    simp only [hg]
    clear hw3 hg
    obtain ⟨a0, a1, a2⟩ := H3.out.a.cells
    obtain ⟨b0, b1, b2⟩ := H3.out.b.cells
    simp only at a0 a1 a2 b0 b1 b2
    obtain ⟨r0, r1, r2⟩ := H3.out.r.cells
    have f0 := H3.out.r.frozen 0
    have f1 := H3.out.r.frozen 1
    have f2 := H3.out.r.frozen 2
    go_wp2_with fail
    refine (HK.out _).mono ?_
    rintro r w5 ⟨rfl, hb5⟩
    have H4 := Lib.hid (H3.out.below hb5)
    clear hb5 a0 a1 a2 b0 b1 b2 r0 r1 r2 f0 f1 f2 H3
    have H3 := H4
    clear H4
    obtain ⟨a0, a1, a2⟩ := H3.out.a.cells
    obtain ⟨b0, b1, b2⟩ := H3.out.b.cells
    simp only at a0 a1 a2 b0 b1 b2
    obtain ⟨r0, r1, r2⟩ := H3.out.r.cells
    have f0 := H3.out.r.frozen 0
    have f1 := H3.out.r.frozen 1
    have f2 := H3.out.r.frozen 2
    obtain ⟨t0, t1, t2⟩ := (H3.out.r.set3' (0) (0) (⟨#[]⟩)).cells
    have HP := Lib.hid (H3.out.put3 (.int .i64 (0)) (.int .i64 (0)) (.string (⟨#[]⟩)))
    go_wp2
    refine bodyPost_ret (v := .tuple #[.agg #[.int .i64 (0), .int .i64 (0), .string (⟨#[]⟩)], .int .i64 40]) (by simp [results, Tryz.results37, go_sem, t0, t1, t2]) rfl ⟨?_, HP.out⟩
    rw [HX.out]
    rfl
set_option maxRecDepth 100000 in
set_option maxHeartbeats 1000000 in
theorem g6Two12_any (a b : V) (w : World) (ha : okV a) (hb : okV b) : Calls Tryz.prog 37 #[.int .i64 12, a.val, b.val] w (RetG (twoV 12 a b) w) := by
  obtain ⟨ak, an, sa⟩ := a
  obtain ⟨bk, bn, sb⟩ := b
  have HK := Lib.hid (fun W => g6kind_any ⟨ak, an, sa⟩ ⟨bk, bn, sb⟩ W)
  have HT0 := Lib.hid (fun W => g6truth_any false W)
  have HT1 := Lib.hid (fun W => g6truth_any true W)
  simp only [V.val, truthV, mtS, Bool.false_eq_true, if_false, if_true] at HK HT0 HT1 ⊢
  obtain ⟨X, hX⟩ : ∃ X, twoV 12 ⟨ak, an, sa⟩ ⟨bk, bn, sb⟩ = X := ⟨_, rfl⟩
  rw [hX]
  obtain ⟨kb, hkb⟩ : ∃ k, kindB ⟨ak, an, sa⟩ ⟨bk, bn, sb⟩ = k := ⟨_, rfl⟩
  rw [hkb] at HK
  obtain ⟨s, hs⟩ : ∃ s, standV 12 ⟨ak, an, sa⟩ ⟨bk, bn, sb⟩ = s := ⟨_, rfl⟩
  by_cases h13 : kb = 1 ∨ kb = 3
  · have HX : Hid (X = (truthV s, 0)) := Lib.hid (by rw [← hX, two_oy (by decide) (kindB_or hkb h13), hs])
    have HS := Lib.hid (fun W => g6stands12_any ⟨ak, an, sa⟩ ⟨bk, bn, sb⟩ (by rcases kindB_or hkb h13 with h | h <;> omega) W)
    simp only [V.val] at HS
    rw [hs] at HS
    have hn : ((kb != 1) = false ∧ (kb == 1) = true) ∨ ((kb != 1) = true ∧ (kb == 1) = false ∧ (kb != 3) = false ∧ (kb == 3) = true) := by
      rcases h13 with rfl | rfl
      · exact .inl ⟨rfl, rfl⟩
      · exact .inr ⟨rfl, rfl, rfl, rfl⟩
    clear hX hkb ha hb h13 hs
    rcases hn with ⟨n1, e1⟩ | ⟨n1, e1, n3, e3⟩
    all_goals
      cases s
      · have H3 := Lib.hid (Three.new w ⟨ak, an, sa⟩ ⟨bk, bn, sb⟩)
        go_enter Tryz.func37, Tryz.ntmps37
        go_upto_region 1 with fail
        simp only [three_def]
        obtain ⟨g, hg⟩ : ∃ g, w.heap.size = g := ⟨_, rfl⟩
        rw [hg] at H3
        obtain ⟨w3, hw3⟩ : ∃ y, three w ⟨ak, an, sa⟩ ⟨bk, bn, sb⟩ = y := ⟨_, rfl⟩
        rw [hw3] at H3 ⊢
        simp only [hg]
        clear hw3 hg
        obtain ⟨a0, a1, a2⟩ := H3.out.a.cells
        obtain ⟨b0, b1, b2⟩ := H3.out.b.cells
        simp only at a0 a1 a2 b0 b1 b2
        obtain ⟨r0, r1, r2⟩ := H3.out.r.cells
        have f0 := H3.out.r.frozen 0
        have f1 := H3.out.r.frozen 1
        have f2 := H3.out.r.frozen 2
        go_wp2_with fail
        refine (HK.out _).mono ?_
        rintro r w5 ⟨rfl, hb5⟩
        have H4 := Lib.hid (H3.out.below hb5)
        clear hb5 a0 a1 a2 b0 b1 b2 r0 r1 r2 f0 f1 f2 H3
        have H3 := H4
        clear H4
        obtain ⟨a0, a1, a2⟩ := H3.out.a.cells
        obtain ⟨b0, b1, b2⟩ := H3.out.b.cells
        simp only at a0 a1 a2 b0 b1 b2
        obtain ⟨r0, r1, r2⟩ := H3.out.r.cells
        have f0 := H3.out.r.frozen 0
        have f1 := H3.out.r.frozen 1
        have f2 := H3.out.r.frozen 2
        go_wp2_with fail
        refine (HS.out _).mono ?_
        rintro r w5 ⟨rfl, hb5⟩
        have H4 := Lib.hid (H3.out.below hb5)
        clear hb5 a0 a1 a2 b0 b1 b2 r0 r1 r2 f0 f1 f2 H3
        have H3 := H4
        clear H4
        obtain ⟨a0, a1, a2⟩ := H3.out.a.cells
        obtain ⟨b0, b1, b2⟩ := H3.out.b.cells
        simp only at a0 a1 a2 b0 b1 b2
        obtain ⟨r0, r1, r2⟩ := H3.out.r.cells
        have f0 := H3.out.r.frozen 0
        have f1 := H3.out.r.frozen 1
        have f2 := H3.out.r.frozen 2
        go_wp2_with fail
        refine (HT0.out _).mono ?_
        rintro r w5 ⟨rfl, hb5⟩
        have H4 := Lib.hid (H3.out.below hb5)
        clear hb5 a0 a1 a2 b0 b1 b2 r0 r1 r2 f0 f1 f2 H3
        have H3 := H4
        clear H4
        obtain ⟨a0, a1, a2⟩ := H3.out.a.cells
        obtain ⟨b0, b1, b2⟩ := H3.out.b.cells
        simp only at a0 a1 a2 b0 b1 b2
        obtain ⟨r0, r1, r2⟩ := H3.out.r.cells
        have f0 := H3.out.r.frozen 0
        have f1 := H3.out.r.frozen 1
        have f2 := H3.out.r.frozen 2
        obtain ⟨t0, t1, t2⟩ := (H3.out.r.set3' (2) (0) (⟨#[]⟩)).cells
        have HP := Lib.hid (H3.out.put3 (.int .i64 (2)) (.int .i64 (0)) (.string (⟨#[]⟩)))
        go_wp2
        refine bodyPost_ret (v := .tuple #[.agg #[.int .i64 (2), .int .i64 (0), .string (⟨#[]⟩)], .int .i64 0]) (by simp [results, Tryz.results37, go_sem, t0, t1, t2]) rfl ⟨?_, HP.out⟩
        rw [HX.out]
        rfl
      · have H3 := Lib.hid (Three.new w ⟨ak, an, sa⟩ ⟨bk, bn, sb⟩)
        go_enter Tryz.func37, Tryz.ntmps37
        go_upto_region 1 with fail
        simp only [three_def]
        obtain ⟨g, hg⟩ : ∃ g, w.heap.size = g := ⟨_, rfl⟩
        rw [hg] at H3
        obtain ⟨w3, hw3⟩ : ∃ y, three w ⟨ak, an, sa⟩ ⟨bk, bn, sb⟩ = y := ⟨_, rfl⟩
        rw [hw3] at H3 ⊢
        simp only [hg]
        clear hw3 hg
        obtain ⟨a0, a1, a2⟩ := H3.out.a.cells
        obtain ⟨b0, b1, b2⟩ := H3.out.b.cells
        simp only at a0 a1 a2 b0 b1 b2
        obtain ⟨r0, r1, r2⟩ := H3.out.r.cells
        have f0 := H3.out.r.frozen 0
        have f1 := H3.out.r.frozen 1
        have f2 := H3.out.r.frozen 2
        go_wp2_with fail
        refine (HK.out _).mono ?_
        rintro r w5 ⟨rfl, hb5⟩
        have H4 := Lib.hid (H3.out.below hb5)
        clear hb5 a0 a1 a2 b0 b1 b2 r0 r1 r2 f0 f1 f2 H3
        have H3 := H4
        clear H4
        obtain ⟨a0, a1, a2⟩ := H3.out.a.cells
        obtain ⟨b0, b1, b2⟩ := H3.out.b.cells
        simp only at a0 a1 a2 b0 b1 b2
        obtain ⟨r0, r1, r2⟩ := H3.out.r.cells
        have f0 := H3.out.r.frozen 0
        have f1 := H3.out.r.frozen 1
        have f2 := H3.out.r.frozen 2
        go_wp2_with fail
        refine (HS.out _).mono ?_
        rintro r w5 ⟨rfl, hb5⟩
        have H4 := Lib.hid (H3.out.below hb5)
        clear hb5 a0 a1 a2 b0 b1 b2 r0 r1 r2 f0 f1 f2 H3
        have H3 := H4
        clear H4
        obtain ⟨a0, a1, a2⟩ := H3.out.a.cells
        obtain ⟨b0, b1, b2⟩ := H3.out.b.cells
        simp only at a0 a1 a2 b0 b1 b2
        obtain ⟨r0, r1, r2⟩ := H3.out.r.cells
        have f0 := H3.out.r.frozen 0
        have f1 := H3.out.r.frozen 1
        have f2 := H3.out.r.frozen 2
        go_wp2_with fail
        refine (HT1.out _).mono ?_
        rintro r w5 ⟨rfl, hb5⟩
        have H4 := Lib.hid (H3.out.below hb5)
        clear hb5 a0 a1 a2 b0 b1 b2 r0 r1 r2 f0 f1 f2 H3
        have H3 := H4
        clear H4
        obtain ⟨a0, a1, a2⟩ := H3.out.a.cells
        obtain ⟨b0, b1, b2⟩ := H3.out.b.cells
        simp only at a0 a1 a2 b0 b1 b2
        obtain ⟨r0, r1, r2⟩ := H3.out.r.cells
        have f0 := H3.out.r.frozen 0
        have f1 := H3.out.r.frozen 1
        have f2 := H3.out.r.frozen 2
        obtain ⟨t0, t1, t2⟩ := (H3.out.r.set3' (2) (1) (⟨#[]⟩)).cells
        have HP := Lib.hid (H3.out.put3 (.int .i64 (2)) (.int .i64 (1)) (.string (⟨#[]⟩)))
        go_wp2
        refine bodyPost_ret (v := .tuple #[.agg #[.int .i64 (2), .int .i64 (1), .string (⟨#[]⟩)], .int .i64 0]) (by simp [results, Tryz.results37, go_sem, t0, t1, t2]) rfl ⟨?_, HP.out⟩
        rw [HX.out]
        rfl
  · have h1 : kb ≠ 1 := fun e => h13 (.inl e)
    have h3 : kb ≠ 3 := fun e => h13 (.inr e)
    have HX : Hid (X = (V0, 40)) := Lib.hid (by rw [← hX, two_on (by decide) (kindB_nor hkb h1 h3)])
    have n1 : (kb != 1) = true := by rw [bne_iff_ne]; exact h1
    have e1 : (kb == 1) = false := by rw [beq_eq_false_iff_ne]; exact h1
    have n3 : (kb != 3) = true := by rw [bne_iff_ne]; exact h3
    have e3 : (kb == 3) = false := by rw [beq_eq_false_iff_ne]; exact h3
    clear hX hkb ha hb h13 h1 h3 hs
    have H3 := Lib.hid (Three.new w ⟨ak, an, sa⟩ ⟨bk, bn, sb⟩)
    go_enter Tryz.func37, Tryz.ntmps37
    go_upto_region 1 with fail
    simp only [three_def]
    obtain ⟨g, hg⟩ : ∃ g, w.heap.size = g := ⟨_, rfl⟩
    rw [hg] at H3
    obtain ⟨w3, hw3⟩ : ∃ y, three w ⟨ak, an, sa⟩ ⟨bk, bn, sb⟩ = y := ⟨_, rfl⟩
    rw [hw3] at H3 ⊢
    simp only [hg]
    clear hw3 hg
    obtain ⟨a0, a1, a2⟩ := H3.out.a.cells
    obtain ⟨b0, b1, b2⟩ := H3.out.b.cells
    simp only at a0 a1 a2 b0 b1 b2
    obtain ⟨r0, r1, r2⟩ := H3.out.r.cells
    have f0 := H3.out.r.frozen 0
    have f1 := H3.out.r.frozen 1
    have f2 := H3.out.r.frozen 2
    go_wp2_with fail
    refine (HK.out _).mono ?_
    rintro r w5 ⟨rfl, hb5⟩
    have H4 := Lib.hid (H3.out.below hb5)
    clear hb5 a0 a1 a2 b0 b1 b2 r0 r1 r2 f0 f1 f2 H3
    have H3 := H4
    clear H4
    obtain ⟨a0, a1, a2⟩ := H3.out.a.cells
    obtain ⟨b0, b1, b2⟩ := H3.out.b.cells
    simp only at a0 a1 a2 b0 b1 b2
    obtain ⟨r0, r1, r2⟩ := H3.out.r.cells
    have f0 := H3.out.r.frozen 0
    have f1 := H3.out.r.frozen 1
    have f2 := H3.out.r.frozen 2
    obtain ⟨t0, t1, t2⟩ := (H3.out.r.set3' (0) (0) (⟨#[]⟩)).cells
    have HP := Lib.hid (H3.out.put3 (.int .i64 (0)) (.int .i64 (0)) (.string (⟨#[]⟩)))
    go_wp2
    refine bodyPost_ret (v := .tuple #[.agg #[.int .i64 (0), .int .i64 (0), .string (⟨#[]⟩)], .int .i64 40]) (by simp [results, Tryz.results37, go_sem, t0, t1, t2]) rfl ⟨?_, HP.out⟩
    rw [HX.out]
    rfl
set_option maxRecDepth 100000 in
set_option maxHeartbeats 1000000 in
theorem g6Two13_any (a b : V) (w : World) (ha : okV a) (hb : okV b) : Calls Tryz.prog 37 #[.int .i64 13, a.val, b.val] w (RetG (twoV 13 a b) w) := by
  obtain ⟨ak, an, sa⟩ := a
  obtain ⟨bk, bn, sb⟩ := b
  have HK := Lib.hid (fun W => g6kind_any ⟨ak, an, sa⟩ ⟨bk, bn, sb⟩ W)
  have HT0 := Lib.hid (fun W => g6truth_any false W)
  have HT1 := Lib.hid (fun W => g6truth_any true W)
  simp only [V.val, truthV, mtS, Bool.false_eq_true, if_false, if_true] at HK HT0 HT1 ⊢
  obtain ⟨X, hX⟩ : ∃ X, twoV 13 ⟨ak, an, sa⟩ ⟨bk, bn, sb⟩ = X := ⟨_, rfl⟩
  rw [hX]
  obtain ⟨kb, hkb⟩ : ∃ k, kindB ⟨ak, an, sa⟩ ⟨bk, bn, sb⟩ = k := ⟨_, rfl⟩
  rw [hkb] at HK
  obtain ⟨s, hs⟩ : ∃ s, standV 13 ⟨ak, an, sa⟩ ⟨bk, bn, sb⟩ = s := ⟨_, rfl⟩
  by_cases h13 : kb = 1 ∨ kb = 3
  · have HX : Hid (X = (truthV s, 0)) := Lib.hid (by rw [← hX, two_oy (by decide) (kindB_or hkb h13), hs])
    have HS := Lib.hid (fun W => g6stands13_any ⟨ak, an, sa⟩ ⟨bk, bn, sb⟩ (by rcases kindB_or hkb h13 with h | h <;> omega) W)
    simp only [V.val] at HS
    rw [hs] at HS
    have hn : ((kb != 1) = false ∧ (kb == 1) = true) ∨ ((kb != 1) = true ∧ (kb == 1) = false ∧ (kb != 3) = false ∧ (kb == 3) = true) := by
      rcases h13 with rfl | rfl
      · exact .inl ⟨rfl, rfl⟩
      · exact .inr ⟨rfl, rfl, rfl, rfl⟩
    clear hX hkb ha hb h13 hs
    rcases hn with ⟨n1, e1⟩ | ⟨n1, e1, n3, e3⟩
    all_goals
      cases s
      · have H3 := Lib.hid (Three.new w ⟨ak, an, sa⟩ ⟨bk, bn, sb⟩)
        go_enter Tryz.func37, Tryz.ntmps37
        go_upto_region 1 with fail
        simp only [three_def]
        obtain ⟨g, hg⟩ : ∃ g, w.heap.size = g := ⟨_, rfl⟩
        rw [hg] at H3
        obtain ⟨w3, hw3⟩ : ∃ y, three w ⟨ak, an, sa⟩ ⟨bk, bn, sb⟩ = y := ⟨_, rfl⟩
        rw [hw3] at H3 ⊢
        simp only [hg]
        clear hw3 hg
        obtain ⟨a0, a1, a2⟩ := H3.out.a.cells
        obtain ⟨b0, b1, b2⟩ := H3.out.b.cells
        simp only at a0 a1 a2 b0 b1 b2
        obtain ⟨r0, r1, r2⟩ := H3.out.r.cells
        have f0 := H3.out.r.frozen 0
        have f1 := H3.out.r.frozen 1
        have f2 := H3.out.r.frozen 2
        go_wp2_with fail
        refine (HK.out _).mono ?_
        rintro r w5 ⟨rfl, hb5⟩
        have H4 := Lib.hid (H3.out.below hb5)
        clear hb5 a0 a1 a2 b0 b1 b2 r0 r1 r2 f0 f1 f2 H3
        have H3 := H4
        clear H4
        obtain ⟨a0, a1, a2⟩ := H3.out.a.cells
        obtain ⟨b0, b1, b2⟩ := H3.out.b.cells
        simp only at a0 a1 a2 b0 b1 b2
        obtain ⟨r0, r1, r2⟩ := H3.out.r.cells
        have f0 := H3.out.r.frozen 0
        have f1 := H3.out.r.frozen 1
        have f2 := H3.out.r.frozen 2
        go_wp2_with fail
        refine (HS.out _).mono ?_
        rintro r w5 ⟨rfl, hb5⟩
        have H4 := Lib.hid (H3.out.below hb5)
        clear hb5 a0 a1 a2 b0 b1 b2 r0 r1 r2 f0 f1 f2 H3
        have H3 := H4
        clear H4
        obtain ⟨a0, a1, a2⟩ := H3.out.a.cells
        obtain ⟨b0, b1, b2⟩ := H3.out.b.cells
        simp only at a0 a1 a2 b0 b1 b2
        obtain ⟨r0, r1, r2⟩ := H3.out.r.cells
        have f0 := H3.out.r.frozen 0
        have f1 := H3.out.r.frozen 1
        have f2 := H3.out.r.frozen 2
        go_wp2_with fail
        refine (HT0.out _).mono ?_
        rintro r w5 ⟨rfl, hb5⟩
        have H4 := Lib.hid (H3.out.below hb5)
        clear hb5 a0 a1 a2 b0 b1 b2 r0 r1 r2 f0 f1 f2 H3
        have H3 := H4
        clear H4
        obtain ⟨a0, a1, a2⟩ := H3.out.a.cells
        obtain ⟨b0, b1, b2⟩ := H3.out.b.cells
        simp only at a0 a1 a2 b0 b1 b2
        obtain ⟨r0, r1, r2⟩ := H3.out.r.cells
        have f0 := H3.out.r.frozen 0
        have f1 := H3.out.r.frozen 1
        have f2 := H3.out.r.frozen 2
        obtain ⟨t0, t1, t2⟩ := (H3.out.r.set3' (2) (0) (⟨#[]⟩)).cells
        have HP := Lib.hid (H3.out.put3 (.int .i64 (2)) (.int .i64 (0)) (.string (⟨#[]⟩)))
        go_wp2
        refine bodyPost_ret (v := .tuple #[.agg #[.int .i64 (2), .int .i64 (0), .string (⟨#[]⟩)], .int .i64 0]) (by simp [results, Tryz.results37, go_sem, t0, t1, t2]) rfl ⟨?_, HP.out⟩
        rw [HX.out]
        rfl
      · have H3 := Lib.hid (Three.new w ⟨ak, an, sa⟩ ⟨bk, bn, sb⟩)
        go_enter Tryz.func37, Tryz.ntmps37
        go_upto_region 1 with fail
        simp only [three_def]
        obtain ⟨g, hg⟩ : ∃ g, w.heap.size = g := ⟨_, rfl⟩
        rw [hg] at H3
        obtain ⟨w3, hw3⟩ : ∃ y, three w ⟨ak, an, sa⟩ ⟨bk, bn, sb⟩ = y := ⟨_, rfl⟩
        rw [hw3] at H3 ⊢
        simp only [hg]
        clear hw3 hg
        obtain ⟨a0, a1, a2⟩ := H3.out.a.cells
        obtain ⟨b0, b1, b2⟩ := H3.out.b.cells
        simp only at a0 a1 a2 b0 b1 b2
        obtain ⟨r0, r1, r2⟩ := H3.out.r.cells
        have f0 := H3.out.r.frozen 0
        have f1 := H3.out.r.frozen 1
        have f2 := H3.out.r.frozen 2
        go_wp2_with fail
        refine (HK.out _).mono ?_
        rintro r w5 ⟨rfl, hb5⟩
        have H4 := Lib.hid (H3.out.below hb5)
        clear hb5 a0 a1 a2 b0 b1 b2 r0 r1 r2 f0 f1 f2 H3
        have H3 := H4
        clear H4
        obtain ⟨a0, a1, a2⟩ := H3.out.a.cells
        obtain ⟨b0, b1, b2⟩ := H3.out.b.cells
        simp only at a0 a1 a2 b0 b1 b2
        obtain ⟨r0, r1, r2⟩ := H3.out.r.cells
        have f0 := H3.out.r.frozen 0
        have f1 := H3.out.r.frozen 1
        have f2 := H3.out.r.frozen 2
        go_wp2_with fail
        refine (HS.out _).mono ?_
        rintro r w5 ⟨rfl, hb5⟩
        have H4 := Lib.hid (H3.out.below hb5)
        clear hb5 a0 a1 a2 b0 b1 b2 r0 r1 r2 f0 f1 f2 H3
        have H3 := H4
        clear H4
        obtain ⟨a0, a1, a2⟩ := H3.out.a.cells
        obtain ⟨b0, b1, b2⟩ := H3.out.b.cells
        simp only at a0 a1 a2 b0 b1 b2
        obtain ⟨r0, r1, r2⟩ := H3.out.r.cells
        have f0 := H3.out.r.frozen 0
        have f1 := H3.out.r.frozen 1
        have f2 := H3.out.r.frozen 2
        go_wp2_with fail
        refine (HT1.out _).mono ?_
        rintro r w5 ⟨rfl, hb5⟩
        have H4 := Lib.hid (H3.out.below hb5)
        clear hb5 a0 a1 a2 b0 b1 b2 r0 r1 r2 f0 f1 f2 H3
        have H3 := H4
        clear H4
        obtain ⟨a0, a1, a2⟩ := H3.out.a.cells
        obtain ⟨b0, b1, b2⟩ := H3.out.b.cells
        simp only at a0 a1 a2 b0 b1 b2
        obtain ⟨r0, r1, r2⟩ := H3.out.r.cells
        have f0 := H3.out.r.frozen 0
        have f1 := H3.out.r.frozen 1
        have f2 := H3.out.r.frozen 2
        obtain ⟨t0, t1, t2⟩ := (H3.out.r.set3' (2) (1) (⟨#[]⟩)).cells
        have HP := Lib.hid (H3.out.put3 (.int .i64 (2)) (.int .i64 (1)) (.string (⟨#[]⟩)))
        go_wp2
        refine bodyPost_ret (v := .tuple #[.agg #[.int .i64 (2), .int .i64 (1), .string (⟨#[]⟩)], .int .i64 0]) (by simp [results, Tryz.results37, go_sem, t0, t1, t2]) rfl ⟨?_, HP.out⟩
        rw [HX.out]
        rfl
  · have h1 : kb ≠ 1 := fun e => h13 (.inl e)
    have h3 : kb ≠ 3 := fun e => h13 (.inr e)
    have HX : Hid (X = (V0, 40)) := Lib.hid (by rw [← hX, two_on (by decide) (kindB_nor hkb h1 h3)])
    have n1 : (kb != 1) = true := by rw [bne_iff_ne]; exact h1
    have e1 : (kb == 1) = false := by rw [beq_eq_false_iff_ne]; exact h1
    have n3 : (kb != 3) = true := by rw [bne_iff_ne]; exact h3
    have e3 : (kb == 3) = false := by rw [beq_eq_false_iff_ne]; exact h3
    clear hX hkb ha hb h13 h1 h3 hs
    have H3 := Lib.hid (Three.new w ⟨ak, an, sa⟩ ⟨bk, bn, sb⟩)
    go_enter Tryz.func37, Tryz.ntmps37
    go_upto_region 1 with fail
    simp only [three_def]
    obtain ⟨g, hg⟩ : ∃ g, w.heap.size = g := ⟨_, rfl⟩
    rw [hg] at H3
    obtain ⟨w3, hw3⟩ : ∃ y, three w ⟨ak, an, sa⟩ ⟨bk, bn, sb⟩ = y := ⟨_, rfl⟩
    rw [hw3] at H3 ⊢
    simp only [hg]
    clear hw3 hg
    obtain ⟨a0, a1, a2⟩ := H3.out.a.cells
    obtain ⟨b0, b1, b2⟩ := H3.out.b.cells
    simp only at a0 a1 a2 b0 b1 b2
    obtain ⟨r0, r1, r2⟩ := H3.out.r.cells
    have f0 := H3.out.r.frozen 0
    have f1 := H3.out.r.frozen 1
    have f2 := H3.out.r.frozen 2
    go_wp2_with fail
    refine (HK.out _).mono ?_
    rintro r w5 ⟨rfl, hb5⟩
    have H4 := Lib.hid (H3.out.below hb5)
    clear hb5 a0 a1 a2 b0 b1 b2 r0 r1 r2 f0 f1 f2 H3
    have H3 := H4
    clear H4
    obtain ⟨a0, a1, a2⟩ := H3.out.a.cells
    obtain ⟨b0, b1, b2⟩ := H3.out.b.cells
    simp only at a0 a1 a2 b0 b1 b2
    obtain ⟨r0, r1, r2⟩ := H3.out.r.cells
    have f0 := H3.out.r.frozen 0
    have f1 := H3.out.r.frozen 1
    have f2 := H3.out.r.frozen 2
    obtain ⟨t0, t1, t2⟩ := (H3.out.r.set3' (0) (0) (⟨#[]⟩)).cells
    have HP := Lib.hid (H3.out.put3 (.int .i64 (0)) (.int .i64 (0)) (.string (⟨#[]⟩)))
    go_wp2
    refine bodyPost_ret (v := .tuple #[.agg #[.int .i64 (0), .int .i64 (0), .string (⟨#[]⟩)], .int .i64 40]) (by simp [results, Tryz.results37, go_sem, t0, t1, t2]) rfl ⟨?_, HP.out⟩
    rw [HX.out]
    rfl
set_option maxRecDepth 100000 in
set_option maxHeartbeats 1000000 in
theorem g6Two14_any (a b : V) (w : World) (ha : okV a) (hb : okV b) : Calls Tryz.prog 37 #[.int .i64 14, a.val, b.val] w (RetG (twoV 14 a b) w) := by
  obtain ⟨ak, an, sa⟩ := a
  obtain ⟨bk, bn, sb⟩ := b
  have HK := Lib.hid (fun W => g6kind_any ⟨ak, an, sa⟩ ⟨bk, bn, sb⟩ W)
  have HT0 := Lib.hid (fun W => g6truth_any false W)
  have HT1 := Lib.hid (fun W => g6truth_any true W)
  simp only [V.val, truthV, mtS, Bool.false_eq_true, if_false, if_true] at HK HT0 HT1 ⊢
  obtain ⟨X, hX⟩ : ∃ X, twoV 14 ⟨ak, an, sa⟩ ⟨bk, bn, sb⟩ = X := ⟨_, rfl⟩
  rw [hX]
  obtain ⟨kb, hkb⟩ : ∃ k, kindB ⟨ak, an, sa⟩ ⟨bk, bn, sb⟩ = k := ⟨_, rfl⟩
  rw [hkb] at HK
  obtain ⟨s, hs⟩ : ∃ s, standV 14 ⟨ak, an, sa⟩ ⟨bk, bn, sb⟩ = s := ⟨_, rfl⟩
  by_cases h13 : kb = 1 ∨ kb = 3
  · have HX : Hid (X = (truthV s, 0)) := Lib.hid (by rw [← hX, two_oy (by decide) (kindB_or hkb h13), hs])
    have HS := Lib.hid (fun W => g6stands14_any ⟨ak, an, sa⟩ ⟨bk, bn, sb⟩ W)
    simp only [V.val] at HS
    rw [hs] at HS
    have hn : ((kb != 1) = false ∧ (kb == 1) = true) ∨ ((kb != 1) = true ∧ (kb == 1) = false ∧ (kb != 3) = false ∧ (kb == 3) = true) := by
      rcases h13 with rfl | rfl
      · exact .inl ⟨rfl, rfl⟩
      · exact .inr ⟨rfl, rfl, rfl, rfl⟩
    clear hX hkb ha hb h13 hs
    rcases hn with ⟨n1, e1⟩ | ⟨n1, e1, n3, e3⟩
    all_goals
      cases s
      · have H3 := Lib.hid (Three.new w ⟨ak, an, sa⟩ ⟨bk, bn, sb⟩)
        go_enter Tryz.func37, Tryz.ntmps37
        go_upto_region 1 with fail
        simp only [three_def]
        obtain ⟨g, hg⟩ : ∃ g, w.heap.size = g := ⟨_, rfl⟩
        rw [hg] at H3
        obtain ⟨w3, hw3⟩ : ∃ y, three w ⟨ak, an, sa⟩ ⟨bk, bn, sb⟩ = y := ⟨_, rfl⟩
        rw [hw3] at H3 ⊢
        simp only [hg]
        clear hw3 hg
        obtain ⟨a0, a1, a2⟩ := H3.out.a.cells
        obtain ⟨b0, b1, b2⟩ := H3.out.b.cells
        simp only at a0 a1 a2 b0 b1 b2
        obtain ⟨r0, r1, r2⟩ := H3.out.r.cells
        have f0 := H3.out.r.frozen 0
        have f1 := H3.out.r.frozen 1
        have f2 := H3.out.r.frozen 2
        go_wp2_with fail
        refine (HK.out _).mono ?_
        rintro r w5 ⟨rfl, hb5⟩
        have H4 := Lib.hid (H3.out.below hb5)
        clear hb5 a0 a1 a2 b0 b1 b2 r0 r1 r2 f0 f1 f2 H3
        have H3 := H4
        clear H4
        obtain ⟨a0, a1, a2⟩ := H3.out.a.cells
        obtain ⟨b0, b1, b2⟩ := H3.out.b.cells
        simp only at a0 a1 a2 b0 b1 b2
        obtain ⟨r0, r1, r2⟩ := H3.out.r.cells
        have f0 := H3.out.r.frozen 0
        have f1 := H3.out.r.frozen 1
        have f2 := H3.out.r.frozen 2
        go_wp2_with fail
        refine (HS.out _).mono ?_
        rintro r w5 ⟨rfl, hb5⟩
        have H4 := Lib.hid (H3.out.below hb5)
        clear hb5 a0 a1 a2 b0 b1 b2 r0 r1 r2 f0 f1 f2 H3
        have H3 := H4
        clear H4
        obtain ⟨a0, a1, a2⟩ := H3.out.a.cells
        obtain ⟨b0, b1, b2⟩ := H3.out.b.cells
        simp only at a0 a1 a2 b0 b1 b2
        obtain ⟨r0, r1, r2⟩ := H3.out.r.cells
        have f0 := H3.out.r.frozen 0
        have f1 := H3.out.r.frozen 1
        have f2 := H3.out.r.frozen 2
        go_wp2_with fail
        refine (HT0.out _).mono ?_
        rintro r w5 ⟨rfl, hb5⟩
        have H4 := Lib.hid (H3.out.below hb5)
        clear hb5 a0 a1 a2 b0 b1 b2 r0 r1 r2 f0 f1 f2 H3
        have H3 := H4
        clear H4
        obtain ⟨a0, a1, a2⟩ := H3.out.a.cells
        obtain ⟨b0, b1, b2⟩ := H3.out.b.cells
        simp only at a0 a1 a2 b0 b1 b2
        obtain ⟨r0, r1, r2⟩ := H3.out.r.cells
        have f0 := H3.out.r.frozen 0
        have f1 := H3.out.r.frozen 1
        have f2 := H3.out.r.frozen 2
        obtain ⟨t0, t1, t2⟩ := (H3.out.r.set3' (2) (0) (⟨#[]⟩)).cells
        have HP := Lib.hid (H3.out.put3 (.int .i64 (2)) (.int .i64 (0)) (.string (⟨#[]⟩)))
        go_wp2
        refine bodyPost_ret (v := .tuple #[.agg #[.int .i64 (2), .int .i64 (0), .string (⟨#[]⟩)], .int .i64 0]) (by simp [results, Tryz.results37, go_sem, t0, t1, t2]) rfl ⟨?_, HP.out⟩
        rw [HX.out]
        rfl
      · have H3 := Lib.hid (Three.new w ⟨ak, an, sa⟩ ⟨bk, bn, sb⟩)
        go_enter Tryz.func37, Tryz.ntmps37
        go_upto_region 1 with fail
        simp only [three_def]
        obtain ⟨g, hg⟩ : ∃ g, w.heap.size = g := ⟨_, rfl⟩
        rw [hg] at H3
        obtain ⟨w3, hw3⟩ : ∃ y, three w ⟨ak, an, sa⟩ ⟨bk, bn, sb⟩ = y := ⟨_, rfl⟩
        rw [hw3] at H3 ⊢
        simp only [hg]
        clear hw3 hg
        obtain ⟨a0, a1, a2⟩ := H3.out.a.cells
        obtain ⟨b0, b1, b2⟩ := H3.out.b.cells
        simp only at a0 a1 a2 b0 b1 b2
        obtain ⟨r0, r1, r2⟩ := H3.out.r.cells
        have f0 := H3.out.r.frozen 0
        have f1 := H3.out.r.frozen 1
        have f2 := H3.out.r.frozen 2
        go_wp2_with fail
        refine (HK.out _).mono ?_
        rintro r w5 ⟨rfl, hb5⟩
        have H4 := Lib.hid (H3.out.below hb5)
        clear hb5 a0 a1 a2 b0 b1 b2 r0 r1 r2 f0 f1 f2 H3
        have H3 := H4
        clear H4
        obtain ⟨a0, a1, a2⟩ := H3.out.a.cells
        obtain ⟨b0, b1, b2⟩ := H3.out.b.cells
        simp only at a0 a1 a2 b0 b1 b2
        obtain ⟨r0, r1, r2⟩ := H3.out.r.cells
        have f0 := H3.out.r.frozen 0
        have f1 := H3.out.r.frozen 1
        have f2 := H3.out.r.frozen 2
        go_wp2_with fail
        refine (HS.out _).mono ?_
        rintro r w5 ⟨rfl, hb5⟩
        have H4 := Lib.hid (H3.out.below hb5)
        clear hb5 a0 a1 a2 b0 b1 b2 r0 r1 r2 f0 f1 f2 H3
        have H3 := H4
        clear H4
        obtain ⟨a0, a1, a2⟩ := H3.out.a.cells
        obtain ⟨b0, b1, b2⟩ := H3.out.b.cells
        simp only at a0 a1 a2 b0 b1 b2
        obtain ⟨r0, r1, r2⟩ := H3.out.r.cells
        have f0 := H3.out.r.frozen 0
        have f1 := H3.out.r.frozen 1
        have f2 := H3.out.r.frozen 2
        go_wp2_with fail
        refine (HT1.out _).mono ?_
        rintro r w5 ⟨rfl, hb5⟩
        have H4 := Lib.hid (H3.out.below hb5)
        clear hb5 a0 a1 a2 b0 b1 b2 r0 r1 r2 f0 f1 f2 H3
        have H3 := H4
        clear H4
        obtain ⟨a0, a1, a2⟩ := H3.out.a.cells
        obtain ⟨b0, b1, b2⟩ := H3.out.b.cells
        simp only at a0 a1 a2 b0 b1 b2
        obtain ⟨r0, r1, r2⟩ := H3.out.r.cells
        have f0 := H3.out.r.frozen 0
        have f1 := H3.out.r.frozen 1
        have f2 := H3.out.r.frozen 2
        obtain ⟨t0, t1, t2⟩ := (H3.out.r.set3' (2) (1) (⟨#[]⟩)).cells
        have HP := Lib.hid (H3.out.put3 (.int .i64 (2)) (.int .i64 (1)) (.string (⟨#[]⟩)))
        go_wp2
        refine bodyPost_ret (v := .tuple #[.agg #[.int .i64 (2), .int .i64 (1), .string (⟨#[]⟩)], .int .i64 0]) (by simp [results, Tryz.results37, go_sem, t0, t1, t2]) rfl ⟨?_, HP.out⟩
        rw [HX.out]
        rfl
  · have h1 : kb ≠ 1 := fun e => h13 (.inl e)
    have h3 : kb ≠ 3 := fun e => h13 (.inr e)
    have HX : Hid (X = (V0, 40)) := Lib.hid (by rw [← hX, two_on (by decide) (kindB_nor hkb h1 h3)])
    have n1 : (kb != 1) = true := by rw [bne_iff_ne]; exact h1
    have e1 : (kb == 1) = false := by rw [beq_eq_false_iff_ne]; exact h1
    have n3 : (kb != 3) = true := by rw [bne_iff_ne]; exact h3
    have e3 : (kb == 3) = false := by rw [beq_eq_false_iff_ne]; exact h3
    clear hX hkb ha hb h13 h1 h3 hs
    have H3 := Lib.hid (Three.new w ⟨ak, an, sa⟩ ⟨bk, bn, sb⟩)
    go_enter Tryz.func37, Tryz.ntmps37
    go_upto_region 1 with fail
    simp only [three_def]
    obtain ⟨g, hg⟩ : ∃ g, w.heap.size = g := ⟨_, rfl⟩
    rw [hg] at H3
    obtain ⟨w3, hw3⟩ : ∃ y, three w ⟨ak, an, sa⟩ ⟨bk, bn, sb⟩ = y := ⟨_, rfl⟩
    rw [hw3] at H3 ⊢
    simp only [hg]
    clear hw3 hg
    obtain ⟨a0, a1, a2⟩ := H3.out.a.cells
    obtain ⟨b0, b1, b2⟩ := H3.out.b.cells
    simp only at a0 a1 a2 b0 b1 b2
    obtain ⟨r0, r1, r2⟩ := H3.out.r.cells
    have f0 := H3.out.r.frozen 0
    have f1 := H3.out.r.frozen 1
    have f2 := H3.out.r.frozen 2
    go_wp2_with fail
    refine (HK.out _).mono ?_
    rintro r w5 ⟨rfl, hb5⟩
    have H4 := Lib.hid (H3.out.below hb5)
    clear hb5 a0 a1 a2 b0 b1 b2 r0 r1 r2 f0 f1 f2 H3
    have H3 := H4
    clear H4
    obtain ⟨a0, a1, a2⟩ := H3.out.a.cells
    obtain ⟨b0, b1, b2⟩ := H3.out.b.cells
    simp only at a0 a1 a2 b0 b1 b2
    obtain ⟨r0, r1, r2⟩ := H3.out.r.cells
    have f0 := H3.out.r.frozen 0
    have f1 := H3.out.r.frozen 1
    have f2 := H3.out.r.frozen 2
    obtain ⟨t0, t1, t2⟩ := (H3.out.r.set3' (0) (0) (⟨#[]⟩)).cells
    have HP := Lib.hid (H3.out.put3 (.int .i64 (0)) (.int .i64 (0)) (.string (⟨#[]⟩)))
    go_wp2
    refine bodyPost_ret (v := .tuple #[.agg #[.int .i64 (0), .int .i64 (0), .string (⟨#[]⟩)], .int .i64 40]) (by simp [results, Tryz.results37, go_sem, t0, t1, t2]) rfl ⟨?_, HP.out⟩
    rw [HX.out]
    rfl
set_option maxRecDepth 100000 in
set_option maxHeartbeats 1000000 in
theorem g6Two6_any (a b : V) (w : World) (ha : okV a) (hb : okV b) : Calls Tryz.prog 37 #[.int .i64 6, a.val, b.val] w (RetG (twoV 6 a b) w) := by
  obtain ⟨ak, an, sa⟩ := a
  obtain ⟨bk, bn, sb⟩ := b
  have HK := Lib.hid (fun W => g6kind_any ⟨ak, an, sa⟩ ⟨bk, bn, sb⟩ W)
  have HT0 := Lib.hid (fun W => g6truth_any false W)
  have HT1 := Lib.hid (fun W => g6truth_any true W)
  simp only [V.val, truthV, mtS, Bool.false_eq_true, if_false, if_true] at HK HT0 HT1 ⊢
  obtain ⟨X, hX⟩ : ∃ X, twoV 6 ⟨ak, an, sa⟩ ⟨bk, bn, sb⟩ = X := ⟨_, rfl⟩
  rw [hX]
  obtain ⟨kb, hkb⟩ : ∃ k, kindB ⟨ak, an, sa⟩ ⟨bk, bn, sb⟩ = k := ⟨_, rfl⟩
  rw [hkb] at HK
  obtain ⟨N, hN⟩ : ∃ N, numsV 6 an bn = N := ⟨_, rfl⟩
  have hC := fun W => g6nums6_any an bn ha.1 hb.1 W
  rw [hN] at hC
  obtain ⟨⟨xk, xn, xs⟩, xc⟩ := N
  have HC : Hid (∀ W, Calls Tryz.prog 66 #[.int .i64 6, .int .i64 an, .int .i64 bn] W fun r w' => r = .returned (.tuple #[.agg #[.int .i64 xk, .int .i64 xn, .string xs], .int .i64 xc]) ∧ Below W.heap.size W w') := Lib.hid (fun W => hC W)
  by_cases h1 : kb = 1
  · have HX : Hid (X = (⟨xk, xn, xs⟩, xc)) := Lib.hid (by rw [← hX, two_ny (by decide) (kindB_yes hkb h1 (by decide)), hN])
    have n1 : (kb != 1) = false := by rw [bne_eq_false_iff_eq]; exact h1
    have e1 : (kb == 1) = true := by rw [beq_iff_eq]; exact h1
    have n3 : (kb != 3) = true := by rw [bne_iff_ne]; omega
    have e3 : (kb == 3) = false := by rw [beq_eq_false_iff_ne]; omega
    clear hX hkb ha hb h1 hN hC
    have H3 := Lib.hid (Three.new w ⟨ak, an, sa⟩ ⟨bk, bn, sb⟩)
    go_enter Tryz.func37, Tryz.ntmps37
    go_upto_region 1 with fail
    simp only [three_def]
    obtain ⟨g, hg⟩ : ∃ g, w.heap.size = g := ⟨_, rfl⟩
    rw [hg] at H3
    obtain ⟨w3, hw3⟩ : ∃ y, three w ⟨ak, an, sa⟩ ⟨bk, bn, sb⟩ = y := ⟨_, rfl⟩
    rw [hw3] at H3 ⊢
    simp only [hg]
    clear hw3 hg
    obtain ⟨a0, a1, a2⟩ := H3.out.a.cells
    obtain ⟨b0, b1, b2⟩ := H3.out.b.cells
    simp only at a0 a1 a2 b0 b1 b2
    obtain ⟨r0, r1, r2⟩ := H3.out.r.cells
    have f0 := H3.out.r.frozen 0
    have f1 := H3.out.r.frozen 1
    have f2 := H3.out.r.frozen 2
    go_wp2_with fail
    refine (HK.out _).mono ?_
    rintro r w5 ⟨rfl, hb5⟩
    have H4 := Lib.hid (H3.out.below hb5)
    clear hb5 a0 a1 a2 b0 b1 b2 r0 r1 r2 f0 f1 f2 H3
    have H3 := H4
    clear H4
    obtain ⟨a0, a1, a2⟩ := H3.out.a.cells
    obtain ⟨b0, b1, b2⟩ := H3.out.b.cells
    simp only at a0 a1 a2 b0 b1 b2
    obtain ⟨r0, r1, r2⟩ := H3.out.r.cells
    have f0 := H3.out.r.frozen 0
    have f1 := H3.out.r.frozen 1
    have f2 := H3.out.r.frozen 2
    go_wp2_with fail
    refine (HC.out _).mono ?_
    rintro r w5 ⟨rfl, hb5⟩
    have H4 := Lib.hid (H3.out.below hb5)
    clear hb5 a0 a1 a2 b0 b1 b2 r0 r1 r2 f0 f1 f2 H3
    have H3 := H4
    clear H4
    obtain ⟨a0, a1, a2⟩ := H3.out.a.cells
    obtain ⟨b0, b1, b2⟩ := H3.out.b.cells
    simp only at a0 a1 a2 b0 b1 b2
    obtain ⟨r0, r1, r2⟩ := H3.out.r.cells
    have f0 := H3.out.r.frozen 0
    have f1 := H3.out.r.frozen 1
    have f2 := H3.out.r.frozen 2
    obtain ⟨t0, t1, t2⟩ := (H3.out.r.set3' (xk) (xn) (xs)).cells
    have HP := Lib.hid (H3.out.put3 (.int .i64 (xk)) (.int .i64 (xn)) (.string (xs)))
    go_wp2
    refine bodyPost_ret (v := .tuple #[.agg #[.int .i64 (xk), .int .i64 (xn), .string (xs)], .int .i64 xc]) (by simp [results, Tryz.results37, go_sem, t0, t1, t2]) rfl ⟨?_, HP.out⟩
    rw [HX.out]
    rfl
  · have HX : Hid (X = (V0, 40)) := Lib.hid (by rw [← hX, two_nn (by decide) (kindB_no hkb h1 (by decide))])
    have n1 : (kb != 1) = true := by rw [bne_iff_ne]; exact h1
    have e1 : (kb == 1) = false := by rw [beq_eq_false_iff_ne]; exact h1
    have n3 : (kb != 3) = true ∨ (kb != 3) = false := by cases (kb != 3); exact .inr rfl; exact .inl rfl
    clear hX hkb ha hb h1 hN hC
    rcases n3 with n3 | n3
    · have H3 := Lib.hid (Three.new w ⟨ak, an, sa⟩ ⟨bk, bn, sb⟩)
      go_enter Tryz.func37, Tryz.ntmps37
      go_upto_region 1 with fail
      simp only [three_def]
      obtain ⟨g, hg⟩ : ∃ g, w.heap.size = g := ⟨_, rfl⟩
      rw [hg] at H3
      obtain ⟨w3, hw3⟩ : ∃ y, three w ⟨ak, an, sa⟩ ⟨bk, bn, sb⟩ = y := ⟨_, rfl⟩
      rw [hw3] at H3 ⊢
      simp only [hg]
      clear hw3 hg
      obtain ⟨a0, a1, a2⟩ := H3.out.a.cells
      obtain ⟨b0, b1, b2⟩ := H3.out.b.cells
      simp only at a0 a1 a2 b0 b1 b2
      obtain ⟨r0, r1, r2⟩ := H3.out.r.cells
      have f0 := H3.out.r.frozen 0
      have f1 := H3.out.r.frozen 1
      have f2 := H3.out.r.frozen 2
      go_wp2_with fail
      refine (HK.out _).mono ?_
      rintro r w5 ⟨rfl, hb5⟩
      have H4 := Lib.hid (H3.out.below hb5)
      clear hb5 a0 a1 a2 b0 b1 b2 r0 r1 r2 f0 f1 f2 H3
      have H3 := H4
      clear H4
      obtain ⟨a0, a1, a2⟩ := H3.out.a.cells
      obtain ⟨b0, b1, b2⟩ := H3.out.b.cells
      simp only at a0 a1 a2 b0 b1 b2
      obtain ⟨r0, r1, r2⟩ := H3.out.r.cells
      have f0 := H3.out.r.frozen 0
      have f1 := H3.out.r.frozen 1
      have f2 := H3.out.r.frozen 2
      obtain ⟨t0, t1, t2⟩ := (H3.out.r.set3' (0) (0) (⟨#[]⟩)).cells
      have HP := Lib.hid (H3.out.put3 (.int .i64 (0)) (.int .i64 (0)) (.string (⟨#[]⟩)))
      go_wp2
      refine bodyPost_ret (v := .tuple #[.agg #[.int .i64 (0), .int .i64 (0), .string (⟨#[]⟩)], .int .i64 40]) (by simp [results, Tryz.results37, go_sem, t0, t1, t2]) rfl ⟨?_, HP.out⟩
      rw [HX.out]
      rfl
    · have H3 := Lib.hid (Three.new w ⟨ak, an, sa⟩ ⟨bk, bn, sb⟩)
      go_enter Tryz.func37, Tryz.ntmps37
      go_upto_region 1 with fail
      simp only [three_def]
      obtain ⟨g, hg⟩ : ∃ g, w.heap.size = g := ⟨_, rfl⟩
      rw [hg] at H3
      obtain ⟨w3, hw3⟩ : ∃ y, three w ⟨ak, an, sa⟩ ⟨bk, bn, sb⟩ = y := ⟨_, rfl⟩
      rw [hw3] at H3 ⊢
      simp only [hg]
      clear hw3 hg
      obtain ⟨a0, a1, a2⟩ := H3.out.a.cells
      obtain ⟨b0, b1, b2⟩ := H3.out.b.cells
      simp only at a0 a1 a2 b0 b1 b2
      obtain ⟨r0, r1, r2⟩ := H3.out.r.cells
      have f0 := H3.out.r.frozen 0
      have f1 := H3.out.r.frozen 1
      have f2 := H3.out.r.frozen 2
      go_wp2_with fail
      refine (HK.out _).mono ?_
      rintro r w5 ⟨rfl, hb5⟩
      have H4 := Lib.hid (H3.out.below hb5)
      clear hb5 a0 a1 a2 b0 b1 b2 r0 r1 r2 f0 f1 f2 H3
      have H3 := H4
      clear H4
      obtain ⟨a0, a1, a2⟩ := H3.out.a.cells
      obtain ⟨b0, b1, b2⟩ := H3.out.b.cells
      simp only at a0 a1 a2 b0 b1 b2
      obtain ⟨r0, r1, r2⟩ := H3.out.r.cells
      have f0 := H3.out.r.frozen 0
      have f1 := H3.out.r.frozen 1
      have f2 := H3.out.r.frozen 2
      obtain ⟨t0, t1, t2⟩ := (H3.out.r.set3' (0) (0) (⟨#[]⟩)).cells
      have HP := Lib.hid (H3.out.put3 (.int .i64 (0)) (.int .i64 (0)) (.string (⟨#[]⟩)))
      go_wp2
      refine bodyPost_ret (v := .tuple #[.agg #[.int .i64 (0), .int .i64 (0), .string (⟨#[]⟩)], .int .i64 40]) (by simp [results, Tryz.results37, go_sem, t0, t1, t2]) rfl ⟨?_, HP.out⟩
      rw [HX.out]
      rfl
set_option maxRecDepth 100000 in
set_option maxHeartbeats 1000000 in
theorem g6Two7_any (a b : V) (w : World) (ha : okV a) (hb : okV b) : Calls Tryz.prog 37 #[.int .i64 7, a.val, b.val] w (RetG (twoV 7 a b) w) := by
  obtain ⟨ak, an, sa⟩ := a
  obtain ⟨bk, bn, sb⟩ := b
  have HK := Lib.hid (fun W => g6kind_any ⟨ak, an, sa⟩ ⟨bk, bn, sb⟩ W)
  have HT0 := Lib.hid (fun W => g6truth_any false W)
  have HT1 := Lib.hid (fun W => g6truth_any true W)
  simp only [V.val, truthV, mtS, Bool.false_eq_true, if_false, if_true] at HK HT0 HT1 ⊢
  obtain ⟨X, hX⟩ : ∃ X, twoV 7 ⟨ak, an, sa⟩ ⟨bk, bn, sb⟩ = X := ⟨_, rfl⟩
  rw [hX]
  obtain ⟨kb, hkb⟩ : ∃ k, kindB ⟨ak, an, sa⟩ ⟨bk, bn, sb⟩ = k := ⟨_, rfl⟩
  rw [hkb] at HK
  obtain ⟨N, hN⟩ : ∃ N, numsV 7 an bn = N := ⟨_, rfl⟩
  have hC := fun W => g6nums7_any an bn ha.1 hb.1 W
  rw [hN] at hC
  obtain ⟨⟨xk, xn, xs⟩, xc⟩ := N
  have HC : Hid (∀ W, Calls Tryz.prog 66 #[.int .i64 7, .int .i64 an, .int .i64 bn] W fun r w' => r = .returned (.tuple #[.agg #[.int .i64 xk, .int .i64 xn, .string xs], .int .i64 xc]) ∧ Below W.heap.size W w') := Lib.hid (fun W => hC W)
  by_cases h1 : kb = 1
  · have HX : Hid (X = (⟨xk, xn, xs⟩, xc)) := Lib.hid (by rw [← hX, two_ny (by decide) (kindB_yes hkb h1 (by decide)), hN])
    have n1 : (kb != 1) = false := by rw [bne_eq_false_iff_eq]; exact h1
    have e1 : (kb == 1) = true := by rw [beq_iff_eq]; exact h1
    have n3 : (kb != 3) = true := by rw [bne_iff_ne]; omega
    have e3 : (kb == 3) = false := by rw [beq_eq_false_iff_ne]; omega
    clear hX hkb ha hb h1 hN hC
    have H3 := Lib.hid (Three.new w ⟨ak, an, sa⟩ ⟨bk, bn, sb⟩)
    go_enter Tryz.func37, Tryz.ntmps37
    go_upto_region 1 with fail
    simp only [three_def]
    obtain ⟨g, hg⟩ : ∃ g, w.heap.size = g := ⟨_, rfl⟩
    rw [hg] at H3
    obtain ⟨w3, hw3⟩ : ∃ y, three w ⟨ak, an, sa⟩ ⟨bk, bn, sb⟩ = y := ⟨_, rfl⟩
    rw [hw3] at H3 ⊢
    simp only [hg]
    clear hw3 hg
    obtain ⟨a0, a1, a2⟩ := H3.out.a.cells
    obtain ⟨b0, b1, b2⟩ := H3.out.b.cells
    simp only at a0 a1 a2 b0 b1 b2
    obtain ⟨r0, r1, r2⟩ := H3.out.r.cells
    have f0 := H3.out.r.frozen 0
    have f1 := H3.out.r.frozen 1
    have f2 := H3.out.r.frozen 2
    go_wp2_with fail
    refine (HK.out _).mono ?_
    rintro r w5 ⟨rfl, hb5⟩
    have H4 := Lib.hid (H3.out.below hb5)
    clear hb5 a0 a1 a2 b0 b1 b2 r0 r1 r2 f0 f1 f2 H3
    have H3 := H4
    clear H4
    obtain ⟨a0, a1, a2⟩ := H3.out.a.cells
    obtain ⟨b0, b1, b2⟩ := H3.out.b.cells
    simp only at a0 a1 a2 b0 b1 b2
    obtain ⟨r0, r1, r2⟩ := H3.out.r.cells
    have f0 := H3.out.r.frozen 0
    have f1 := H3.out.r.frozen 1
    have f2 := H3.out.r.frozen 2
    go_wp2_with fail
    refine (HC.out _).mono ?_
    rintro r w5 ⟨rfl, hb5⟩
    have H4 := Lib.hid (H3.out.below hb5)
    clear hb5 a0 a1 a2 b0 b1 b2 r0 r1 r2 f0 f1 f2 H3
    have H3 := H4
    clear H4
    obtain ⟨a0, a1, a2⟩ := H3.out.a.cells
    obtain ⟨b0, b1, b2⟩ := H3.out.b.cells
    simp only at a0 a1 a2 b0 b1 b2
    obtain ⟨r0, r1, r2⟩ := H3.out.r.cells
    have f0 := H3.out.r.frozen 0
    have f1 := H3.out.r.frozen 1
    have f2 := H3.out.r.frozen 2
    obtain ⟨t0, t1, t2⟩ := (H3.out.r.set3' (xk) (xn) (xs)).cells
    have HP := Lib.hid (H3.out.put3 (.int .i64 (xk)) (.int .i64 (xn)) (.string (xs)))
    go_wp2
    refine bodyPost_ret (v := .tuple #[.agg #[.int .i64 (xk), .int .i64 (xn), .string (xs)], .int .i64 xc]) (by simp [results, Tryz.results37, go_sem, t0, t1, t2]) rfl ⟨?_, HP.out⟩
    rw [HX.out]
    rfl
  · have HX : Hid (X = (V0, 40)) := Lib.hid (by rw [← hX, two_nn (by decide) (kindB_no hkb h1 (by decide))])
    have n1 : (kb != 1) = true := by rw [bne_iff_ne]; exact h1
    have e1 : (kb == 1) = false := by rw [beq_eq_false_iff_ne]; exact h1
    have n3 : (kb != 3) = true ∨ (kb != 3) = false := by cases (kb != 3); exact .inr rfl; exact .inl rfl
    clear hX hkb ha hb h1 hN hC
    rcases n3 with n3 | n3
    · have H3 := Lib.hid (Three.new w ⟨ak, an, sa⟩ ⟨bk, bn, sb⟩)
      go_enter Tryz.func37, Tryz.ntmps37
      go_upto_region 1 with fail
      simp only [three_def]
      obtain ⟨g, hg⟩ : ∃ g, w.heap.size = g := ⟨_, rfl⟩
      rw [hg] at H3
      obtain ⟨w3, hw3⟩ : ∃ y, three w ⟨ak, an, sa⟩ ⟨bk, bn, sb⟩ = y := ⟨_, rfl⟩
      rw [hw3] at H3 ⊢
      simp only [hg]
      clear hw3 hg
      obtain ⟨a0, a1, a2⟩ := H3.out.a.cells
      obtain ⟨b0, b1, b2⟩ := H3.out.b.cells
      simp only at a0 a1 a2 b0 b1 b2
      obtain ⟨r0, r1, r2⟩ := H3.out.r.cells
      have f0 := H3.out.r.frozen 0
      have f1 := H3.out.r.frozen 1
      have f2 := H3.out.r.frozen 2
      go_wp2_with fail
      refine (HK.out _).mono ?_
      rintro r w5 ⟨rfl, hb5⟩
      have H4 := Lib.hid (H3.out.below hb5)
      clear hb5 a0 a1 a2 b0 b1 b2 r0 r1 r2 f0 f1 f2 H3
      have H3 := H4
      clear H4
      obtain ⟨a0, a1, a2⟩ := H3.out.a.cells
      obtain ⟨b0, b1, b2⟩ := H3.out.b.cells
      simp only at a0 a1 a2 b0 b1 b2
      obtain ⟨r0, r1, r2⟩ := H3.out.r.cells
      have f0 := H3.out.r.frozen 0
      have f1 := H3.out.r.frozen 1
      have f2 := H3.out.r.frozen 2
      obtain ⟨t0, t1, t2⟩ := (H3.out.r.set3' (0) (0) (⟨#[]⟩)).cells
      have HP := Lib.hid (H3.out.put3 (.int .i64 (0)) (.int .i64 (0)) (.string (⟨#[]⟩)))
      go_wp2
      refine bodyPost_ret (v := .tuple #[.agg #[.int .i64 (0), .int .i64 (0), .string (⟨#[]⟩)], .int .i64 40]) (by simp [results, Tryz.results37, go_sem, t0, t1, t2]) rfl ⟨?_, HP.out⟩
      rw [HX.out]
      rfl
    · have H3 := Lib.hid (Three.new w ⟨ak, an, sa⟩ ⟨bk, bn, sb⟩)
      go_enter Tryz.func37, Tryz.ntmps37
      go_upto_region 1 with fail
      simp only [three_def]
      obtain ⟨g, hg⟩ : ∃ g, w.heap.size = g := ⟨_, rfl⟩
      rw [hg] at H3
      obtain ⟨w3, hw3⟩ : ∃ y, three w ⟨ak, an, sa⟩ ⟨bk, bn, sb⟩ = y := ⟨_, rfl⟩
      rw [hw3] at H3 ⊢
      simp only [hg]
      clear hw3 hg
      obtain ⟨a0, a1, a2⟩ := H3.out.a.cells
      obtain ⟨b0, b1, b2⟩ := H3.out.b.cells
      simp only at a0 a1 a2 b0 b1 b2
      obtain ⟨r0, r1, r2⟩ := H3.out.r.cells
      have f0 := H3.out.r.frozen 0
      have f1 := H3.out.r.frozen 1
      have f2 := H3.out.r.frozen 2
      go_wp2_with fail
      refine (HK.out _).mono ?_
      rintro r w5 ⟨rfl, hb5⟩
      have H4 := Lib.hid (H3.out.below hb5)
      clear hb5 a0 a1 a2 b0 b1 b2 r0 r1 r2 f0 f1 f2 H3
      have H3 := H4
      clear H4
      obtain ⟨a0, a1, a2⟩ := H3.out.a.cells
      obtain ⟨b0, b1, b2⟩ := H3.out.b.cells
      simp only at a0 a1 a2 b0 b1 b2
      obtain ⟨r0, r1, r2⟩ := H3.out.r.cells
      have f0 := H3.out.r.frozen 0
      have f1 := H3.out.r.frozen 1
      have f2 := H3.out.r.frozen 2
      obtain ⟨t0, t1, t2⟩ := (H3.out.r.set3' (0) (0) (⟨#[]⟩)).cells
      have HP := Lib.hid (H3.out.put3 (.int .i64 (0)) (.int .i64 (0)) (.string (⟨#[]⟩)))
      go_wp2
      refine bodyPost_ret (v := .tuple #[.agg #[.int .i64 (0), .int .i64 (0), .string (⟨#[]⟩)], .int .i64 40]) (by simp [results, Tryz.results37, go_sem, t0, t1, t2]) rfl ⟨?_, HP.out⟩
      rw [HX.out]
      rfl
set_option maxRecDepth 100000 in
set_option maxHeartbeats 1000000 in
theorem g6Two8_any (a b : V) (w : World) (ha : okV a) (hb : okV b) : Calls Tryz.prog 37 #[.int .i64 8, a.val, b.val] w (RetG (twoV 8 a b) w) := by
  obtain ⟨ak, an, sa⟩ := a
  obtain ⟨bk, bn, sb⟩ := b
  have HK := Lib.hid (fun W => g6kind_any ⟨ak, an, sa⟩ ⟨bk, bn, sb⟩ W)
  have HT0 := Lib.hid (fun W => g6truth_any false W)
  have HT1 := Lib.hid (fun W => g6truth_any true W)
  simp only [V.val, truthV, mtS, Bool.false_eq_true, if_false, if_true] at HK HT0 HT1 ⊢
  obtain ⟨X, hX⟩ : ∃ X, twoV 8 ⟨ak, an, sa⟩ ⟨bk, bn, sb⟩ = X := ⟨_, rfl⟩
  rw [hX]
  obtain ⟨kb, hkb⟩ : ∃ k, kindB ⟨ak, an, sa⟩ ⟨bk, bn, sb⟩ = k := ⟨_, rfl⟩
  rw [hkb] at HK
  obtain ⟨N, hN⟩ : ∃ N, numsV 8 an bn = N := ⟨_, rfl⟩
  have hC := fun W => g6nums8_any an bn ha.1 hb.1 W
  rw [hN] at hC
  obtain ⟨⟨xk, xn, xs⟩, xc⟩ := N
  have HC : Hid (∀ W, Calls Tryz.prog 66 #[.int .i64 8, .int .i64 an, .int .i64 bn] W fun r w' => r = .returned (.tuple #[.agg #[.int .i64 xk, .int .i64 xn, .string xs], .int .i64 xc]) ∧ Below W.heap.size W w') := Lib.hid (fun W => hC W)
  by_cases h1 : kb = 1
  · have HX : Hid (X = (⟨xk, xn, xs⟩, xc)) := Lib.hid (by rw [← hX, two_ny (by decide) (kindB_yes hkb h1 (by decide)), hN])
    have n1 : (kb != 1) = false := by rw [bne_eq_false_iff_eq]; exact h1
    have e1 : (kb == 1) = true := by rw [beq_iff_eq]; exact h1
    have n3 : (kb != 3) = true := by rw [bne_iff_ne]; omega
    have e3 : (kb == 3) = false := by rw [beq_eq_false_iff_ne]; omega
    clear hX hkb ha hb h1 hN hC
    have H3 := Lib.hid (Three.new w ⟨ak, an, sa⟩ ⟨bk, bn, sb⟩)
    go_enter Tryz.func37, Tryz.ntmps37
    go_upto_region 1 with fail
    simp only [three_def]
    obtain ⟨g, hg⟩ : ∃ g, w.heap.size = g := ⟨_, rfl⟩
    rw [hg] at H3
    obtain ⟨w3, hw3⟩ : ∃ y, three w ⟨ak, an, sa⟩ ⟨bk, bn, sb⟩ = y := ⟨_, rfl⟩
    rw [hw3] at H3 ⊢
    simp only [hg]
    clear hw3 hg
    obtain ⟨a0, a1, a2⟩ := H3.out.a.cells
    obtain ⟨b0, b1, b2⟩ := H3.out.b.cells
    simp only at a0 a1 a2 b0 b1 b2
    obtain ⟨r0, r1, r2⟩ := H3.out.r.cells
    have f0 := H3.out.r.frozen 0
    have f1 := H3.out.r.frozen 1
    have f2 := H3.out.r.frozen 2
    go_wp2_with fail
    refine (HK.out _).mono ?_
    rintro r w5 ⟨rfl, hb5⟩
    have H4 := Lib.hid (H3.out.below hb5)
    clear hb5 a0 a1 a2 b0 b1 b2 r0 r1 r2 f0 f1 f2 H3
    have H3 := H4
    clear H4
    obtain ⟨a0, a1, a2⟩ := H3.out.a.cells
    obtain ⟨b0, b1, b2⟩ := H3.out.b.cells
    simp only at a0 a1 a2 b0 b1 b2
    obtain ⟨r0, r1, r2⟩ := H3.out.r.cells
    have f0 := H3.out.r.frozen 0
    have f1 := H3.out.r.frozen 1
    have f2 := H3.out.r.frozen 2
    go_wp2_with fail
    refine (HC.out _).mono ?_
    rintro r w5 ⟨rfl, hb5⟩
    have H4 := Lib.hid (H3.out.below hb5)
    clear hb5 a0 a1 a2 b0 b1 b2 r0 r1 r2 f0 f1 f2 H3
    have H3 := H4
    clear H4
    obtain ⟨a0, a1, a2⟩ := H3.out.a.cells
    obtain ⟨b0, b1, b2⟩ := H3.out.b.cells
    simp only at a0 a1 a2 b0 b1 b2
    obtain ⟨r0, r1, r2⟩ := H3.out.r.cells
    have f0 := H3.out.r.frozen 0
    have f1 := H3.out.r.frozen 1
    have f2 := H3.out.r.frozen 2
    obtain ⟨t0, t1, t2⟩ := (H3.out.r.set3' (xk) (xn) (xs)).cells
    have HP := Lib.hid (H3.out.put3 (.int .i64 (xk)) (.int .i64 (xn)) (.string (xs)))
    go_wp2
    refine bodyPost_ret (v := .tuple #[.agg #[.int .i64 (xk), .int .i64 (xn), .string (xs)], .int .i64 xc]) (by simp [results, Tryz.results37, go_sem, t0, t1, t2]) rfl ⟨?_, HP.out⟩
    rw [HX.out]
    rfl
  · have HX : Hid (X = (V0, 40)) := Lib.hid (by rw [← hX, two_nn (by decide) (kindB_no hkb h1 (by decide))])
    have n1 : (kb != 1) = true := by rw [bne_iff_ne]; exact h1
    have e1 : (kb == 1) = false := by rw [beq_eq_false_iff_ne]; exact h1
    have n3 : (kb != 3) = true ∨ (kb != 3) = false := by cases (kb != 3); exact .inr rfl; exact .inl rfl
    clear hX hkb ha hb h1 hN hC
    rcases n3 with n3 | n3
    · have H3 := Lib.hid (Three.new w ⟨ak, an, sa⟩ ⟨bk, bn, sb⟩)
      go_enter Tryz.func37, Tryz.ntmps37
      go_upto_region 1 with fail
      simp only [three_def]
      obtain ⟨g, hg⟩ : ∃ g, w.heap.size = g := ⟨_, rfl⟩
      rw [hg] at H3
      obtain ⟨w3, hw3⟩ : ∃ y, three w ⟨ak, an, sa⟩ ⟨bk, bn, sb⟩ = y := ⟨_, rfl⟩
      rw [hw3] at H3 ⊢
      simp only [hg]
      clear hw3 hg
      obtain ⟨a0, a1, a2⟩ := H3.out.a.cells
      obtain ⟨b0, b1, b2⟩ := H3.out.b.cells
      simp only at a0 a1 a2 b0 b1 b2
      obtain ⟨r0, r1, r2⟩ := H3.out.r.cells
      have f0 := H3.out.r.frozen 0
      have f1 := H3.out.r.frozen 1
      have f2 := H3.out.r.frozen 2
      go_wp2_with fail
      refine (HK.out _).mono ?_
      rintro r w5 ⟨rfl, hb5⟩
      have H4 := Lib.hid (H3.out.below hb5)
      clear hb5 a0 a1 a2 b0 b1 b2 r0 r1 r2 f0 f1 f2 H3
      have H3 := H4
      clear H4
      obtain ⟨a0, a1, a2⟩ := H3.out.a.cells
      obtain ⟨b0, b1, b2⟩ := H3.out.b.cells
      simp only at a0 a1 a2 b0 b1 b2
      obtain ⟨r0, r1, r2⟩ := H3.out.r.cells
      have f0 := H3.out.r.frozen 0
      have f1 := H3.out.r.frozen 1
      have f2 := H3.out.r.frozen 2
      obtain ⟨t0, t1, t2⟩ := (H3.out.r.set3' (0) (0) (⟨#[]⟩)).cells
      have HP := Lib.hid (H3.out.put3 (.int .i64 (0)) (.int .i64 (0)) (.string (⟨#[]⟩)))
      go_wp2
      refine bodyPost_ret (v := .tuple #[.agg #[.int .i64 (0), .int .i64 (0), .string (⟨#[]⟩)], .int .i64 40]) (by simp [results, Tryz.results37, go_sem, t0, t1, t2]) rfl ⟨?_, HP.out⟩
      rw [HX.out]
      rfl
    · have H3 := Lib.hid (Three.new w ⟨ak, an, sa⟩ ⟨bk, bn, sb⟩)
      go_enter Tryz.func37, Tryz.ntmps37
      go_upto_region 1 with fail
      simp only [three_def]
      obtain ⟨g, hg⟩ : ∃ g, w.heap.size = g := ⟨_, rfl⟩
      rw [hg] at H3
      obtain ⟨w3, hw3⟩ : ∃ y, three w ⟨ak, an, sa⟩ ⟨bk, bn, sb⟩ = y := ⟨_, rfl⟩
      rw [hw3] at H3 ⊢
      simp only [hg]
      clear hw3 hg
      obtain ⟨a0, a1, a2⟩ := H3.out.a.cells
      obtain ⟨b0, b1, b2⟩ := H3.out.b.cells
      simp only at a0 a1 a2 b0 b1 b2
      obtain ⟨r0, r1, r2⟩ := H3.out.r.cells
      have f0 := H3.out.r.frozen 0
      have f1 := H3.out.r.frozen 1
      have f2 := H3.out.r.frozen 2
      go_wp2_with fail
      refine (HK.out _).mono ?_
      rintro r w5 ⟨rfl, hb5⟩
      have H4 := Lib.hid (H3.out.below hb5)
      clear hb5 a0 a1 a2 b0 b1 b2 r0 r1 r2 f0 f1 f2 H3
      have H3 := H4
      clear H4
      obtain ⟨a0, a1, a2⟩ := H3.out.a.cells
      obtain ⟨b0, b1, b2⟩ := H3.out.b.cells
      simp only at a0 a1 a2 b0 b1 b2
      obtain ⟨r0, r1, r2⟩ := H3.out.r.cells
      have f0 := H3.out.r.frozen 0
      have f1 := H3.out.r.frozen 1
      have f2 := H3.out.r.frozen 2
      obtain ⟨t0, t1, t2⟩ := (H3.out.r.set3' (0) (0) (⟨#[]⟩)).cells
      have HP := Lib.hid (H3.out.put3 (.int .i64 (0)) (.int .i64 (0)) (.string (⟨#[]⟩)))
      go_wp2
      refine bodyPost_ret (v := .tuple #[.agg #[.int .i64 (0), .int .i64 (0), .string (⟨#[]⟩)], .int .i64 40]) (by simp [results, Tryz.results37, go_sem, t0, t1, t2]) rfl ⟨?_, HP.out⟩
      rw [HX.out]
      rfl
set_option maxRecDepth 100000 in
set_option maxHeartbeats 1000000 in
theorem g6Two10_any (a b : V) (w : World) (ha : okV a) (hb : okV b) : Calls Tryz.prog 37 #[.int .i64 10, a.val, b.val] w (RetG (twoV 10 a b) w) := by
  obtain ⟨ak, an, sa⟩ := a
  obtain ⟨bk, bn, sb⟩ := b
  have HK := Lib.hid (fun W => g6kind_any ⟨ak, an, sa⟩ ⟨bk, bn, sb⟩ W)
  have HT0 := Lib.hid (fun W => g6truth_any false W)
  have HT1 := Lib.hid (fun W => g6truth_any true W)
  simp only [V.val, truthV, mtS, Bool.false_eq_true, if_false, if_true] at HK HT0 HT1 ⊢
  obtain ⟨X, hX⟩ : ∃ X, twoV 10 ⟨ak, an, sa⟩ ⟨bk, bn, sb⟩ = X := ⟨_, rfl⟩
  rw [hX]
  obtain ⟨kb, hkb⟩ : ∃ k, kindB ⟨ak, an, sa⟩ ⟨bk, bn, sb⟩ = k := ⟨_, rfl⟩
  rw [hkb] at HK
  obtain ⟨N, hN⟩ : ∃ N, numsV 10 an bn = N := ⟨_, rfl⟩
  have hC := fun W => g6nums10_any an bn ha.1 hb.1 W
  rw [hN] at hC
  obtain ⟨⟨xk, xn, xs⟩, xc⟩ := N
  have HC : Hid (∀ W, Calls Tryz.prog 66 #[.int .i64 10, .int .i64 an, .int .i64 bn] W fun r w' => r = .returned (.tuple #[.agg #[.int .i64 xk, .int .i64 xn, .string xs], .int .i64 xc]) ∧ Below W.heap.size W w') := Lib.hid (fun W => hC W)
  by_cases h1 : kb = 1
  · have HX : Hid (X = (⟨xk, xn, xs⟩, xc)) := Lib.hid (by rw [← hX, two_ny (by decide) (kindB_yes hkb h1 (by decide)), hN])
    have n1 : (kb != 1) = false := by rw [bne_eq_false_iff_eq]; exact h1
    have e1 : (kb == 1) = true := by rw [beq_iff_eq]; exact h1
    have n3 : (kb != 3) = true := by rw [bne_iff_ne]; omega
    have e3 : (kb == 3) = false := by rw [beq_eq_false_iff_ne]; omega
    clear hX hkb ha hb h1 hN hC
    have H3 := Lib.hid (Three.new w ⟨ak, an, sa⟩ ⟨bk, bn, sb⟩)
    go_enter Tryz.func37, Tryz.ntmps37
    go_upto_region 1 with fail
    simp only [three_def]
    obtain ⟨g, hg⟩ : ∃ g, w.heap.size = g := ⟨_, rfl⟩
    rw [hg] at H3
    obtain ⟨w3, hw3⟩ : ∃ y, three w ⟨ak, an, sa⟩ ⟨bk, bn, sb⟩ = y := ⟨_, rfl⟩
    rw [hw3] at H3 ⊢
    simp only [hg]
    clear hw3 hg
    obtain ⟨a0, a1, a2⟩ := H3.out.a.cells
    obtain ⟨b0, b1, b2⟩ := H3.out.b.cells
    simp only at a0 a1 a2 b0 b1 b2
    obtain ⟨r0, r1, r2⟩ := H3.out.r.cells
    have f0 := H3.out.r.frozen 0
    have f1 := H3.out.r.frozen 1
    have f2 := H3.out.r.frozen 2
    go_wp2_with fail
    refine (HK.out _).mono ?_
    rintro r w5 ⟨rfl, hb5⟩
    have H4 := Lib.hid (H3.out.below hb5)
    clear hb5 a0 a1 a2 b0 b1 b2 r0 r1 r2 f0 f1 f2 H3
    have H3 := H4
    clear H4
    obtain ⟨a0, a1, a2⟩ := H3.out.a.cells
    obtain ⟨b0, b1, b2⟩ := H3.out.b.cells
    simp only at a0 a1 a2 b0 b1 b2
    obtain ⟨r0, r1, r2⟩ := H3.out.r.cells
    have f0 := H3.out.r.frozen 0
    have f1 := H3.out.r.frozen 1
    have f2 := H3.out.r.frozen 2
    go_wp2_with fail
    refine (HC.out _).mono ?_
    rintro r w5 ⟨rfl, hb5⟩
    have H4 := Lib.hid (H3.out.below hb5)
    clear hb5 a0 a1 a2 b0 b1 b2 r0 r1 r2 f0 f1 f2 H3
    have H3 := H4
    clear H4
    obtain ⟨a0, a1, a2⟩ := H3.out.a.cells
    obtain ⟨b0, b1, b2⟩ := H3.out.b.cells
    simp only at a0 a1 a2 b0 b1 b2
    obtain ⟨r0, r1, r2⟩ := H3.out.r.cells
    have f0 := H3.out.r.frozen 0
    have f1 := H3.out.r.frozen 1
    have f2 := H3.out.r.frozen 2
    obtain ⟨t0, t1, t2⟩ := (H3.out.r.set3' (xk) (xn) (xs)).cells
    have HP := Lib.hid (H3.out.put3 (.int .i64 (xk)) (.int .i64 (xn)) (.string (xs)))
    go_wp2
    refine bodyPost_ret (v := .tuple #[.agg #[.int .i64 (xk), .int .i64 (xn), .string (xs)], .int .i64 xc]) (by simp [results, Tryz.results37, go_sem, t0, t1, t2]) rfl ⟨?_, HP.out⟩
    rw [HX.out]
    rfl
  · have HX : Hid (X = (V0, 40)) := Lib.hid (by rw [← hX, two_nn (by decide) (kindB_no hkb h1 (by decide))])
    have n1 : (kb != 1) = true := by rw [bne_iff_ne]; exact h1
    have e1 : (kb == 1) = false := by rw [beq_eq_false_iff_ne]; exact h1
    have n3 : (kb != 3) = true ∨ (kb != 3) = false := by cases (kb != 3); exact .inr rfl; exact .inl rfl
    clear hX hkb ha hb h1 hN hC
    rcases n3 with n3 | n3
    · have H3 := Lib.hid (Three.new w ⟨ak, an, sa⟩ ⟨bk, bn, sb⟩)
      go_enter Tryz.func37, Tryz.ntmps37
      go_upto_region 1 with fail
      simp only [three_def]
      obtain ⟨g, hg⟩ : ∃ g, w.heap.size = g := ⟨_, rfl⟩
      rw [hg] at H3
      obtain ⟨w3, hw3⟩ : ∃ y, three w ⟨ak, an, sa⟩ ⟨bk, bn, sb⟩ = y := ⟨_, rfl⟩
      rw [hw3] at H3 ⊢
      simp only [hg]
      clear hw3 hg
      obtain ⟨a0, a1, a2⟩ := H3.out.a.cells
      obtain ⟨b0, b1, b2⟩ := H3.out.b.cells
      simp only at a0 a1 a2 b0 b1 b2
      obtain ⟨r0, r1, r2⟩ := H3.out.r.cells
      have f0 := H3.out.r.frozen 0
      have f1 := H3.out.r.frozen 1
      have f2 := H3.out.r.frozen 2
      go_wp2_with fail
      refine (HK.out _).mono ?_
      rintro r w5 ⟨rfl, hb5⟩
      have H4 := Lib.hid (H3.out.below hb5)
      clear hb5 a0 a1 a2 b0 b1 b2 r0 r1 r2 f0 f1 f2 H3
      have H3 := H4
      clear H4
      obtain ⟨a0, a1, a2⟩ := H3.out.a.cells
      obtain ⟨b0, b1, b2⟩ := H3.out.b.cells
      simp only at a0 a1 a2 b0 b1 b2
      obtain ⟨r0, r1, r2⟩ := H3.out.r.cells
      have f0 := H3.out.r.frozen 0
      have f1 := H3.out.r.frozen 1
      have f2 := H3.out.r.frozen 2
      obtain ⟨t0, t1, t2⟩ := (H3.out.r.set3' (0) (0) (⟨#[]⟩)).cells
      have HP := Lib.hid (H3.out.put3 (.int .i64 (0)) (.int .i64 (0)) (.string (⟨#[]⟩)))
      go_wp2
      refine bodyPost_ret (v := .tuple #[.agg #[.int .i64 (0), .int .i64 (0), .string (⟨#[]⟩)], .int .i64 40]) (by simp [results, Tryz.results37, go_sem, t0, t1, t2]) rfl ⟨?_, HP.out⟩
      rw [HX.out]
      rfl
    · have H3 := Lib.hid (Three.new w ⟨ak, an, sa⟩ ⟨bk, bn, sb⟩)
      go_enter Tryz.func37, Tryz.ntmps37
      go_upto_region 1 with fail
      simp only [three_def]
      obtain ⟨g, hg⟩ : ∃ g, w.heap.size = g := ⟨_, rfl⟩
      rw [hg] at H3
      obtain ⟨w3, hw3⟩ : ∃ y, three w ⟨ak, an, sa⟩ ⟨bk, bn, sb⟩ = y := ⟨_, rfl⟩
      rw [hw3] at H3 ⊢
      simp only [hg]
      clear hw3 hg
      obtain ⟨a0, a1, a2⟩ := H3.out.a.cells
      obtain ⟨b0, b1, b2⟩ := H3.out.b.cells
      simp only at a0 a1 a2 b0 b1 b2
      obtain ⟨r0, r1, r2⟩ := H3.out.r.cells
      have f0 := H3.out.r.frozen 0
      have f1 := H3.out.r.frozen 1
      have f2 := H3.out.r.frozen 2
      go_wp2_with fail
      refine (HK.out _).mono ?_
      rintro r w5 ⟨rfl, hb5⟩
      have H4 := Lib.hid (H3.out.below hb5)
      clear hb5 a0 a1 a2 b0 b1 b2 r0 r1 r2 f0 f1 f2 H3
      have H3 := H4
      clear H4
      obtain ⟨a0, a1, a2⟩ := H3.out.a.cells
      obtain ⟨b0, b1, b2⟩ := H3.out.b.cells
      simp only at a0 a1 a2 b0 b1 b2
      obtain ⟨r0, r1, r2⟩ := H3.out.r.cells
      have f0 := H3.out.r.frozen 0
      have f1 := H3.out.r.frozen 1
      have f2 := H3.out.r.frozen 2
      obtain ⟨t0, t1, t2⟩ := (H3.out.r.set3' (0) (0) (⟨#[]⟩)).cells
      have HP := Lib.hid (H3.out.put3 (.int .i64 (0)) (.int .i64 (0)) (.string (⟨#[]⟩)))
      go_wp2
      refine bodyPost_ret (v := .tuple #[.agg #[.int .i64 (0), .int .i64 (0), .string (⟨#[]⟩)], .int .i64 40]) (by simp [results, Tryz.results37, go_sem, t0, t1, t2]) rfl ⟨?_, HP.out⟩
      rw [HX.out]
      rfl
set_option maxRecDepth 100000 in
set_option maxHeartbeats 1000000 in
theorem g6Two9_any (a b : V) (w : World) (ha : okV a) (hb : okV b) : Calls Tryz.prog 37 #[.int .i64 9, a.val, b.val] w (RetG (twoV 9 a b) w) := by
  obtain ⟨ak, an, sa⟩ := a
  obtain ⟨bk, bn, sb⟩ := b
  have HK := Lib.hid (fun W => g6kind_any ⟨ak, an, sa⟩ ⟨bk, bn, sb⟩ W)
  have HT0 := Lib.hid (fun W => g6truth_any false W)
  have HT1 := Lib.hid (fun W => g6truth_any true W)
  simp only [V.val, truthV, mtS, Bool.false_eq_true, if_false, if_true] at HK HT0 HT1 ⊢
  obtain ⟨X, hX⟩ : ∃ X, twoV 9 ⟨ak, an, sa⟩ ⟨bk, bn, sb⟩ = X := ⟨_, rfl⟩
  rw [hX]
  obtain ⟨kb, hkb⟩ : ∃ k, kindB ⟨ak, an, sa⟩ ⟨bk, bn, sb⟩ = k := ⟨_, rfl⟩
  rw [hkb] at HK
  obtain ⟨N, hN⟩ : ∃ N, numsV 9 an bn = N := ⟨_, rfl⟩
  have hC := fun W => g6nums9_any an bn ha.1 hb.1 W
  rw [hN] at hC
  obtain ⟨⟨xk, xn, xs⟩, xc⟩ := N
  have HC : Hid (∀ W, Calls Tryz.prog 66 #[.int .i64 9, .int .i64 an, .int .i64 bn] W fun r w' => r = .returned (.tuple #[.agg #[.int .i64 xk, .int .i64 xn, .string xs], .int .i64 xc]) ∧ Below W.heap.size W w') := Lib.hid (fun W => hC W)
  by_cases h1 : kb = 1
  · have HX : Hid (X = (⟨xk, xn, xs⟩, xc)) := Lib.hid (by rw [← hX, two_ny (by decide) (kindB_yes hkb h1 (by decide)), hN])
    have n1 : (kb != 1) = false := by rw [bne_eq_false_iff_eq]; exact h1
    have e1 : (kb == 1) = true := by rw [beq_iff_eq]; exact h1
    have n3 : (kb != 3) = true := by rw [bne_iff_ne]; omega
    have e3 : (kb == 3) = false := by rw [beq_eq_false_iff_ne]; omega
    clear hX hkb ha hb h1 hN hC
    have H3 := Lib.hid (Three.new w ⟨ak, an, sa⟩ ⟨bk, bn, sb⟩)
    go_enter Tryz.func37, Tryz.ntmps37
    go_upto_region 1 with fail
    simp only [three_def]
    obtain ⟨g, hg⟩ : ∃ g, w.heap.size = g := ⟨_, rfl⟩
    rw [hg] at H3
    obtain ⟨w3, hw3⟩ : ∃ y, three w ⟨ak, an, sa⟩ ⟨bk, bn, sb⟩ = y := ⟨_, rfl⟩
    rw [hw3] at H3 ⊢
    simp only [hg]
    clear hw3 hg
    obtain ⟨a0, a1, a2⟩ := H3.out.a.cells
    obtain ⟨b0, b1, b2⟩ := H3.out.b.cells
    simp only at a0 a1 a2 b0 b1 b2
    obtain ⟨r0, r1, r2⟩ := H3.out.r.cells
    have f0 := H3.out.r.frozen 0
    have f1 := H3.out.r.frozen 1
    have f2 := H3.out.r.frozen 2
    go_wp2_with fail
    refine (HK.out _).mono ?_
    rintro r w5 ⟨rfl, hb5⟩
    have H4 := Lib.hid (H3.out.below hb5)
    clear hb5 a0 a1 a2 b0 b1 b2 r0 r1 r2 f0 f1 f2 H3
    have H3 := H4
    clear H4
    obtain ⟨a0, a1, a2⟩ := H3.out.a.cells
    obtain ⟨b0, b1, b2⟩ := H3.out.b.cells
    simp only at a0 a1 a2 b0 b1 b2
    obtain ⟨r0, r1, r2⟩ := H3.out.r.cells
    have f0 := H3.out.r.frozen 0
    have f1 := H3.out.r.frozen 1
    have f2 := H3.out.r.frozen 2
    go_wp2_with fail
    refine (HC.out _).mono ?_
    rintro r w5 ⟨rfl, hb5⟩
    have H4 := Lib.hid (H3.out.below hb5)
    clear hb5 a0 a1 a2 b0 b1 b2 r0 r1 r2 f0 f1 f2 H3
    have H3 := H4
    clear H4
    obtain ⟨a0, a1, a2⟩ := H3.out.a.cells
    obtain ⟨b0, b1, b2⟩ := H3.out.b.cells
    simp only at a0 a1 a2 b0 b1 b2
    obtain ⟨r0, r1, r2⟩ := H3.out.r.cells
    have f0 := H3.out.r.frozen 0
    have f1 := H3.out.r.frozen 1
    have f2 := H3.out.r.frozen 2
    obtain ⟨t0, t1, t2⟩ := (H3.out.r.set3' (xk) (xn) (xs)).cells
    have HP := Lib.hid (H3.out.put3 (.int .i64 (xk)) (.int .i64 (xn)) (.string (xs)))
    go_wp2
    refine bodyPost_ret (v := .tuple #[.agg #[.int .i64 (xk), .int .i64 (xn), .string (xs)], .int .i64 xc]) (by simp [results, Tryz.results37, go_sem, t0, t1, t2]) rfl ⟨?_, HP.out⟩
    rw [HX.out]
    rfl
  · by_cases h3 : kb = 3
    · obtain ⟨rfl, rfl⟩ : ak = 3 ∧ bk = 3 := kindB_yes hkb h3 (by decide)
      have hsz : sa.size + sb.size ≤ 2000000 := by have h1 : sa.size ≤ 1000000 := ha.2; have h2 : sb.size ≤ 1000000 := hb.2; omega
      have n1 : (kb != 1) = true := by rw [bne_iff_ne]; exact h1
      have e1 : (kb == 1) = false := by rw [beq_eq_false_iff_ne]; exact h1
      have n3 : (kb != 3) = false := by rw [bne_eq_false_iff_eq]; exact h3
      have e3 : (kb == 3) = true := by rw [beq_iff_eq]; exact h3
      by_cases hl : 64 < sa.size + sb.size
      · have HX : Hid (X = (V0, 3)) := Lib.hid (by rw [← hX, two_t3, if_pos hl])
        have hw : wrap64 ((sa.size : Int) + (sb.size : Int)) = (sa.size : Int) + (sb.size : Int) := IntWalk.wrap64_in _ (by omega)
        have dl : decide (64 < (sa.size : Int) + (sb.size : Int)) = true := by rw [decide_eq_true_iff]; omega
        have dl2 : decide (64 < sa.size + sb.size) = true := decide_eq_true hl
        clear hX hkb ha hb h1 h3 hN hC hl
        have H3 := Lib.hid (Three.new w ⟨3, an, sa⟩ ⟨3, bn, sb⟩)
        go_enter Tryz.func37, Tryz.ntmps37
        go_upto_region 1 with fail
        simp only [three_def]
        obtain ⟨g, hg⟩ : ∃ g, w.heap.size = g := ⟨_, rfl⟩
        rw [hg] at H3
        obtain ⟨w3, hw3⟩ : ∃ y, three w ⟨3, an, sa⟩ ⟨3, bn, sb⟩ = y := ⟨_, rfl⟩
        rw [hw3] at H3 ⊢
        simp only [hg]
        clear hw3 hg
        obtain ⟨a0, a1, a2⟩ := H3.out.a.cells
        obtain ⟨b0, b1, b2⟩ := H3.out.b.cells
        simp only at a0 a1 a2 b0 b1 b2
        obtain ⟨r0, r1, r2⟩ := H3.out.r.cells
        have f0 := H3.out.r.frozen 0
        have f1 := H3.out.r.frozen 1
        have f2 := H3.out.r.frozen 2
        go_wp2_with fail
        refine (HK.out _).mono ?_
        rintro r w5 ⟨rfl, hb5⟩
        have H4 := Lib.hid (H3.out.below hb5)
        clear hb5 a0 a1 a2 b0 b1 b2 r0 r1 r2 f0 f1 f2 H3
        have H3 := H4
        clear H4
        obtain ⟨a0, a1, a2⟩ := H3.out.a.cells
        obtain ⟨b0, b1, b2⟩ := H3.out.b.cells
        simp only at a0 a1 a2 b0 b1 b2
        obtain ⟨r0, r1, r2⟩ := H3.out.r.cells
        have f0 := H3.out.r.frozen 0
        have f1 := H3.out.r.frozen 1
        have f2 := H3.out.r.frozen 2
        obtain ⟨t0, t1, t2⟩ := (H3.out.r.set3' (0) (0) (⟨#[]⟩)).cells
        have HP := Lib.hid (H3.out.put3 (.int .i64 (0)) (.int .i64 (0)) (.string (⟨#[]⟩)))
        go_wp2
        refine bodyPost_ret (v := .tuple #[.agg #[.int .i64 (0), .int .i64 (0), .string (⟨#[]⟩)], .int .i64 3]) (by simp [results, Tryz.results37, go_sem, t0, t1, t2]) rfl ⟨?_, HP.out⟩
        rw [HX.out]
        rfl
      · have HX : Hid (X = (⟨3, 0, sa ++ sb⟩, 0)) := Lib.hid (by rw [← hX, two_t3, if_neg hl])
        have hw : wrap64 ((sa.size : Int) + (sb.size : Int)) = (sa.size : Int) + (sb.size : Int) := IntWalk.wrap64_in _ (by omega)
        have dl : decide (64 < (sa.size : Int) + (sb.size : Int)) = false := by rw [decide_eq_false_iff_not]; omega
        have dl2 : decide (64 < sa.size + sb.size) = false := decide_eq_false hl
        clear hX hkb ha hb h1 h3 hN hC hl
        have H3 := Lib.hid (Three.new w ⟨3, an, sa⟩ ⟨3, bn, sb⟩)
        go_enter Tryz.func37, Tryz.ntmps37
        go_upto_region 1 with fail
        simp only [three_def]
        obtain ⟨g, hg⟩ : ∃ g, w.heap.size = g := ⟨_, rfl⟩
        rw [hg] at H3
        obtain ⟨w3, hw3⟩ : ∃ y, three w ⟨3, an, sa⟩ ⟨3, bn, sb⟩ = y := ⟨_, rfl⟩
        rw [hw3] at H3 ⊢
        simp only [hg]
        clear hw3 hg
        obtain ⟨a0, a1, a2⟩ := H3.out.a.cells
        obtain ⟨b0, b1, b2⟩ := H3.out.b.cells
        simp only at a0 a1 a2 b0 b1 b2
        obtain ⟨r0, r1, r2⟩ := H3.out.r.cells
        have f0 := H3.out.r.frozen 0
        have f1 := H3.out.r.frozen 1
        have f2 := H3.out.r.frozen 2
        go_wp2_with fail
        refine (HK.out _).mono ?_
        rintro r w5 ⟨rfl, hb5⟩
        have H4 := Lib.hid (H3.out.below hb5)
        clear hb5 a0 a1 a2 b0 b1 b2 r0 r1 r2 f0 f1 f2 H3
        have H3 := H4
        clear H4
        obtain ⟨a0, a1, a2⟩ := H3.out.a.cells
        obtain ⟨b0, b1, b2⟩ := H3.out.b.cells
        simp only at a0 a1 a2 b0 b1 b2
        obtain ⟨r0, r1, r2⟩ := H3.out.r.cells
        have f0 := H3.out.r.frozen 0
        have f1 := H3.out.r.frozen 1
        have f2 := H3.out.r.frozen 2
        obtain ⟨t0, t1, t2⟩ := (H3.out.r.set3' (3) (0) (sa ++ sb)).cells
        have HP := Lib.hid (H3.out.put3 (.int .i64 (3)) (.int .i64 (0)) (.string (sa ++ sb)))
        go_wp2
        refine bodyPost_ret (v := .tuple #[.agg #[.int .i64 (3), .int .i64 (0), .string (sa ++ sb)], .int .i64 0]) (by simp [results, Tryz.results37, go_sem, t0, t1, t2]) rfl ⟨?_, HP.out⟩
        rw [HX.out]
        rfl
    · have HX : Hid (X = (V0, 40)) := Lib.hid (by rw [← hX, two_an (kindB_nor hkb h1 h3)])
      have n1 : (kb != 1) = true := by rw [bne_iff_ne]; exact h1
      have e1 : (kb == 1) = false := by rw [beq_eq_false_iff_ne]; exact h1
      have n3 : (kb != 3) = true := by rw [bne_iff_ne]; exact h3
      have e3 : (kb == 3) = false := by rw [beq_eq_false_iff_ne]; exact h3
      clear hX hkb ha hb h1 h3 hN hC
      have H3 := Lib.hid (Three.new w ⟨ak, an, sa⟩ ⟨bk, bn, sb⟩)
      go_enter Tryz.func37, Tryz.ntmps37
      go_upto_region 1 with fail
      simp only [three_def]
      obtain ⟨g, hg⟩ : ∃ g, w.heap.size = g := ⟨_, rfl⟩
      rw [hg] at H3
      obtain ⟨w3, hw3⟩ : ∃ y, three w ⟨ak, an, sa⟩ ⟨bk, bn, sb⟩ = y := ⟨_, rfl⟩
      rw [hw3] at H3 ⊢
      simp only [hg]
      clear hw3 hg
      obtain ⟨a0, a1, a2⟩ := H3.out.a.cells
      obtain ⟨b0, b1, b2⟩ := H3.out.b.cells
      simp only at a0 a1 a2 b0 b1 b2
      obtain ⟨r0, r1, r2⟩ := H3.out.r.cells
      have f0 := H3.out.r.frozen 0
      have f1 := H3.out.r.frozen 1
      have f2 := H3.out.r.frozen 2
      go_wp2_with fail
      refine (HK.out _).mono ?_
      rintro r w5 ⟨rfl, hb5⟩
      have H4 := Lib.hid (H3.out.below hb5)
      clear hb5 a0 a1 a2 b0 b1 b2 r0 r1 r2 f0 f1 f2 H3
      have H3 := H4
      clear H4
      obtain ⟨a0, a1, a2⟩ := H3.out.a.cells
      obtain ⟨b0, b1, b2⟩ := H3.out.b.cells
      simp only at a0 a1 a2 b0 b1 b2
      obtain ⟨r0, r1, r2⟩ := H3.out.r.cells
      have f0 := H3.out.r.frozen 0
      have f1 := H3.out.r.frozen 1
      have f2 := H3.out.r.frozen 2
      obtain ⟨t0, t1, t2⟩ := (H3.out.r.set3' (0) (0) (⟨#[]⟩)).cells
      have HP := Lib.hid (H3.out.put3 (.int .i64 (0)) (.int .i64 (0)) (.string (⟨#[]⟩)))
      go_wp2
      refine bodyPost_ret (v := .tuple #[.agg #[.int .i64 (0), .int .i64 (0), .string (⟨#[]⟩)], .int .i64 40]) (by simp [results, Tryz.results37, go_sem, t0, t1, t2]) rfl ⟨?_, HP.out⟩
      rw [HX.out]
      rfl
set_option maxRecDepth 100000 in
set_option maxHeartbeats 1000000 in
theorem g6TwoX_any (op : Int) (hop : op < 6 ∨ 18 < op) (a b : V) (w : World) : Calls Tryz.prog 37 #[.int .i64 op, a.val, b.val] w (RetG (twoV op a b) w) := by
  obtain ⟨ak, an, sa⟩ := a
  obtain ⟨bk, bn, sb⟩ := b
  have HK := Lib.hid (fun W => g6kind_any ⟨ak, an, sa⟩ ⟨bk, bn, sb⟩ W)
  simp only [V.val] at HK ⊢
  obtain ⟨X, hX⟩ : ∃ X, twoV op ⟨ak, an, sa⟩ ⟨bk, bn, sb⟩ = X := ⟨_, rfl⟩
  rw [hX]
  have HX : Hid (X = (V0, 1)) := Lib.hid (by rw [← hX]; unfold twoV; rw [if_pos hop])
  generalize kindB ⟨ak, an, sa⟩ ⟨bk, bn, sb⟩ = kb at HK
  have d : decide (op < 6) = true ∨ (decide (op < 6) = false ∧ decide (18 < op) = true) := by
    by_cases h : op < 6
    · exact .inl (decide_eq_true h)
    · exact .inr ⟨decide_eq_false h, decide_eq_true (by omega)⟩
  clear hX hop
  rcases d with d | ⟨d, d2⟩
  all_goals
    have H3 := Lib.hid (Three.new w ⟨ak, an, sa⟩ ⟨bk, bn, sb⟩)
    go_enter Tryz.func37, Tryz.ntmps37
    go_upto_region 1 with fail
    simp only [three_def]
    obtain ⟨g, hg⟩ : ∃ g, w.heap.size = g := ⟨_, rfl⟩
    rw [hg] at H3
    obtain ⟨w3, hw3⟩ : ∃ y, three w ⟨ak, an, sa⟩ ⟨bk, bn, sb⟩ = y := ⟨_, rfl⟩
    rw [hw3] at H3 ⊢
    simp only [hg]
    clear hw3 hg
    obtain ⟨a0, a1, a2⟩ := H3.out.a.cells
    obtain ⟨b0, b1, b2⟩ := H3.out.b.cells
    simp only at a0 a1 a2 b0 b1 b2
    obtain ⟨r0, r1, r2⟩ := H3.out.r.cells
    have f0 := H3.out.r.frozen 0
    have f1 := H3.out.r.frozen 1
    have f2 := H3.out.r.frozen 2
    go_wp2_with fail
    refine (HK.out _).mono ?_
    rintro r w5 ⟨rfl, hb5⟩
    have H4 := Lib.hid (H3.out.below hb5)
    clear hb5 a0 a1 a2 b0 b1 b2 r0 r1 r2 f0 f1 f2 H3
    have H3 := H4
    clear H4
    obtain ⟨a0, a1, a2⟩ := H3.out.a.cells
    obtain ⟨b0, b1, b2⟩ := H3.out.b.cells
    simp only at a0 a1 a2 b0 b1 b2
    obtain ⟨r0, r1, r2⟩ := H3.out.r.cells
    have f0 := H3.out.r.frozen 0
    have f1 := H3.out.r.frozen 1
    have f2 := H3.out.r.frozen 2
    obtain ⟨t0, t1, t2⟩ := (H3.out.r.set3' (0) (0) (⟨#[]⟩)).cells
    have HP := Lib.hid (H3.out.put3 (.int .i64 (0)) (.int .i64 (0)) (.string (⟨#[]⟩)))
    go_wp2
    refine bodyPost_ret (v := .tuple #[.agg #[.int .i64 (0), .int .i64 (0), .string (⟨#[]⟩)], .int .i64 1]) (by simp [results, Tryz.results37, go_sem, t0, t1, t2]) rfl ⟨?_, HP.out⟩
    rw [HX.out]
    rfl
theorem g6Two_any (op : Int) (a b : V) (w : World) (ha : okV a) (hb : okV b) : Calls Tryz.prog 37 #[.int .i64 op, a.val, b.val] w (RetG (twoV op a b) w) := by
  by_cases h : op < 6 ∨ 18 < op
  · exact g6TwoX_any op h a b w
  · have h : op = 6 ∨ op = 7 ∨ op = 8 ∨ op = 9 ∨ op = 10 ∨ op = 11 ∨ op = 12 ∨ op = 13 ∨ op = 14 ∨ op = 15 ∨ op = 16 ∨ op = 17 ∨ op = 18 := by omega
    rcases h with rfl | rfl | rfl | rfl | rfl | rfl | rfl | rfl | rfl | rfl | rfl | rfl | rfl
    · exact g6Two6_any a b w ha hb
    · exact g6Two7_any a b w ha hb
    · exact g6Two8_any a b w ha hb
    · exact g6Two9_any a b w ha hb
    · exact g6Two10_any a b w ha hb
    · exact g6Two11_any a b w ha hb
    · exact g6Two12_any a b w ha hb
    · exact g6Two13_any a b w ha hb
    · exact g6Two14_any a b w ha hb
    · exact g6Two15_any a b w ha hb
    · exact g6Two16_any a b w ha hb
    · exact g6Two17_any a b w ha hb
    · exact g6Two18_any a b w ha hb
end Go.Proofs.YtidomoibhjgkjaaGreatDoor
