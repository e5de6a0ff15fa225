import Derived.Test.YtidomoibhjgkjaaGreatDoorZC20
/-
  Package eval: Two.
-/
namespace Go.Proofs.YtidomoibhjgkjaaGreatDoor
open Go.RowKit

/-! ### the pieces, put together -/
theorem nz_b (n : Int) : (!(n == 0)) = decide (n ≠ 0) := by by_cases h : n = 0 <;> simp [h]
theorem k_b (a b k : Int) : ((a == k && b == k) = true) ↔ (a = k ∧ b = k) := by simp
theorem two_and (a b : V) : twoV 17 a b = joinG true a b := by
  unfold twoV joinG
  rw [if_neg (by decide), if_neg (by decide), if_neg (by decide), if_pos (.inl rfl)]
  by_cases h : a.k = 2 ∧ b.k = 2
  · rw [if_neg (by omega), if_pos ((k_b _ _ _).2 h), if_pos rfl, if_pos rfl, nz_b, nz_b]
  · rw [if_pos (by omega), if_neg (fun e => h ((k_b _ _ _).1 e))]
theorem two_or (a b : V) : twoV 18 a b = joinG false a b := by
  unfold twoV joinG
  rw [if_neg (by decide), if_neg (by decide), if_neg (by decide), if_pos (.inr rfl)]
  by_cases h : a.k = 2 ∧ b.k = 2
  · rw [if_neg (by omega), if_pos ((k_b _ _ _).2 h), if_neg (by decide), if_neg (by decide), nz_b, nz_b]
  · rw [if_pos (by omega), if_neg (fun e => h ((k_b _ _ _).1 e))]
theorem eqV_b (a b : V) : eqV a b = decide (a = b) := by
  rw [Bool.eq_iff_iff, eqV_iff, decide_eq_true_iff]
theorem two_eq (a b : V) : twoV 15 a b = (truthV (eqV a b), 0) := by
  unfold twoV
  rw [if_neg (by decide), if_pos rfl, eqV_b]
theorem two_ne (a b : V) : twoV 16 a b = (truthV (!eqV a b), 0) := by
  unfold twoV
  rw [if_neg (by decide), if_neg (by decide), if_pos rfl, eqV_b]
  by_cases h : a = b <;> simp [h]
theorem ord_i {op : Int} (h : op = 11 ∨ op = 12 ∨ op = 13 ∨ op = 14) (a b : V) (hk : a.k ≠ 3) (hkb : b.k ≠ 3) : ordB op (cmpI a.n b.n) = standV op a b := by
  unfold standV lessV cmpI ordB
  by_cases h1 : a.n < b.n
  · have h2 : ¬ b.n < a.n := by omega
    rcases h with rfl | rfl | rfl | rfl <;> simp [h1, h2, hk, hkb]
  · by_cases h2 : b.n < a.n <;> rcases h with rfl | rfl | rfl | rfl <;> simp [h1, h2, hk, hkb]
theorem ord_s {op : Int} (h : op = 11 ∨ op = 12 ∨ op = 13 ∨ op = 14) (a b : V) (hk : a.k = 3) (hkb : b.k = 3) : ordB op (cmpS a.s.data.toList b.s.data.toList) = standV op a b := by
  unfold standV lessV ordB
  rcases blt_tri a.s.data.toList b.s.data.toList with h1 | h1 | h1
  · have h2 := blt_asymm h1
    rw [cmpS_lt h1]
    rcases h with rfl | rfl | rfl | rfl <;> simp [h1, h2, hk, hkb]
  · rw [h1, cmpS_self]
    have h2 := blt_self b.s.data.toList
    rcases h with rfl | rfl | rfl | rfl <;> simp [h2, hk, hkb]
  · have h2 := blt_asymm h1
    rw [cmpS_gt h1]
    rcases h with rfl | rfl | rfl | rfl <;> simp [h1, h2, hk, hkb]
theorem two_ord {op : Int} (h : op = 11 ∨ op = 12 ∨ op = 13 ∨ op = 14) (a b : V) : twoV op a b = ordG op a b := by
  unfold twoV ordG
  rw [if_neg (by omega), if_neg (by omega), if_neg (by omega), if_neg (by omega)]
  by_cases h1 : a.k = 1 ∧ b.k = 1
  · rw [if_neg (by omega), if_pos (show 11 ≤ op by omega), if_pos ((k_b _ _ _).2 h1), ord_i h a b (by omega) (by omega)]
  · rw [if_neg (fun e => h1 ((k_b _ _ _).1 e))]
    by_cases h3 : a.k = 3 ∧ b.k = 3
    · rw [if_neg (by omega), if_pos (show 11 ≤ op by omega), if_pos ((k_b _ _ _).2 h3), ord_s h a b h3.1 h3.2]
    · rw [if_pos (by omega), if_neg (fun e => h3 ((k_b _ _ _).1 e))]
theorem two_add (a b : V) : twoV 9 a b = if (a.k == 3 && b.k == 3) = true then behindG a.s b.s else reckG 9 a b := by
  unfold twoV reckG behindG
  rw [if_neg (by decide), if_neg (by decide), if_neg (by decide), if_neg (by decide)]
  by_cases h3 : a.k = 3 ∧ b.k = 3
  · rw [if_neg (by omega), if_neg (by decide), if_pos h3.1, if_pos ((k_b _ _ _).2 h3)]
  · rw [if_neg (fun e => h3 ((k_b _ _ _).1 e))]
    by_cases h1 : a.k = 1 ∧ b.k = 1
    · rw [if_neg (by omega), if_neg (by decide), if_neg (by omega), if_pos ((k_b _ _ _).2 h1)]
    · rw [if_pos (by omega), if_neg (fun e => h1 ((k_b _ _ _).1 e))]
theorem two_rek {op : Int} (h : op = 6 ∨ op = 7 ∨ op = 8 ∨ op = 10) (a b : V) : twoV op a b = reckG op a b := by
  unfold twoV reckG
  rw [if_neg (by omega), if_neg (by omega), if_neg (by omega), if_neg (by omega)]
  by_cases h1 : a.k = 1 ∧ b.k = 1
  · rw [if_neg (by omega), if_neg (by omega), if_neg (by omega), if_pos ((k_b _ _ _).2 h1)]
  · rw [if_pos (by omega), if_neg (fun e => h1 ((k_b _ _ _).1 e))]

set_option maxRecDepth 100000 in
set_option maxHeartbeats 4000000 in
theorem gTwo17_any (a b : V) (w : World) (ha : okV a) (hb : okV b) : Calls Tryz.prog 27 #[.int .i64 17, a.val, b.val] w (RetG (twoV 17 a b) w) := by
  obtain ⟨ak, an, sa⟩ := a
  obtain ⟨bk, bn, sb⟩ := b
  obtain ⟨X, hX⟩ : ∃ X, twoV 17 ⟨ak, an, sa⟩ ⟨bk, bn, sb⟩ = X := ⟨_, rfl⟩
  have hC : ∀ W, Calls Tryz.prog 56 #[.int .i64 17, .agg #[.int .i64 ak, .int .i64 an, .string sa], .agg #[.int .i64 bk, .int .i64 bn, .string sb]] W (RetG X W) := fun W => by
    rw [← hX, two_and]
    exact gAnd_any _ _ W
  rw [hX]
  obtain ⟨⟨xk, xn, xs⟩, xc⟩ := X
  have HC : Hid (∀ W, Calls Tryz.prog 56 #[.int .i64 17, .agg #[.int .i64 ak, .int .i64 an, .string sa], .agg #[.int .i64 bk, .int .i64 bn, .string sb]] W fun r w' => r = .returned (.tuple #[.agg #[.int .i64 xk, .int .i64 xn, .string xs], .int .i64 xc]) ∧ Below W.heap.size W w') := Lib.hid (fun W => hC W)
  simp only [V.val]
  show Calls _ _ _ _ (fun r w' => r = .returned (.tuple #[.agg #[.int .i64 xk, .int .i64 xn, .string xs], .int .i64 xc]) ∧ Below w.heap.size w w')
  clear hX hC ha hb
  have H3 := Lib.hid (Three.new w ⟨ak, an, sa⟩ ⟨bk, bn, sb⟩)
  go_enter Tryz.func27, Tryz.ntmps27
  go_upto_region 1 with fail
  simp only [three_def]
  obtain ⟨g, hg⟩ : ∃ g, w.heap.size = g := ⟨_, rfl⟩
  rw [hg] at H3
  obtain ⟨w3, hw3⟩ : ∃ y, three w ⟨ak, an, sa⟩ ⟨bk, bn, sb⟩ = y := ⟨_, rfl⟩
  rw [hw3] at H3 ⊢
  simp only [hg]
  clear hw3 hg
  obtain ⟨a0, a1, a2⟩ := H3.out.a.cells
  obtain ⟨b0, b1, b2⟩ := H3.out.b.cells
  simp only at a0 a1 a2 b0 b1 b2
  obtain ⟨r0, r1, r2⟩ := H3.out.r.cells
  have f0 := H3.out.r.frozen 0
  have f1 := H3.out.r.frozen 1
  have f2 := H3.out.r.frozen 2
  go_wp2_with fail
  refine (HC.out _).mono ?_
  rintro r w5 ⟨rfl, hb5⟩
  have H4 := Lib.hid (H3.out.below hb5)
  clear hb5 a0 a1 a2 b0 b1 b2 r0 r1 r2 f0 f1 f2 H3
  have H3 := H4
  clear H4
  obtain ⟨a0, a1, a2⟩ := H3.out.a.cells
  obtain ⟨b0, b1, b2⟩ := H3.out.b.cells
  simp only at a0 a1 a2 b0 b1 b2
  obtain ⟨r0, r1, r2⟩ := H3.out.r.cells
  have f0 := H3.out.r.frozen 0
  have f1 := H3.out.r.frozen 1
  have f2 := H3.out.r.frozen 2
  obtain ⟨t0, t1, t2⟩ := (H3.out.r.set3' (xk) (xn) (xs)).cells
  have HP := Lib.hid (H3.out.put3 (.int .i64 (xk)) (.int .i64 (xn)) (.string (xs)))
  go_wp2
  refine bodyPost_ret (v := .tuple #[.agg #[.int .i64 (xk), .int .i64 (xn), .string (xs)], .int .i64 xc]) (by simp [results, Tryz.results27, go_sem, t0, t1, t2]) rfl ⟨rfl, HP.out⟩
set_option maxRecDepth 100000 in
set_option maxHeartbeats 4000000 in
theorem gTwo18_any (a b : V) (w : World) (ha : okV a) (hb : okV b) : Calls Tryz.prog 27 #[.int .i64 18, a.val, b.val] w (RetG (twoV 18 a b) w) := by
  obtain ⟨ak, an, sa⟩ := a
  obtain ⟨bk, bn, sb⟩ := b
  obtain ⟨X, hX⟩ : ∃ X, twoV 18 ⟨ak, an, sa⟩ ⟨bk, bn, sb⟩ = X := ⟨_, rfl⟩
  have hC : ∀ W, Calls Tryz.prog 56 #[.int .i64 18, .agg #[.int .i64 ak, .int .i64 an, .string sa], .agg #[.int .i64 bk, .int .i64 bn, .string sb]] W (RetG X W) := fun W => by
    rw [← hX, two_or]
    exact gOr_any _ _ W
  rw [hX]
  obtain ⟨⟨xk, xn, xs⟩, xc⟩ := X
  have HC : Hid (∀ W, Calls Tryz.prog 56 #[.int .i64 18, .agg #[.int .i64 ak, .int .i64 an, .string sa], .agg #[.int .i64 bk, .int .i64 bn, .string sb]] W fun r w' => r = .returned (.tuple #[.agg #[.int .i64 xk, .int .i64 xn, .string xs], .int .i64 xc]) ∧ Below W.heap.size W w') := Lib.hid (fun W => hC W)
  simp only [V.val]
  show Calls _ _ _ _ (fun r w' => r = .returned (.tuple #[.agg #[.int .i64 xk, .int .i64 xn, .string xs], .int .i64 xc]) ∧ Below w.heap.size w w')
  clear hX hC ha hb
  have H3 := Lib.hid (Three.new w ⟨ak, an, sa⟩ ⟨bk, bn, sb⟩)
  go_enter Tryz.func27, Tryz.ntmps27
  go_upto_region 1 with fail
  simp only [three_def]
  obtain ⟨g, hg⟩ : ∃ g, w.heap.size = g := ⟨_, rfl⟩
  rw [hg] at H3
  obtain ⟨w3, hw3⟩ : ∃ y, three w ⟨ak, an, sa⟩ ⟨bk, bn, sb⟩ = y := ⟨_, rfl⟩
  rw [hw3] at H3 ⊢
  simp only [hg]
  clear hw3 hg
  obtain ⟨a0, a1, a2⟩ := H3.out.a.cells
  obtain ⟨b0, b1, b2⟩ := H3.out.b.cells
  simp only at a0 a1 a2 b0 b1 b2
  obtain ⟨r0, r1, r2⟩ := H3.out.r.cells
  have f0 := H3.out.r.frozen 0
  have f1 := H3.out.r.frozen 1
  have f2 := H3.out.r.frozen 2
  go_wp2_with fail
  refine (HC.out _).mono ?_
  rintro r w5 ⟨rfl, hb5⟩
  have H4 := Lib.hid (H3.out.below hb5)
  clear hb5 a0 a1 a2 b0 b1 b2 r0 r1 r2 f0 f1 f2 H3
  have H3 := H4
  clear H4
  obtain ⟨a0, a1, a2⟩ := H3.out.a.cells
  obtain ⟨b0, b1, b2⟩ := H3.out.b.cells
  simp only at a0 a1 a2 b0 b1 b2
  obtain ⟨r0, r1, r2⟩ := H3.out.r.cells
  have f0 := H3.out.r.frozen 0
  have f1 := H3.out.r.frozen 1
  have f2 := H3.out.r.frozen 2
  obtain ⟨t0, t1, t2⟩ := (H3.out.r.set3' (xk) (xn) (xs)).cells
  have HP := Lib.hid (H3.out.put3 (.int .i64 (xk)) (.int .i64 (xn)) (.string (xs)))
  go_wp2
  refine bodyPost_ret (v := .tuple #[.agg #[.int .i64 (xk), .int .i64 (xn), .string (xs)], .int .i64 xc]) (by simp [results, Tryz.results27, go_sem, t0, t1, t2]) rfl ⟨rfl, HP.out⟩
set_option maxRecDepth 100000 in
set_option maxHeartbeats 4000000 in
theorem gTwo11_any (a b : V) (w : World) (ha : okV a) (hb : okV b) : Calls Tryz.prog 27 #[.int .i64 11, a.val, b.val] w (RetG (twoV 11 a b) w) := by
  obtain ⟨ak, an, sa⟩ := a
  obtain ⟨bk, bn, sb⟩ := b
  obtain ⟨X, hX⟩ : ∃ X, twoV 11 ⟨ak, an, sa⟩ ⟨bk, bn, sb⟩ = X := ⟨_, rfl⟩
  have hC : ∀ W, Calls Tryz.prog 58 #[.int .i64 11, .agg #[.int .i64 ak, .int .i64 an, .string sa], .agg #[.int .i64 bk, .int .i64 bn, .string sb]] W (RetG X W) := fun W => by
    rw [← hX, two_ord (by decide)]
    exact gOrd11_any _ _ W
  rw [hX]
  obtain ⟨⟨xk, xn, xs⟩, xc⟩ := X
  have HC : Hid (∀ W, Calls Tryz.prog 58 #[.int .i64 11, .agg #[.int .i64 ak, .int .i64 an, .string sa], .agg #[.int .i64 bk, .int .i64 bn, .string sb]] W fun r w' => r = .returned (.tuple #[.agg #[.int .i64 xk, .int .i64 xn, .string xs], .int .i64 xc]) ∧ Below W.heap.size W w') := Lib.hid (fun W => hC W)
  simp only [V.val]
  show Calls _ _ _ _ (fun r w' => r = .returned (.tuple #[.agg #[.int .i64 xk, .int .i64 xn, .string xs], .int .i64 xc]) ∧ Below w.heap.size w w')
  clear hX hC ha hb
  have H3 := Lib.hid (Three.new w ⟨ak, an, sa⟩ ⟨bk, bn, sb⟩)
  go_enter Tryz.func27, Tryz.ntmps27
  go_upto_region 1 with fail
  simp only [three_def]
  obtain ⟨g, hg⟩ : ∃ g, w.heap.size = g := ⟨_, rfl⟩
  rw [hg] at H3
  obtain ⟨w3, hw3⟩ : ∃ y, three w ⟨ak, an, sa⟩ ⟨bk, bn, sb⟩ = y := ⟨_, rfl⟩
  rw [hw3] at H3 ⊢
  simp only [hg]
  clear hw3 hg
  obtain ⟨a0, a1, a2⟩ := H3.out.a.cells
  obtain ⟨b0, b1, b2⟩ := H3.out.b.cells
  simp only at a0 a1 a2 b0 b1 b2
  obtain ⟨r0, r1, r2⟩ := H3.out.r.cells
  have f0 := H3.out.r.frozen 0
  have f1 := H3.out.r.frozen 1
  have f2 := H3.out.r.frozen 2
  go_wp2_with fail
  refine (HC.out _).mono ?_
  rintro r w5 ⟨rfl, hb5⟩
  have H4 := Lib.hid (H3.out.below hb5)
  clear hb5 a0 a1 a2 b0 b1 b2 r0 r1 r2 f0 f1 f2 H3
  have H3 := H4
  clear H4
  obtain ⟨a0, a1, a2⟩ := H3.out.a.cells
  obtain ⟨b0, b1, b2⟩ := H3.out.b.cells
  simp only at a0 a1 a2 b0 b1 b2
  obtain ⟨r0, r1, r2⟩ := H3.out.r.cells
  have f0 := H3.out.r.frozen 0
  have f1 := H3.out.r.frozen 1
  have f2 := H3.out.r.frozen 2
  obtain ⟨t0, t1, t2⟩ := (H3.out.r.set3' (xk) (xn) (xs)).cells
  have HP := Lib.hid (H3.out.put3 (.int .i64 (xk)) (.int .i64 (xn)) (.string (xs)))
  go_wp2
  refine bodyPost_ret (v := .tuple #[.agg #[.int .i64 (xk), .int .i64 (xn), .string (xs)], .int .i64 xc]) (by simp [results, Tryz.results27, go_sem, t0, t1, t2]) rfl ⟨rfl, HP.out⟩
set_option maxRecDepth 100000 in
set_option maxHeartbeats 4000000 in
theorem gTwo12_any (a b : V) (w : World) (ha : okV a) (hb : okV b) : Calls Tryz.prog 27 #[.int .i64 12, a.val, b.val] w (RetG (twoV 12 a b) w) := by
  obtain ⟨ak, an, sa⟩ := a
  obtain ⟨bk, bn, sb⟩ := b
  obtain ⟨X, hX⟩ : ∃ X, twoV 12 ⟨ak, an, sa⟩ ⟨bk, bn, sb⟩ = X := ⟨_, rfl⟩
  have hC : ∀ W, Calls Tryz.prog 58 #[.int .i64 12, .agg #[.int .i64 ak, .int .i64 an, .string sa], .agg #[.int .i64 bk, .int .i64 bn, .string sb]] W (RetG X W) := fun W => by
    rw [← hX, two_ord (by decide)]
    exact gOrd12_any _ _ W
  rw [hX]
  obtain ⟨⟨xk, xn, xs⟩, xc⟩ := X
  have HC : Hid (∀ W, Calls Tryz.prog 58 #[.int .i64 12, .agg #[.int .i64 ak, .int .i64 an, .string sa], .agg #[.int .i64 bk, .int .i64 bn, .string sb]] W fun r w' => r = .returned (.tuple #[.agg #[.int .i64 xk, .int .i64 xn, .string xs], .int .i64 xc]) ∧ Below W.heap.size W w') := Lib.hid (fun W => hC W)
  simp only [V.val]
  show Calls _ _ _ _ (fun r w' => r = .returned (.tuple #[.agg #[.int .i64 xk, .int .i64 xn, .string xs], .int .i64 xc]) ∧ Below w.heap.size w w')
  clear hX hC ha hb
  have H3 := Lib.hid (Three.new w ⟨ak, an, sa⟩ ⟨bk, bn, sb⟩)
  go_enter Tryz.func27, Tryz.ntmps27
  go_upto_region 1 with fail
  simp only [three_def]
  obtain ⟨g, hg⟩ : ∃ g, w.heap.size = g := ⟨_, rfl⟩
  rw [hg] at H3
  obtain ⟨w3, hw3⟩ : ∃ y, three w ⟨ak, an, sa⟩ ⟨bk, bn, sb⟩ = y := ⟨_, rfl⟩
  rw [hw3] at H3 ⊢
  simp only [hg]
  clear hw3 hg
  obtain ⟨a0, a1, a2⟩ := H3.out.a.cells
  obtain ⟨b0, b1, b2⟩ := H3.out.b.cells
  simp only at a0 a1 a2 b0 b1 b2
  obtain ⟨r0, r1, r2⟩ := H3.out.r.cells
  have f0 := H3.out.r.frozen 0
  have f1 := H3.out.r.frozen 1
  have f2 := H3.out.r.frozen 2
  go_wp2_with fail
  refine (HC.out _).mono ?_
  rintro r w5 ⟨rfl, hb5⟩
  have H4 := Lib.hid (H3.out.below hb5)
  clear hb5 a0 a1 a2 b0 b1 b2 r0 r1 r2 f0 f1 f2 H3
  have H3 := H4
  clear H4
  obtain ⟨a0, a1, a2⟩ := H3.out.a.cells
  obtain ⟨b0, b1, b2⟩ := H3.out.b.cells
  simp only at a0 a1 a2 b0 b1 b2
  obtain ⟨r0, r1, r2⟩ := H3.out.r.cells
  have f0 := H3.out.r.frozen 0
  have f1 := H3.out.r.frozen 1
  have f2 := H3.out.r.frozen 2
  obtain ⟨t0, t1, t2⟩ := (H3.out.r.set3' (xk) (xn) (xs)).cells
  have HP := Lib.hid (H3.out.put3 (.int .i64 (xk)) (.int .i64 (xn)) (.string (xs)))
  go_wp2
  refine bodyPost_ret (v := .tuple #[.agg #[.int .i64 (xk), .int .i64 (xn), .string (xs)], .int .i64 xc]) (by simp [results, Tryz.results27, go_sem, t0, t1, t2]) rfl ⟨rfl, HP.out⟩
set_option maxRecDepth 100000 in
set_option maxHeartbeats 4000000 in
theorem gTwo13_any (a b : V) (w : World) (ha : okV a) (hb : okV b) : Calls Tryz.prog 27 #[.int .i64 13, a.val, b.val] w (RetG (twoV 13 a b) w) := by
  obtain ⟨ak, an, sa⟩ := a
  obtain ⟨bk, bn, sb⟩ := b
  obtain ⟨X, hX⟩ : ∃ X, twoV 13 ⟨ak, an, sa⟩ ⟨bk, bn, sb⟩ = X := ⟨_, rfl⟩
  have hC : ∀ W, Calls Tryz.prog 58 #[.int .i64 13, .agg #[.int .i64 ak, .int .i64 an, .string sa], .agg #[.int .i64 bk, .int .i64 bn, .string sb]] W (RetG X W) := fun W => by
    rw [← hX, two_ord (by decide)]
    exact gOrd13_any _ _ W
  rw [hX]
  obtain ⟨⟨xk, xn, xs⟩, xc⟩ := X
  have HC : Hid (∀ W, Calls Tryz.prog 58 #[.int .i64 13, .agg #[.int .i64 ak, .int .i64 an, .string sa], .agg #[.int .i64 bk, .int .i64 bn, .string sb]] W fun r w' => r = .returned (.tuple #[.agg #[.int .i64 xk, .int .i64 xn, .string xs], .int .i64 xc]) ∧ Below W.heap.size W w') := Lib.hid (fun W => hC W)
  simp only [V.val]
  show Calls _ _ _ _ (fun r w' => r = .returned (.tuple #[.agg #[.int .i64 xk, .int .i64 xn, .string xs], .int .i64 xc]) ∧ Below w.heap.size w w')
  clear hX hC ha hb
  have H3 := Lib.hid (Three.new w ⟨ak, an, sa⟩ ⟨bk, bn, sb⟩)
  go_enter Tryz.func27, Tryz.ntmps27
  go_upto_region 1 with fail
  simp only [three_def]
  obtain ⟨g, hg⟩ : ∃ g, w.heap.size = g := ⟨_, rfl⟩
  rw [hg] at H3
  obtain ⟨w3, hw3⟩ : ∃ y, three w ⟨ak, an, sa⟩ ⟨bk, bn, sb⟩ = y := ⟨_, rfl⟩
  rw [hw3] at H3 ⊢
  simp only [hg]
  clear hw3 hg
  obtain ⟨a0, a1, a2⟩ := H3.out.a.cells
  obtain ⟨b0, b1, b2⟩ := H3.out.b.cells
  simp only at a0 a1 a2 b0 b1 b2
  obtain ⟨r0, r1, r2⟩ := H3.out.r.cells
  have f0 := H3.out.r.frozen 0
  have f1 := H3.out.r.frozen 1
  have f2 := H3.out.r.frozen 2
  go_wp2_with fail
  refine (HC.out _).mono ?_
  rintro r w5 ⟨rfl, hb5⟩
  have H4 := Lib.hid (H3.out.below hb5)
  clear hb5 a0 a1 a2 b0 b1 b2 r0 r1 r2 f0 f1 f2 H3
  have H3 := H4
  clear H4
  obtain ⟨a0, a1, a2⟩ := H3.out.a.cells
  obtain ⟨b0, b1, b2⟩ := H3.out.b.cells
  simp only at a0 a1 a2 b0 b1 b2
  obtain ⟨r0, r1, r2⟩ := H3.out.r.cells
  have f0 := H3.out.r.frozen 0
  have f1 := H3.out.r.frozen 1
  have f2 := H3.out.r.frozen 2
  obtain ⟨t0, t1, t2⟩ := (H3.out.r.set3' (xk) (xn) (xs)).cells
  have HP := Lib.hid (H3.out.put3 (.int .i64 (xk)) (.int .i64 (xn)) (.string (xs)))
  go_wp2
  refine bodyPost_ret (v := .tuple #[.agg #[.int .i64 (xk), .int .i64 (xn), .string (xs)], .int .i64 xc]) (by simp [results, Tryz.results27, go_sem, t0, t1, t2]) rfl ⟨rfl, HP.out⟩
set_option maxRecDepth 100000 in
set_option maxHeartbeats 4000000 in
theorem gTwo14_any (a b : V) (w : World) (ha : okV a) (hb : okV b) : Calls Tryz.prog 27 #[.int .i64 14, a.val, b.val] w (RetG (twoV 14 a b) w) := by
  obtain ⟨ak, an, sa⟩ := a
  obtain ⟨bk, bn, sb⟩ := b
  obtain ⟨X, hX⟩ : ∃ X, twoV 14 ⟨ak, an, sa⟩ ⟨bk, bn, sb⟩ = X := ⟨_, rfl⟩
  have hC : ∀ W, Calls Tryz.prog 58 #[.int .i64 14, .agg #[.int .i64 ak, .int .i64 an, .string sa], .agg #[.int .i64 bk, .int .i64 bn, .string sb]] W (RetG X W) := fun W => by
    rw [← hX, two_ord (by decide)]
    exact gOrd14_any _ _ W
  rw [hX]
  obtain ⟨⟨xk, xn, xs⟩, xc⟩ := X
  have HC : Hid (∀ W, Calls Tryz.prog 58 #[.int .i64 14, .agg #[.int .i64 ak, .int .i64 an, .string sa], .agg #[.int .i64 bk, .int .i64 bn, .string sb]] W fun r w' => r = .returned (.tuple #[.agg #[.int .i64 xk, .int .i64 xn, .string xs], .int .i64 xc]) ∧ Below W.heap.size W w') := Lib.hid (fun W => hC W)
  simp only [V.val]
  show Calls _ _ _ _ (fun r w' => r = .returned (.tuple #[.agg #[.int .i64 xk, .int .i64 xn, .string xs], .int .i64 xc]) ∧ Below w.heap.size w w')
  clear hX hC ha hb
  have H3 := Lib.hid (Three.new w ⟨ak, an, sa⟩ ⟨bk, bn, sb⟩)
  go_enter Tryz.func27, Tryz.ntmps27
  go_upto_region 1 with fail
  simp only [three_def]
  obtain ⟨g, hg⟩ : ∃ g, w.heap.size = g := ⟨_, rfl⟩
  rw [hg] at H3
  obtain ⟨w3, hw3⟩ : ∃ y, three w ⟨ak, an, sa⟩ ⟨bk, bn, sb⟩ = y := ⟨_, rfl⟩
  rw [hw3] at H3 ⊢
  simp only [hg]
  clear hw3 hg
  obtain ⟨a0, a1, a2⟩ := H3.out.a.cells
  obtain ⟨b0, b1, b2⟩ := H3.out.b.cells
  simp only at a0 a1 a2 b0 b1 b2
  obtain ⟨r0, r1, r2⟩ := H3.out.r.cells
  have f0 := H3.out.r.frozen 0
  have f1 := H3.out.r.frozen 1
  have f2 := H3.out.r.frozen 2
  go_wp2_with fail
  refine (HC.out _).mono ?_
  rintro r w5 ⟨rfl, hb5⟩
  have H4 := Lib.hid (H3.out.below hb5)
  clear hb5 a0 a1 a2 b0 b1 b2 r0 r1 r2 f0 f1 f2 H3
  have H3 := H4
  clear H4
  obtain ⟨a0, a1, a2⟩ := H3.out.a.cells
  obtain ⟨b0, b1, b2⟩ := H3.out.b.cells
  simp only at a0 a1 a2 b0 b1 b2
  obtain ⟨r0, r1, r2⟩ := H3.out.r.cells
  have f0 := H3.out.r.frozen 0
  have f1 := H3.out.r.frozen 1
  have f2 := H3.out.r.frozen 2
  obtain ⟨t0, t1, t2⟩ := (H3.out.r.set3' (xk) (xn) (xs)).cells
  have HP := Lib.hid (H3.out.put3 (.int .i64 (xk)) (.int .i64 (xn)) (.string (xs)))
  go_wp2
  refine bodyPost_ret (v := .tuple #[.agg #[.int .i64 (xk), .int .i64 (xn), .string (xs)], .int .i64 xc]) (by simp [results, Tryz.results27, go_sem, t0, t1, t2]) rfl ⟨rfl, HP.out⟩
set_option maxRecDepth 100000 in
set_option maxHeartbeats 4000000 in
theorem gTwo6_any (a b : V) (w : World) (ha : okV a) (hb : okV b) : Calls Tryz.prog 27 #[.int .i64 6, a.val, b.val] w (RetG (twoV 6 a b) w) := by
  obtain ⟨ak, an, sa⟩ := a
  obtain ⟨bk, bn, sb⟩ := b
  obtain ⟨X, hX⟩ : ∃ X, twoV 6 ⟨ak, an, sa⟩ ⟨bk, bn, sb⟩ = X := ⟨_, rfl⟩
  have hC : ∀ W, Calls Tryz.prog 60 #[.int .i64 6, .agg #[.int .i64 ak, .int .i64 an, .string sa], .agg #[.int .i64 bk, .int .i64 bn, .string sb]] W (RetG X W) := fun W => by
    rw [← hX, two_rek (by decide)]
    exact gMul_any _ _ W ha.1 hb.1
  rw [hX]
  obtain ⟨⟨xk, xn, xs⟩, xc⟩ := X
  have HC : Hid (∀ W, Calls Tryz.prog 60 #[.int .i64 6, .agg #[.int .i64 ak, .int .i64 an, .string sa], .agg #[.int .i64 bk, .int .i64 bn, .string sb]] W fun r w' => r = .returned (.tuple #[.agg #[.int .i64 xk, .int .i64 xn, .string xs], .int .i64 xc]) ∧ Below W.heap.size W w') := Lib.hid (fun W => hC W)
  simp only [V.val]
  show Calls _ _ _ _ (fun r w' => r = .returned (.tuple #[.agg #[.int .i64 xk, .int .i64 xn, .string xs], .int .i64 xc]) ∧ Below w.heap.size w w')
  clear hX hC ha hb
  have H3 := Lib.hid (Three.new w ⟨ak, an, sa⟩ ⟨bk, bn, sb⟩)
  go_enter Tryz.func27, Tryz.ntmps27
  go_upto_region 1 with fail
  simp only [three_def]
  obtain ⟨g, hg⟩ : ∃ g, w.heap.size = g := ⟨_, rfl⟩
  rw [hg] at H3
  obtain ⟨w3, hw3⟩ : ∃ y, three w ⟨ak, an, sa⟩ ⟨bk, bn, sb⟩ = y := ⟨_, rfl⟩
  rw [hw3] at H3 ⊢
  simp only [hg]
  clear hw3 hg
  obtain ⟨a0, a1, a2⟩ := H3.out.a.cells
  obtain ⟨b0, b1, b2⟩ := H3.out.b.cells
  simp only at a0 a1 a2 b0 b1 b2
  obtain ⟨r0, r1, r2⟩ := H3.out.r.cells
  have f0 := H3.out.r.frozen 0
  have f1 := H3.out.r.frozen 1
  have f2 := H3.out.r.frozen 2
  go_wp2_with fail
  refine (HC.out _).mono ?_
  rintro r w5 ⟨rfl, hb5⟩
  have H4 := Lib.hid (H3.out.below hb5)
  clear hb5 a0 a1 a2 b0 b1 b2 r0 r1 r2 f0 f1 f2 H3
  have H3 := H4
  clear H4
  obtain ⟨a0, a1, a2⟩ := H3.out.a.cells
  obtain ⟨b0, b1, b2⟩ := H3.out.b.cells
  simp only at a0 a1 a2 b0 b1 b2
  obtain ⟨r0, r1, r2⟩ := H3.out.r.cells
  have f0 := H3.out.r.frozen 0
  have f1 := H3.out.r.frozen 1
  have f2 := H3.out.r.frozen 2
  obtain ⟨t0, t1, t2⟩ := (H3.out.r.set3' (xk) (xn) (xs)).cells
  have HP := Lib.hid (H3.out.put3 (.int .i64 (xk)) (.int .i64 (xn)) (.string (xs)))
  go_wp2
  refine bodyPost_ret (v := .tuple #[.agg #[.int .i64 (xk), .int .i64 (xn), .string (xs)], .int .i64 xc]) (by simp [results, Tryz.results27, go_sem, t0, t1, t2]) rfl ⟨rfl, HP.out⟩
set_option maxRecDepth 100000 in
set_option maxHeartbeats 4000000 in
theorem gTwo7_any (a b : V) (w : World) (ha : okV a) (hb : okV b) : Calls Tryz.prog 27 #[.int .i64 7, a.val, b.val] w (RetG (twoV 7 a b) w) := by
  obtain ⟨ak, an, sa⟩ := a
  obtain ⟨bk, bn, sb⟩ := b
  obtain ⟨X, hX⟩ : ∃ X, twoV 7 ⟨ak, an, sa⟩ ⟨bk, bn, sb⟩ = X := ⟨_, rfl⟩
  have hC : ∀ W, Calls Tryz.prog 60 #[.int .i64 7, .agg #[.int .i64 ak, .int .i64 an, .string sa], .agg #[.int .i64 bk, .int .i64 bn, .string sb]] W (RetG X W) := fun W => by
    rw [← hX, two_rek (by decide)]
    exact gDiv_any _ _ W ha.1 hb.1
  rw [hX]
  obtain ⟨⟨xk, xn, xs⟩, xc⟩ := X
  have HC : Hid (∀ W, Calls Tryz.prog 60 #[.int .i64 7, .agg #[.int .i64 ak, .int .i64 an, .string sa], .agg #[.int .i64 bk, .int .i64 bn, .string sb]] W fun r w' => r = .returned (.tuple #[.agg #[.int .i64 xk, .int .i64 xn, .string xs], .int .i64 xc]) ∧ Below W.heap.size W w') := Lib.hid (fun W => hC W)
  simp only [V.val]
  show Calls _ _ _ _ (fun r w' => r = .returned (.tuple #[.agg #[.int .i64 xk, .int .i64 xn, .string xs], .int .i64 xc]) ∧ Below w.heap.size w w')
  clear hX hC ha hb
  have H3 := Lib.hid (Three.new w ⟨ak, an, sa⟩ ⟨bk, bn, sb⟩)
  go_enter Tryz.func27, Tryz.ntmps27
  go_upto_region 1 with fail
  simp only [three_def]
  obtain ⟨g, hg⟩ : ∃ g, w.heap.size = g := ⟨_, rfl⟩
  rw [hg] at H3
  obtain ⟨w3, hw3⟩ : ∃ y, three w ⟨ak, an, sa⟩ ⟨bk, bn, sb⟩ = y := ⟨_, rfl⟩
  rw [hw3] at H3 ⊢
  simp only [hg]
  clear hw3 hg
  obtain ⟨a0, a1, a2⟩ := H3.out.a.cells
  obtain ⟨b0, b1, b2⟩ := H3.out.b.cells
  simp only at a0 a1 a2 b0 b1 b2
  obtain ⟨r0, r1, r2⟩ := H3.out.r.cells
  have f0 := H3.out.r.frozen 0
  have f1 := H3.out.r.frozen 1
  have f2 := H3.out.r.frozen 2
  go_wp2_with fail
  refine (HC.out _).mono ?_
  rintro r w5 ⟨rfl, hb5⟩
  have H4 := Lib.hid (H3.out.below hb5)
  clear hb5 a0 a1 a2 b0 b1 b2 r0 r1 r2 f0 f1 f2 H3
  have H3 := H4
  clear H4
  obtain ⟨a0, a1, a2⟩ := H3.out.a.cells
  obtain ⟨b0, b1, b2⟩ := H3.out.b.cells
  simp only at a0 a1 a2 b0 b1 b2
  obtain ⟨r0, r1, r2⟩ := H3.out.r.cells
  have f0 := H3.out.r.frozen 0
  have f1 := H3.out.r.frozen 1
  have f2 := H3.out.r.frozen 2
  obtain ⟨t0, t1, t2⟩ := (H3.out.r.set3' (xk) (xn) (xs)).cells
  have HP := Lib.hid (H3.out.put3 (.int .i64 (xk)) (.int .i64 (xn)) (.string (xs)))
  go_wp2
  refine bodyPost_ret (v := .tuple #[.agg #[.int .i64 (xk), .int .i64 (xn), .string (xs)], .int .i64 xc]) (by simp [results, Tryz.results27, go_sem, t0, t1, t2]) rfl ⟨rfl, HP.out⟩
set_option maxRecDepth 100000 in
set_option maxHeartbeats 4000000 in
theorem gTwo8_any (a b : V) (w : World) (ha : okV a) (hb : okV b) : Calls Tryz.prog 27 #[.int .i64 8, a.val, b.val] w (RetG (twoV 8 a b) w) := by
  obtain ⟨ak, an, sa⟩ := a
  obtain ⟨bk, bn, sb⟩ := b
  obtain ⟨X, hX⟩ : ∃ X, twoV 8 ⟨ak, an, sa⟩ ⟨bk, bn, sb⟩ = X := ⟨_, rfl⟩
  have hC : ∀ W, Calls Tryz.prog 60 #[.int .i64 8, .agg #[.int .i64 ak, .int .i64 an, .string sa], .agg #[.int .i64 bk, .int .i64 bn, .string sb]] W (RetG X W) := fun W => by
    rw [← hX, two_rek (by decide)]
    exact gMod_any _ _ W ha.1 hb.1
  rw [hX]
  obtain ⟨⟨xk, xn, xs⟩, xc⟩ := X
  have HC : Hid (∀ W, Calls Tryz.prog 60 #[.int .i64 8, .agg #[.int .i64 ak, .int .i64 an, .string sa], .agg #[.int .i64 bk, .int .i64 bn, .string sb]] W fun r w' => r = .returned (.tuple #[.agg #[.int .i64 xk, .int .i64 xn, .string xs], .int .i64 xc]) ∧ Below W.heap.size W w') := Lib.hid (fun W => hC W)
  simp only [V.val]
  show Calls _ _ _ _ (fun r w' => r = .returned (.tuple #[.agg #[.int .i64 xk, .int .i64 xn, .string xs], .int .i64 xc]) ∧ Below w.heap.size w w')
  clear hX hC ha hb
  have H3 := Lib.hid (Three.new w ⟨ak, an, sa⟩ ⟨bk, bn, sb⟩)
  go_enter Tryz.func27, Tryz.ntmps27
  go_upto_region 1 with fail
  simp only [three_def]
  obtain ⟨g, hg⟩ : ∃ g, w.heap.size = g := ⟨_, rfl⟩
  rw [hg] at H3
  obtain ⟨w3, hw3⟩ : ∃ y, three w ⟨ak, an, sa⟩ ⟨bk, bn, sb⟩ = y := ⟨_, rfl⟩
  rw [hw3] at H3 ⊢
  simp only [hg]
  clear hw3 hg
  obtain ⟨a0, a1, a2⟩ := H3.out.a.cells
  obtain ⟨b0, b1, b2⟩ := H3.out.b.cells
  simp only at a0 a1 a2 b0 b1 b2
  obtain ⟨r0, r1, r2⟩ := H3.out.r.cells
  have f0 := H3.out.r.frozen 0
  have f1 := H3.out.r.frozen 1
  have f2 := H3.out.r.frozen 2
  go_wp2_with fail
  refine (HC.out _).mono ?_
  rintro r w5 ⟨rfl, hb5⟩
  have H4 := Lib.hid (H3.out.below hb5)
  clear hb5 a0 a1 a2 b0 b1 b2 r0 r1 r2 f0 f1 f2 H3
  have H3 := H4
  clear H4
  obtain ⟨a0, a1, a2⟩ := H3.out.a.cells
  obtain ⟨b0, b1, b2⟩ := H3.out.b.cells
  simp only at a0 a1 a2 b0 b1 b2
  obtain ⟨r0, r1, r2⟩ := H3.out.r.cells
  have f0 := H3.out.r.frozen 0
  have f1 := H3.out.r.frozen 1
  have f2 := H3.out.r.frozen 2
  obtain ⟨t0, t1, t2⟩ := (H3.out.r.set3' (xk) (xn) (xs)).cells
  have HP := Lib.hid (H3.out.put3 (.int .i64 (xk)) (.int .i64 (xn)) (.string (xs)))
  go_wp2
  refine bodyPost_ret (v := .tuple #[.agg #[.int .i64 (xk), .int .i64 (xn), .string (xs)], .int .i64 xc]) (by simp [results, Tryz.results27, go_sem, t0, t1, t2]) rfl ⟨rfl, HP.out⟩
set_option maxRecDepth 100000 in
set_option maxHeartbeats 4000000 in
theorem gTwo10_any (a b : V) (w : World) (ha : okV a) (hb : okV b) : Calls Tryz.prog 27 #[.int .i64 10, a.val, b.val] w (RetG (twoV 10 a b) w) := by
  obtain ⟨ak, an, sa⟩ := a
  obtain ⟨bk, bn, sb⟩ := b
  obtain ⟨X, hX⟩ : ∃ X, twoV 10 ⟨ak, an, sa⟩ ⟨bk, bn, sb⟩ = X := ⟨_, rfl⟩
  have hC : ∀ W, Calls Tryz.prog 60 #[.int .i64 10, .agg #[.int .i64 ak, .int .i64 an, .string sa], .agg #[.int .i64 bk, .int .i64 bn, .string sb]] W (RetG X W) := fun W => by
    rw [← hX, two_rek (by decide)]
    exact gSub_any _ _ W ha.1 hb.1
  rw [hX]
  obtain ⟨⟨xk, xn, xs⟩, xc⟩ := X
  have HC : Hid (∀ W, Calls Tryz.prog 60 #[.int .i64 10, .agg #[.int .i64 ak, .int .i64 an, .string sa], .agg #[.int .i64 bk, .int .i64 bn, .string sb]] W fun r w' => r = .returned (.tuple #[.agg #[.int .i64 xk, .int .i64 xn, .string xs], .int .i64 xc]) ∧ Below W.heap.size W w') := Lib.hid (fun W => hC W)
  simp only [V.val]
  show Calls _ _ _ _ (fun r w' => r = .returned (.tuple #[.agg #[.int .i64 xk, .int .i64 xn, .string xs], .int .i64 xc]) ∧ Below w.heap.size w w')
  clear hX hC ha hb
  have H3 := Lib.hid (Three.new w ⟨ak, an, sa⟩ ⟨bk, bn, sb⟩)
  go_enter Tryz.func27, Tryz.ntmps27
  go_upto_region 1 with fail
  simp only [three_def]
  obtain ⟨g, hg⟩ : ∃ g, w.heap.size = g := ⟨_, rfl⟩
  rw [hg] at H3
  obtain ⟨w3, hw3⟩ : ∃ y, three w ⟨ak, an, sa⟩ ⟨bk, bn, sb⟩ = y := ⟨_, rfl⟩
  rw [hw3] at H3 ⊢
  simp only [hg]
  clear hw3 hg
  obtain ⟨a0, a1, a2⟩ := H3.out.a.cells
  obtain ⟨b0, b1, b2⟩ := H3.out.b.cells
  simp only at a0 a1 a2 b0 b1 b2
  obtain ⟨r0, r1, r2⟩ := H3.out.r.cells
  have f0 := H3.out.r.frozen 0
  have f1 := H3.out.r.frozen 1
  have f2 := H3.out.r.frozen 2
  go_wp2_with fail
  refine (HC.out _).mono ?_
  rintro r w5 ⟨rfl, hb5⟩
  have H4 := Lib.hid (H3.out.below hb5)
  clear hb5 a0 a1 a2 b0 b1 b2 r0 r1 r2 f0 f1 f2 H3
  have H3 := H4
  clear H4
  obtain ⟨a0, a1, a2⟩ := H3.out.a.cells
  obtain ⟨b0, b1, b2⟩ := H3.out.b.cells
  simp only at a0 a1 a2 b0 b1 b2
  obtain ⟨r0, r1, r2⟩ := H3.out.r.cells
  have f0 := H3.out.r.frozen 0
  have f1 := H3.out.r.frozen 1
  have f2 := H3.out.r.frozen 2
  obtain ⟨t0, t1, t2⟩ := (H3.out.r.set3' (xk) (xn) (xs)).cells
  have HP := Lib.hid (H3.out.put3 (.int .i64 (xk)) (.int .i64 (xn)) (.string (xs)))
  go_wp2
  refine bodyPost_ret (v := .tuple #[.agg #[.int .i64 (xk), .int .i64 (xn), .string (xs)], .int .i64 xc]) (by simp [results, Tryz.results27, go_sem, t0, t1, t2]) rfl ⟨rfl, HP.out⟩
set_option maxRecDepth 100000 in
set_option maxHeartbeats 4000000 in
theorem gTwo9_any (a b : V) (w : World) (ha : okV a) (hb : okV b) : Calls Tryz.prog 27 #[.int .i64 9, a.val, b.val] w (RetG (twoV 9 a b) w) := by
  obtain ⟨ak, an, sa⟩ := a
  obtain ⟨bk, bn, sb⟩ := b
  obtain ⟨X, hX⟩ : ∃ X, twoV 9 ⟨ak, an, sa⟩ ⟨bk, bn, sb⟩ = X := ⟨_, rfl⟩
  have hC3 : (ak == 3 && bk == 3) = true → ∀ W, Calls Tryz.prog 59 #[.string sa, .string sb] W (RetG X W) := fun e W => by
    rw [← hX, two_add, if_pos e]
    exact gBehind_any _ _ W ha.2 hb.2
  have hC1 : (ak == 3 && bk == 3) = false → ∀ W, Calls Tryz.prog 60 #[.int .i64 9, .agg #[.int .i64 ak, .int .i64 an, .string sa], .agg #[.int .i64 bk, .int .i64 bn, .string sb]] W (RetG X W) := fun e W => by
    rw [← hX, two_add, if_neg (by simp only; rw [e]; decide)]
    exact gAdd_any _ _ W ha.1 hb.1
  have HQ := Lib.hid (fun g c W => gAre_two 3 ⟨ak, an, sa⟩ ⟨bk, bn, sb⟩ g c W)
  rw [hX]
  obtain ⟨⟨xk, xn, xs⟩, xc⟩ := X
  simp only [V.val] at HQ ⊢
  obtain ⟨q, hq⟩ : ∃ q, (ak == 3 && bk == 3) = q := ⟨_, rfl⟩
  rw [hq] at HQ hC3 hC1
  have HC3 := Lib.hid hC3
  have HC1 := Lib.hid hC1
  show Calls _ _ _ _ (fun r w' => r = .returned (.tuple #[.agg #[.int .i64 xk, .int .i64 xn, .string xs], .int .i64 xc]) ∧ Below w.heap.size w w')
  clear hX hC3 hC1 ha hb hq
  have H3 := Lib.hid (Three.new w ⟨ak, an, sa⟩ ⟨bk, bn, sb⟩)
  go_enter Tryz.func27, Tryz.ntmps27
  go_upto_region 1 with fail
  simp only [three_def]
  obtain ⟨g, hg⟩ : ∃ g, w.heap.size = g := ⟨_, rfl⟩
  rw [hg] at H3
  obtain ⟨w3, hw3⟩ : ∃ y, three w ⟨ak, an, sa⟩ ⟨bk, bn, sb⟩ = y := ⟨_, rfl⟩
  rw [hw3] at H3 ⊢
  simp only [hg]
  clear hw3 hg
  obtain ⟨a0, a1, a2⟩ := H3.out.a.cells
  obtain ⟨b0, b1, b2⟩ := H3.out.b.cells
  simp only at a0 a1 a2 b0 b1 b2
  obtain ⟨r0, r1, r2⟩ := H3.out.r.cells
  have f0 := H3.out.r.frozen 0
  have f1 := H3.out.r.frozen 1
  have f2 := H3.out.r.frozen 2
  go_wp2_with fail
  refine (HQ.out _ _ _ (by simp) (by simp) (by simp) (by simp) (by simp) (by simp)).mono ?_
  rintro r w4 ⟨rfl, hb4⟩
  have H4 := Lib.hid ((H3.out.alloc _).below hb4)
  clear hb4 a0 a1 a2 b0 b1 b2 r0 r1 r2 f0 f1 f2 H3
  have H3 := H4
  clear H4
  obtain ⟨a0, a1, a2⟩ := H3.out.a.cells
  obtain ⟨b0, b1, b2⟩ := H3.out.b.cells
  simp only at a0 a1 a2 b0 b1 b2
  obtain ⟨r0, r1, r2⟩ := H3.out.r.cells
  have f0 := H3.out.r.frozen 0
  have f1 := H3.out.r.frozen 1
  have f2 := H3.out.r.frozen 2
  cases q
  · have HC : Hid (∀ W, Calls Tryz.prog 60 #[.int .i64 9, .agg #[.int .i64 ak, .int .i64 an, .string sa], .agg #[.int .i64 bk, .int .i64 bn, .string sb]] W fun r w' => r = .returned (.tuple #[.agg #[.int .i64 xk, .int .i64 xn, .string xs], .int .i64 xc]) ∧ Below W.heap.size W w') := Lib.hid (fun W => HC1.out rfl W)
    go_wp2_with fail
    refine (HC.out _).mono ?_
    rintro r w5 ⟨rfl, hb5⟩
    have H4 := Lib.hid (H3.out.below hb5)
    clear hb5 a0 a1 a2 b0 b1 b2 r0 r1 r2 f0 f1 f2 H3
    have H3 := H4
    clear H4
    obtain ⟨a0, a1, a2⟩ := H3.out.a.cells
    obtain ⟨b0, b1, b2⟩ := H3.out.b.cells
    simp only at a0 a1 a2 b0 b1 b2
    obtain ⟨r0, r1, r2⟩ := H3.out.r.cells
    have f0 := H3.out.r.frozen 0
    have f1 := H3.out.r.frozen 1
    have f2 := H3.out.r.frozen 2
    obtain ⟨t0, t1, t2⟩ := (H3.out.r.set3' (xk) (xn) (xs)).cells
    have HP := Lib.hid (H3.out.put3 (.int .i64 (xk)) (.int .i64 (xn)) (.string (xs)))
    go_wp2
    refine bodyPost_ret (v := .tuple #[.agg #[.int .i64 (xk), .int .i64 (xn), .string (xs)], .int .i64 xc]) (by simp [results, Tryz.results27, go_sem, t0, t1, t2]) rfl ⟨rfl, HP.out⟩
  · have HC : Hid (∀ W, Calls Tryz.prog 59 #[.string sa, .string sb] W fun r w' => r = .returned (.tuple #[.agg #[.int .i64 xk, .int .i64 xn, .string xs], .int .i64 xc]) ∧ Below W.heap.size W w') := Lib.hid (fun W => HC3.out rfl W)
    go_wp2_with fail
    refine (HC.out _).mono ?_
    rintro r w5 ⟨rfl, hb5⟩
    have H4 := Lib.hid (H3.out.below hb5)
    clear hb5 a0 a1 a2 b0 b1 b2 r0 r1 r2 f0 f1 f2 H3
    have H3 := H4
    clear H4
    obtain ⟨a0, a1, a2⟩ := H3.out.a.cells
    obtain ⟨b0, b1, b2⟩ := H3.out.b.cells
    simp only at a0 a1 a2 b0 b1 b2
    obtain ⟨r0, r1, r2⟩ := H3.out.r.cells
    have f0 := H3.out.r.frozen 0
    have f1 := H3.out.r.frozen 1
    have f2 := H3.out.r.frozen 2
    obtain ⟨t0, t1, t2⟩ := (H3.out.r.set3' (xk) (xn) (xs)).cells
    have HP := Lib.hid (H3.out.put3 (.int .i64 (xk)) (.int .i64 (xn)) (.string (xs)))
    go_wp2
    refine bodyPost_ret (v := .tuple #[.agg #[.int .i64 (xk), .int .i64 (xn), .string (xs)], .int .i64 xc]) (by simp [results, Tryz.results27, go_sem, t0, t1, t2]) rfl ⟨rfl, HP.out⟩
set_option maxRecDepth 100000 in
set_option maxHeartbeats 4000000 in
theorem gTwo15_any (a b : V) (w : World) (ha : okV a) (hb : okV b) : Calls Tryz.prog 27 #[.int .i64 15, a.val, b.val] w (RetG (twoV 15 a b) w) := by
  obtain ⟨ak, an, sa⟩ := a
  obtain ⟨bk, bn, sb⟩ := b
  have hX := two_eq ⟨ak, an, sa⟩ ⟨bk, bn, sb⟩
  have q : ∀ w, (Op.equalIn 10000 27 (.agg #[.int .i64 ak, .int .i64 an, .string sa]) (.agg #[.int .i64 bk, .int .i64 bn, .string sb])).run Tryz.prog w = .ok (eqV ⟨ak, an, sa⟩ ⟨bk, bn, sb⟩) w := fun w => eq_in ak an bk bn sa sb w
  rw [hX]
  obtain ⟨e, he⟩ : ∃ e, eqV ⟨ak, an, sa⟩ ⟨bk, bn, sb⟩ = e := ⟨_, rfl⟩
  rw [he] at q ⊢
  simp only [V.val]
  clear hX he ha hb
  have H3 := Lib.hid (Three.new w ⟨ak, an, sa⟩ ⟨bk, bn, sb⟩)
  go_enter Tryz.func27, Tryz.ntmps27
  go_upto_region 1 with fail
  simp only [three_def]
  obtain ⟨g, hg⟩ : ∃ g, w.heap.size = g := ⟨_, rfl⟩
  rw [hg] at H3
  obtain ⟨w3, hw3⟩ : ∃ y, three w ⟨ak, an, sa⟩ ⟨bk, bn, sb⟩ = y := ⟨_, rfl⟩
  rw [hw3] at H3 ⊢
  simp only [hg]
  clear hw3 hg
  obtain ⟨a0, a1, a2⟩ := H3.out.a.cells
  obtain ⟨b0, b1, b2⟩ := H3.out.b.cells
  simp only at a0 a1 a2 b0 b1 b2
  obtain ⟨r0, r1, r2⟩ := H3.out.r.cells
  have f0 := H3.out.r.frozen 0
  have f1 := H3.out.r.frozen 1
  have f2 := H3.out.r.frozen 2
  cases e
  · have HV := Lib.hid (fun W => vBool_any false W)
    simp only [Bool.false_eq_true, if_false] at HV
    go_wp2_with fail
    refine (HV.out _).mono ?_
    rintro r w5 ⟨rfl, hb5⟩
    have H4 := Lib.hid (H3.out.below hb5)
    clear hb5 a0 a1 a2 b0 b1 b2 r0 r1 r2 f0 f1 f2 H3
    have H3 := H4
    clear H4
    obtain ⟨a0, a1, a2⟩ := H3.out.a.cells
    obtain ⟨b0, b1, b2⟩ := H3.out.b.cells
    simp only at a0 a1 a2 b0 b1 b2
    obtain ⟨r0, r1, r2⟩ := H3.out.r.cells
    have f0 := H3.out.r.frozen 0
    have f1 := H3.out.r.frozen 1
    have f2 := H3.out.r.frozen 2
    obtain ⟨t0, t1, t2⟩ := (H3.out.r.set3' (2) (0) (⟨#[]⟩)).cells
    have HP := Lib.hid (H3.out.put3 (.int .i64 (2)) (.int .i64 (0)) (.string (⟨#[]⟩)))
    go_wp2
    refine bodyPost_ret (v := .tuple #[.agg #[.int .i64 (2), .int .i64 (0), .string (⟨#[]⟩)], .int .i64 0]) (by simp [results, Tryz.results27, go_sem, t0, t1, t2]) rfl ⟨rfl, HP.out⟩
  · have HV := Lib.hid (fun W => vBool_any true W)
    simp only [if_true] at HV
    go_wp2_with fail
    refine (HV.out _).mono ?_
    rintro r w5 ⟨rfl, hb5⟩
    have H4 := Lib.hid (H3.out.below hb5)
    clear hb5 a0 a1 a2 b0 b1 b2 r0 r1 r2 f0 f1 f2 H3
    have H3 := H4
    clear H4
    obtain ⟨a0, a1, a2⟩ := H3.out.a.cells
    obtain ⟨b0, b1, b2⟩ := H3.out.b.cells
    simp only at a0 a1 a2 b0 b1 b2
    obtain ⟨r0, r1, r2⟩ := H3.out.r.cells
    have f0 := H3.out.r.frozen 0
    have f1 := H3.out.r.frozen 1
    have f2 := H3.out.r.frozen 2
    obtain ⟨t0, t1, t2⟩ := (H3.out.r.set3' (2) (1) (⟨#[]⟩)).cells
    have HP := Lib.hid (H3.out.put3 (.int .i64 (2)) (.int .i64 (1)) (.string (⟨#[]⟩)))
    go_wp2
    refine bodyPost_ret (v := .tuple #[.agg #[.int .i64 (2), .int .i64 (1), .string (⟨#[]⟩)], .int .i64 0]) (by simp [results, Tryz.results27, go_sem, t0, t1, t2]) rfl ⟨rfl, HP.out⟩
set_option maxRecDepth 100000 in
set_option maxHeartbeats 4000000 in
theorem gTwo16_any (a b : V) (w : World) (ha : okV a) (hb : okV b) : Calls Tryz.prog 27 #[.int .i64 16, a.val, b.val] w (RetG (twoV 16 a b) w) := by
  obtain ⟨ak, an, sa⟩ := a
  obtain ⟨bk, bn, sb⟩ := b
  have hX := two_ne ⟨ak, an, sa⟩ ⟨bk, bn, sb⟩
  have q : ∀ w, (Op.equalIn 10000 27 (.agg #[.int .i64 ak, .int .i64 an, .string sa]) (.agg #[.int .i64 bk, .int .i64 bn, .string sb])).run Tryz.prog w = .ok (eqV ⟨ak, an, sa⟩ ⟨bk, bn, sb⟩) w := fun w => eq_in ak an bk bn sa sb w
  rw [hX]
  obtain ⟨e, he⟩ : ∃ e, eqV ⟨ak, an, sa⟩ ⟨bk, bn, sb⟩ = e := ⟨_, rfl⟩
  rw [he] at q ⊢
  simp only [V.val]
  clear hX he ha hb
  have H3 := Lib.hid (Three.new w ⟨ak, an, sa⟩ ⟨bk, bn, sb⟩)
  go_enter Tryz.func27, Tryz.ntmps27
  go_upto_region 1 with fail
  simp only [three_def]
  obtain ⟨g, hg⟩ : ∃ g, w.heap.size = g := ⟨_, rfl⟩
  rw [hg] at H3
  obtain ⟨w3, hw3⟩ : ∃ y, three w ⟨ak, an, sa⟩ ⟨bk, bn, sb⟩ = y := ⟨_, rfl⟩
  rw [hw3] at H3 ⊢
  simp only [hg]
  clear hw3 hg
  obtain ⟨a0, a1, a2⟩ := H3.out.a.cells
  obtain ⟨b0, b1, b2⟩ := H3.out.b.cells
  simp only at a0 a1 a2 b0 b1 b2
  obtain ⟨r0, r1, r2⟩ := H3.out.r.cells
  have f0 := H3.out.r.frozen 0
  have f1 := H3.out.r.frozen 1
  have f2 := H3.out.r.frozen 2
  cases e
  · have HV := Lib.hid (fun W => vBool_any true W)
    simp only [if_true] at HV
    go_wp2_with fail
    refine (HV.out _).mono ?_
    rintro r w5 ⟨rfl, hb5⟩
    have H4 := Lib.hid (H3.out.below hb5)
    clear hb5 a0 a1 a2 b0 b1 b2 r0 r1 r2 f0 f1 f2 H3
    have H3 := H4
    clear H4
    obtain ⟨a0, a1, a2⟩ := H3.out.a.cells
    obtain ⟨b0, b1, b2⟩ := H3.out.b.cells
    simp only at a0 a1 a2 b0 b1 b2
    obtain ⟨r0, r1, r2⟩ := H3.out.r.cells
    have f0 := H3.out.r.frozen 0
    have f1 := H3.out.r.frozen 1
    have f2 := H3.out.r.frozen 2
    obtain ⟨t0, t1, t2⟩ := (H3.out.r.set3' (2) (1) (⟨#[]⟩)).cells
    have HP := Lib.hid (H3.out.put3 (.int .i64 (2)) (.int .i64 (1)) (.string (⟨#[]⟩)))
    go_wp2
    refine bodyPost_ret (v := .tuple #[.agg #[.int .i64 (2), .int .i64 (1), .string (⟨#[]⟩)], .int .i64 0]) (by simp [results, Tryz.results27, go_sem, t0, t1, t2]) rfl ⟨rfl, HP.out⟩
  · have HV := Lib.hid (fun W => vBool_any false W)
    simp only [Bool.false_eq_true, if_false] at HV
    go_wp2_with fail
    refine (HV.out _).mono ?_
    rintro r w5 ⟨rfl, hb5⟩
    have H4 := Lib.hid (H3.out.below hb5)
    clear hb5 a0 a1 a2 b0 b1 b2 r0 r1 r2 f0 f1 f2 H3
    have H3 := H4
    clear H4
    obtain ⟨a0, a1, a2⟩ := H3.out.a.cells
    obtain ⟨b0, b1, b2⟩ := H3.out.b.cells
    simp only at a0 a1 a2 b0 b1 b2
    obtain ⟨r0, r1, r2⟩ := H3.out.r.cells
    have f0 := H3.out.r.frozen 0
    have f1 := H3.out.r.frozen 1
    have f2 := H3.out.r.frozen 2
    obtain ⟨t0, t1, t2⟩ := (H3.out.r.set3' (2) (0) (⟨#[]⟩)).cells
    have HP := Lib.hid (H3.out.put3 (.int .i64 (2)) (.int .i64 (0)) (.string (⟨#[]⟩)))
    go_wp2
    refine bodyPost_ret (v := .tuple #[.agg #[.int .i64 (2), .int .i64 (0), .string (⟨#[]⟩)], .int .i64 0]) (by simp [results, Tryz.results27, go_sem, t0, t1, t2]) rfl ⟨rfl, HP.out⟩
set_option maxRecDepth 100000 in
set_option maxHeartbeats 4000000 in
theorem gTwoX_any (op : Int) (hop : op < 6 ∨ 18 < op) (a b : V) (w : World) : Calls Tryz.prog 27 #[.int .i64 op, a.val, b.val] w (RetG (twoV op a b) w) := by
  have hX : twoV op a b = (V0, 1) := by unfold twoV; rw [if_pos hop]
  rw [hX]
  have d6 : (op == 6) = false := by rw [beq_eq_false_iff_ne]; omega
  have d7 : (op == 7) = false := by rw [beq_eq_false_iff_ne]; omega
  have d8 : (op == 8) = false := by rw [beq_eq_false_iff_ne]; omega
  have d9 : (op == 9) = false := by rw [beq_eq_false_iff_ne]; omega
  have d10 : (op == 10) = false := by rw [beq_eq_false_iff_ne]; omega
  have d11 : (op == 11) = false := by rw [beq_eq_false_iff_ne]; omega
  have d12 : (op == 12) = false := by rw [beq_eq_false_iff_ne]; omega
  have d13 : (op == 13) = false := by rw [beq_eq_false_iff_ne]; omega
  have d14 : (op == 14) = false := by rw [beq_eq_false_iff_ne]; omega
  have d15 : (op == 15) = false := by rw [beq_eq_false_iff_ne]; omega
  have d16 : (op == 16) = false := by rw [beq_eq_false_iff_ne]; omega
  have d17 : (op == 17) = false := by rw [beq_eq_false_iff_ne]; omega
  have d18 : (op == 18) = false := by rw [beq_eq_false_iff_ne]; omega
  clear hX hop
  obtain ⟨ak, an, sa⟩ := a
  obtain ⟨bk, bn, sb⟩ := b
  simp only [V.val]
  have H3 := Lib.hid (Three.new w ⟨ak, an, sa⟩ ⟨bk, bn, sb⟩)
  go_enter Tryz.func27, Tryz.ntmps27
  go_upto_region 1 with fail
  simp only [three_def]
  obtain ⟨g, hg⟩ : ∃ g, w.heap.size = g := ⟨_, rfl⟩
  rw [hg] at H3
  obtain ⟨w3, hw3⟩ : ∃ y, three w ⟨ak, an, sa⟩ ⟨bk, bn, sb⟩ = y := ⟨_, rfl⟩
  rw [hw3] at H3 ⊢
  simp only [hg]
  clear hw3 hg
  obtain ⟨a0, a1, a2⟩ := H3.out.a.cells
  obtain ⟨b0, b1, b2⟩ := H3.out.b.cells
  simp only at a0 a1 a2 b0 b1 b2
  obtain ⟨r0, r1, r2⟩ := H3.out.r.cells
  have f0 := H3.out.r.frozen 0
  have f1 := H3.out.r.frozen 1
  have f2 := H3.out.r.frozen 2
  obtain ⟨t0, t1, t2⟩ := (H3.out.r.set3' 0 0 ⟨#[]⟩).cells
  have HP := Lib.hid (H3.out.put3 (.int .i64 0) (.int .i64 0) (.string ⟨#[]⟩))
  go_wp2
  refine bodyPost_ret (v := .tuple #[.agg #[.int .i64 0, .int .i64 0, .string ⟨#[]⟩], .int .i64 1]) (by simp [results, Tryz.results27, go_sem, t0, t1, t2]) rfl ⟨rfl, HP.out⟩
theorem gTwo_any (op : Int) (a b : V) (w : World) (ha : okV a) (hb : okV b) : Calls Tryz.prog 27 #[.int .i64 op, a.val, b.val] w (RetG (twoV op a b) w) := by
  by_cases h : op < 6 ∨ 18 < op
  · exact gTwoX_any op h a b w
  · have h : op = 6 ∨ op = 7 ∨ op = 8 ∨ op = 9 ∨ op = 10 ∨ op = 11 ∨ op = 12 ∨ op = 13 ∨ op = 14 ∨ op = 15 ∨ op = 16 ∨ op = 17 ∨ op = 18 := by omega
    rcases h with rfl | rfl | rfl | rfl | rfl | rfl | rfl | rfl | rfl | rfl | rfl | rfl | rfl
    · exact gTwo6_any a b w ha hb
    · exact gTwo7_any a b w ha hb
    · exact gTwo8_any a b w ha hb
    · exact gTwo9_any a b w ha hb
    · exact gTwo10_any a b w ha hb
    · exact gTwo11_any a b w ha hb
    · exact gTwo12_any a b w ha hb
    · exact gTwo13_any a b w ha hb
    · exact gTwo14_any a b w ha hb
    · exact gTwo15_any a b w ha hb
    · exact gTwo16_any a b w ha hb
    · exact gTwo17_any a b w ha hb
    · exact gTwo18_any a b w ha hb
end Go.Proofs.YtidomoibhjgkjaaGreatDoor
