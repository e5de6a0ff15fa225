import Derived.Test.YtidomoibhjgkjaaDoorZC39
import Derived.Test.YtidomoibhjgkjaaDoorZC21
/-
  What one value comes to: the document's own answer.
-/
namespace Go.Proofs.YtidomoibhjgkjaaDoor
open Go.RowKit

set_option maxRecDepth 100000 in
set_option maxHeartbeats 1000000 in
theorem g6One3_any (a : V) (w : World) (ha : okV a) : Calls Tryd.prog 8 #[.int .i64 3, a.val] w (RetG (oneV 3 a) w) := by
  obtain ⟨ak, an, sa⟩ := a
  have HK := Lib.hid (fun W => g6takes_any 3 W)
  have HT0 := Lib.hid (fun W => g6truth_any false W)
  have HT1 := Lib.hid (fun W => g6truth_any true W)
  have HNm := Lib.hid (fun n W => g6number_any n W)
  rw [show kindG 3 = 1 from rfl] at HK
  simp only [V.val, truthV, numG, mtS, Bool.false_eq_true, if_false, if_true] at HT0 HT1 HNm ⊢
  obtain ⟨X, hX⟩ : ∃ X, oneV 3 ⟨ak, an, sa⟩ = X := ⟨_, rfl⟩
  rw [hX]
  by_cases hk : ak = 1
  · subst hk
    have k1 : ((1 : Int) == 1) = true := rfl
    have k2 : ((1 : Int) != 1) = false := rfl
    by_cases hm : an = -9223372036854775808
    · have HX : Hid (X = (V0, 9)) := Lib.hid (by rw [← hX]; subst hm; rfl)
      subst hm
      clear hX ha
      have H3 := Lib.hid (Duo.new w ⟨1, -9223372036854775808, sa⟩)
      go_enter Tryd.func8, Tryd.ntmps8
      go_upto_region 1 with fail
      simp only [duo_def]
      obtain ⟨g, hg⟩ : ∃ g, w.heap.size = g := ⟨_, rfl⟩
      rw [hg] at H3
      obtain ⟨w3, hw3⟩ : ∃ y, duo w ⟨1, -9223372036854775808, sa⟩ = y := ⟨_, rfl⟩
      rw [hw3] at H3 ⊢
      simp only [hg]
      clear hw3 hg
      obtain ⟨a0, a1, a2⟩ := H3.out.a.cells
      simp only at a0 a1 a2
      obtain ⟨r0, r1, r2⟩ := H3.out.r.cells
      have f0 := H3.out.r.frozen 0
      have f1 := H3.out.r.frozen 1
      have f2 := H3.out.r.frozen 2
      go_wp2_with fail
      refine (HK.out _).mono ?_
      rintro r w5 ⟨rfl, rfl⟩
      obtain ⟨t0, t1, t2⟩ := (H3.out.r.set3' (0) (0) (⟨#[]⟩)).cells
      have HP := Lib.hid (H3.out.put3 (.int .i64 (0)) (.int .i64 (0)) (.string (⟨#[]⟩)))
      go_wp2
      refine bodyPost_ret (v := .tuple #[.agg #[.int .i64 (0), .int .i64 (0), .string (⟨#[]⟩)], .int .i64 9]) (by simp [results, Tryd.results8, go_sem, t0, t1, t2]) rfl ⟨?_, HP.out⟩
      rw [HX.out]
      rfl
    · have hin : inI (-an) := by obtain ⟨⟨_, _⟩, _⟩ := ha; unfold inI; simp only at *; omega
      have hw : wrap64 (-an) = -an := IntWalk.wrap64_in _ hin
      have m1 : (an == -9223372036854775808) = false := by rw [beq_eq_false_iff_ne]; exact hm
      have HX : Hid (X = (⟨1, -an, ⟨#[]⟩⟩, 0)) := Lib.hid (by rw [← hX]; unfold oneV; rw [if_neg (by decide), if_neg (by intro h; exact h rfl), if_neg (by decide), if_neg (by decide), if_neg hm]; rfl)
      have HN1 := Lib.hid (fun W => HNm.out (-an) W)
      clear hX ha hin hm
      have H3 := Lib.hid (Duo.new w ⟨1, an, sa⟩)
      go_enter Tryd.func8, Tryd.ntmps8
      go_upto_region 1 with fail
      simp only [duo_def]
      obtain ⟨g, hg⟩ : ∃ g, w.heap.size = g := ⟨_, rfl⟩
      rw [hg] at H3
      obtain ⟨w3, hw3⟩ : ∃ y, duo w ⟨1, an, sa⟩ = y := ⟨_, rfl⟩
      rw [hw3] at H3 ⊢
      simp only [hg]
      clear hw3 hg
      obtain ⟨a0, a1, a2⟩ := H3.out.a.cells
      simp only at a0 a1 a2
      obtain ⟨r0, r1, r2⟩ := H3.out.r.cells
      have f0 := H3.out.r.frozen 0
      have f1 := H3.out.r.frozen 1
      have f2 := H3.out.r.frozen 2
      go_wp2_with fail
      refine (HK.out _).mono ?_
      rintro r w5 ⟨rfl, rfl⟩
      go_wp2_with fail
      refine (HN1.out _).mono ?_
      rintro r w5 ⟨rfl, hb5⟩
      have H4 := Lib.hid (H3.out.below hb5)
      clear hb5 a0 a1 a2 r0 r1 r2 f0 f1 f2 H3
      have H3 := H4
      clear H4
      obtain ⟨a0, a1, a2⟩ := H3.out.a.cells
      simp only at a0 a1 a2
      obtain ⟨r0, r1, r2⟩ := H3.out.r.cells
      have f0 := H3.out.r.frozen 0
      have f1 := H3.out.r.frozen 1
      have f2 := H3.out.r.frozen 2
      obtain ⟨t0, t1, t2⟩ := (H3.out.r.set3' (1) (-an) (⟨#[]⟩)).cells
      have HP := Lib.hid (H3.out.put3 (.int .i64 (1)) (.int .i64 (-an)) (.string (⟨#[]⟩)))
      go_wp2
      refine bodyPost_ret (v := .tuple #[.agg #[.int .i64 (1), .int .i64 (-an), .string (⟨#[]⟩)], .int .i64 0]) (by simp [results, Tryd.results8, go_sem, t0, t1, t2]) rfl ⟨?_, HP.out⟩
      rw [HX.out]
      rfl
  · have k1 : (ak == 1) = false := by rw [beq_eq_false_iff_ne]; exact hk
    have k2 : (ak != 1) = true := by rw [bne_iff_ne]; exact hk
    have HX : Hid (X = (V0, 40)) := Lib.hid (by rw [← hX]; unfold oneV; rw [if_neg (by decide), if_pos (by exact hk)])
    clear hX ha hk
    have H3 := Lib.hid (Duo.new w ⟨ak, an, sa⟩)
    go_enter Tryd.func8, Tryd.ntmps8
    go_upto_region 1 with fail
    simp only [duo_def]
    obtain ⟨g, hg⟩ : ∃ g, w.heap.size = g := ⟨_, rfl⟩
    rw [hg] at H3
    obtain ⟨w3, hw3⟩ : ∃ y, duo w ⟨ak, an, sa⟩ = y := ⟨_, rfl⟩
    rw [hw3] at H3 ⊢
    simp only [hg]
    clear hw3 hg
    obtain ⟨a0, a1, a2⟩ := H3.out.a.cells
    simp only at a0 a1 a2
    obtain ⟨r0, r1, r2⟩ := H3.out.r.cells
    have f0 := H3.out.r.frozen 0
    have f1 := H3.out.r.frozen 1
    have f2 := H3.out.r.frozen 2
    go_wp2_with fail
    refine (HK.out _).mono ?_
    rintro r w5 ⟨rfl, rfl⟩
    obtain ⟨t0, t1, t2⟩ := (H3.out.r.set3' (0) (0) (⟨#[]⟩)).cells
    have HP := Lib.hid (H3.out.put3 (.int .i64 (0)) (.int .i64 (0)) (.string (⟨#[]⟩)))
    go_wp2
    refine bodyPost_ret (v := .tuple #[.agg #[.int .i64 (0), .int .i64 (0), .string (⟨#[]⟩)], .int .i64 40]) (by simp [results, Tryd.results8, go_sem, t0, t1, t2]) rfl ⟨?_, HP.out⟩
    rw [HX.out]
    rfl
set_option maxRecDepth 100000 in
set_option maxHeartbeats 1000000 in
theorem g6One4_any (a : V) (w : World) (ha : okV a) : Calls Tryd.prog 8 #[.int .i64 4, a.val] w (RetG (oneV 4 a) w) := by
  obtain ⟨ak, an, sa⟩ := a
  have HK := Lib.hid (fun W => g6takes_any 4 W)
  have HT0 := Lib.hid (fun W => g6truth_any false W)
  have HT1 := Lib.hid (fun W => g6truth_any true W)
  have HNm := Lib.hid (fun n W => g6number_any n W)
  rw [show kindG 4 = 2 from rfl] at HK
  simp only [V.val, truthV, numG, mtS, Bool.false_eq_true, if_false, if_true] at HT0 HT1 HNm ⊢
  obtain ⟨X, hX⟩ : ∃ X, oneV 4 ⟨ak, an, sa⟩ = X := ⟨_, rfl⟩
  rw [hX]
  by_cases hk : ak = 2
  · subst hk
    have k1 : ((2 : Int) == 2) = true := rfl
    have k2 : ((2 : Int) != 2) = false := rfl
    by_cases hm : an = 0
    · subst hm
      have HX : Hid (X = (truthV true, 0)) := Lib.hid (by rw [← hX]; unfold oneV; rw [if_neg (by decide), if_neg (by intro h; exact h rfl), if_pos rfl]; simp)
      clear hX ha
      have H3 := Lib.hid (Duo.new w ⟨2, 0, sa⟩)
      go_enter Tryd.func8, Tryd.ntmps8
      go_upto_region 1 with fail
      simp only [duo_def]
      obtain ⟨g, hg⟩ : ∃ g, w.heap.size = g := ⟨_, rfl⟩
      rw [hg] at H3
      obtain ⟨w3, hw3⟩ : ∃ y, duo w ⟨2, 0, sa⟩ = y := ⟨_, rfl⟩
      rw [hw3] at H3 ⊢
      simp only [hg]
      clear hw3 hg
      obtain ⟨a0, a1, a2⟩ := H3.out.a.cells
      simp only at a0 a1 a2
      obtain ⟨r0, r1, r2⟩ := H3.out.r.cells
      have f0 := H3.out.r.frozen 0
      have f1 := H3.out.r.frozen 1
      have f2 := H3.out.r.frozen 2
      go_wp2_with fail
      refine (HK.out _).mono ?_
      rintro r w5 ⟨rfl, rfl⟩
      go_wp2_with fail
      refine (HT1.out _).mono ?_
      rintro r w5 ⟨rfl, hb5⟩
      have H4 := Lib.hid (H3.out.below hb5)
      clear hb5 a0 a1 a2 r0 r1 r2 f0 f1 f2 H3
      have H3 := H4
      clear H4
      obtain ⟨a0, a1, a2⟩ := H3.out.a.cells
      simp only at a0 a1 a2
      obtain ⟨r0, r1, r2⟩ := H3.out.r.cells
      have f0 := H3.out.r.frozen 0
      have f1 := H3.out.r.frozen 1
      have f2 := H3.out.r.frozen 2
      obtain ⟨t0, t1, t2⟩ := (H3.out.r.set3' (2) (1) (⟨#[]⟩)).cells
      have HP := Lib.hid (H3.out.put3 (.int .i64 (2)) (.int .i64 (1)) (.string (⟨#[]⟩)))
      go_wp2
      refine bodyPost_ret (v := .tuple #[.agg #[.int .i64 (2), .int .i64 (1), .string (⟨#[]⟩)], .int .i64 0]) (by simp [results, Tryd.results8, go_sem, t0, t1, t2]) rfl ⟨?_, HP.out⟩
      rw [HX.out]
      rfl
    · have m1 : (an == 0) = false := by rw [beq_eq_false_iff_ne]; exact hm
      have HX : Hid (X = (truthV false, 0)) := Lib.hid (by rw [← hX]; unfold oneV; rw [if_neg (by decide), if_neg (by intro h; exact h rfl), if_pos rfl]; simp [hm])
      clear hX ha hm
      have H3 := Lib.hid (Duo.new w ⟨2, an, sa⟩)
      go_enter Tryd.func8, Tryd.ntmps8
      go_upto_region 1 with fail
      simp only [duo_def]
      obtain ⟨g, hg⟩ : ∃ g, w.heap.size = g := ⟨_, rfl⟩
      rw [hg] at H3
      obtain ⟨w3, hw3⟩ : ∃ y, duo w ⟨2, an, sa⟩ = y := ⟨_, rfl⟩
      rw [hw3] at H3 ⊢
      simp only [hg]
      clear hw3 hg
      obtain ⟨a0, a1, a2⟩ := H3.out.a.cells
      simp only at a0 a1 a2
      obtain ⟨r0, r1, r2⟩ := H3.out.r.cells
      have f0 := H3.out.r.frozen 0
      have f1 := H3.out.r.frozen 1
      have f2 := H3.out.r.frozen 2
      go_wp2_with fail
      refine (HK.out _).mono ?_
      rintro r w5 ⟨rfl, rfl⟩
      go_wp2_with fail
      refine (HT0.out _).mono ?_
      rintro r w5 ⟨rfl, hb5⟩
      have H4 := Lib.hid (H3.out.below hb5)
      clear hb5 a0 a1 a2 r0 r1 r2 f0 f1 f2 H3
      have H3 := H4
      clear H4
      obtain ⟨a0, a1, a2⟩ := H3.out.a.cells
      simp only at a0 a1 a2
      obtain ⟨r0, r1, r2⟩ := H3.out.r.cells
      have f0 := H3.out.r.frozen 0
      have f1 := H3.out.r.frozen 1
      have f2 := H3.out.r.frozen 2
      obtain ⟨t0, t1, t2⟩ := (H3.out.r.set3' (2) (0) (⟨#[]⟩)).cells
      have HP := Lib.hid (H3.out.put3 (.int .i64 (2)) (.int .i64 (0)) (.string (⟨#[]⟩)))
      go_wp2
      refine bodyPost_ret (v := .tuple #[.agg #[.int .i64 (2), .int .i64 (0), .string (⟨#[]⟩)], .int .i64 0]) (by simp [results, Tryd.results8, go_sem, t0, t1, t2]) rfl ⟨?_, HP.out⟩
      rw [HX.out]
      rfl
  · have k1 : (ak == 2) = false := by rw [beq_eq_false_iff_ne]; exact hk
    have k2 : (ak != 2) = true := by rw [bne_iff_ne]; exact hk
    have HX : Hid (X = (V0, 40)) := Lib.hid (by rw [← hX]; unfold oneV; rw [if_neg (by decide), if_pos (by exact hk)])
    clear hX ha hk
    have H3 := Lib.hid (Duo.new w ⟨ak, an, sa⟩)
    go_enter Tryd.func8, Tryd.ntmps8
    go_upto_region 1 with fail
    simp only [duo_def]
    obtain ⟨g, hg⟩ : ∃ g, w.heap.size = g := ⟨_, rfl⟩
    rw [hg] at H3
    obtain ⟨w3, hw3⟩ : ∃ y, duo w ⟨ak, an, sa⟩ = y := ⟨_, rfl⟩
    rw [hw3] at H3 ⊢
    simp only [hg]
    clear hw3 hg
    obtain ⟨a0, a1, a2⟩ := H3.out.a.cells
    simp only at a0 a1 a2
    obtain ⟨r0, r1, r2⟩ := H3.out.r.cells
    have f0 := H3.out.r.frozen 0
    have f1 := H3.out.r.frozen 1
    have f2 := H3.out.r.frozen 2
    go_wp2_with fail
    refine (HK.out _).mono ?_
    rintro r w5 ⟨rfl, rfl⟩
    obtain ⟨t0, t1, t2⟩ := (H3.out.r.set3' (0) (0) (⟨#[]⟩)).cells
    have HP := Lib.hid (H3.out.put3 (.int .i64 (0)) (.int .i64 (0)) (.string (⟨#[]⟩)))
    go_wp2
    refine bodyPost_ret (v := .tuple #[.agg #[.int .i64 (0), .int .i64 (0), .string (⟨#[]⟩)], .int .i64 40]) (by simp [results, Tryd.results8, go_sem, t0, t1, t2]) rfl ⟨?_, HP.out⟩
    rw [HX.out]
    rfl
set_option maxRecDepth 100000 in
set_option maxHeartbeats 1000000 in
theorem g6One5_any (a : V) (w : World) (ha : okV a) : Calls Tryd.prog 8 #[.int .i64 5, a.val] w (RetG (oneV 5 a) w) := by
  obtain ⟨ak, an, sa⟩ := a
  have HK := Lib.hid (fun W => g6takes_any 5 W)
  have HT0 := Lib.hid (fun W => g6truth_any false W)
  have HT1 := Lib.hid (fun W => g6truth_any true W)
  have HNm := Lib.hid (fun n W => g6number_any n W)
  rw [show kindG 5 = 3 from rfl] at HK
  simp only [V.val, truthV, numG, mtS, Bool.false_eq_true, if_false, if_true] at HT0 HT1 HNm ⊢
  obtain ⟨X, hX⟩ : ∃ X, oneV 5 ⟨ak, an, sa⟩ = X := ⟨_, rfl⟩
  rw [hX]
  by_cases hk : ak = 3
  · subst hk
    have k1 : ((3 : Int) == 3) = true := rfl
    have k2 : ((3 : Int) != 3) = false := rfl
    have HX : Hid (X = (⟨1, (sa.size : Int), ⟨#[]⟩⟩, 0)) := Lib.hid (by rw [← hX]; rfl)
    have HN1 := Lib.hid (fun W => HNm.out (sa.size : Int) W)
    have hsz : sa.size ≤ 1000000 := ha.2
    clear hX ha
    have H3 := Lib.hid (Duo.new w ⟨3, an, sa⟩)
    go_enter Tryd.func8, Tryd.ntmps8
    go_upto_region 1 with fail
    simp only [duo_def]
    obtain ⟨g, hg⟩ : ∃ g, w.heap.size = g := ⟨_, rfl⟩
    rw [hg] at H3
    obtain ⟨w3, hw3⟩ : ∃ y, duo w ⟨3, an, sa⟩ = y := ⟨_, rfl⟩
    rw [hw3] at H3 ⊢
    simp only [hg]
    clear hw3 hg
    obtain ⟨a0, a1, a2⟩ := H3.out.a.cells
    simp only at a0 a1 a2
    obtain ⟨r0, r1, r2⟩ := H3.out.r.cells
    have f0 := H3.out.r.frozen 0
    have f1 := H3.out.r.frozen 1
    have f2 := H3.out.r.frozen 2
    go_wp2_with fail
    refine (HK.out _).mono ?_
    rintro r w5 ⟨rfl, rfl⟩
    go_wp2_with fail
    refine (HN1.out _).mono ?_
    rintro r w5 ⟨rfl, hb5⟩
    have H4 := Lib.hid (H3.out.below hb5)
    clear hb5 a0 a1 a2 r0 r1 r2 f0 f1 f2 H3
    have H3 := H4
    clear H4
    obtain ⟨a0, a1, a2⟩ := H3.out.a.cells
    simp only at a0 a1 a2
    obtain ⟨r0, r1, r2⟩ := H3.out.r.cells
    have f0 := H3.out.r.frozen 0
    have f1 := H3.out.r.frozen 1
    have f2 := H3.out.r.frozen 2
    obtain ⟨t0, t1, t2⟩ := (H3.out.r.set3' (1) ((sa.size : Int)) (⟨#[]⟩)).cells
    have HP := Lib.hid (H3.out.put3 (.int .i64 (1)) (.int .i64 ((sa.size : Int))) (.string (⟨#[]⟩)))
    go_wp2
    refine bodyPost_ret (v := .tuple #[.agg #[.int .i64 (1), .int .i64 ((sa.size : Int)), .string (⟨#[]⟩)], .int .i64 0]) (by simp [results, Tryd.results8, go_sem, t0, t1, t2]) rfl ⟨?_, HP.out⟩
    rw [HX.out]
    rfl
  · have k1 : (ak == 3) = false := by rw [beq_eq_false_iff_ne]; exact hk
    have k2 : (ak != 3) = true := by rw [bne_iff_ne]; exact hk
    have HX : Hid (X = (V0, 40)) := Lib.hid (by rw [← hX]; unfold oneV; rw [if_neg (by decide), if_pos (by exact hk)])
    clear hX ha hk
    have H3 := Lib.hid (Duo.new w ⟨ak, an, sa⟩)
    go_enter Tryd.func8, Tryd.ntmps8
    go_upto_region 1 with fail
    simp only [duo_def]
    obtain ⟨g, hg⟩ : ∃ g, w.heap.size = g := ⟨_, rfl⟩
    rw [hg] at H3
    obtain ⟨w3, hw3⟩ : ∃ y, duo w ⟨ak, an, sa⟩ = y := ⟨_, rfl⟩
    rw [hw3] at H3 ⊢
    simp only [hg]
    clear hw3 hg
    obtain ⟨a0, a1, a2⟩ := H3.out.a.cells
    simp only at a0 a1 a2
    obtain ⟨r0, r1, r2⟩ := H3.out.r.cells
    have f0 := H3.out.r.frozen 0
    have f1 := H3.out.r.frozen 1
    have f2 := H3.out.r.frozen 2
    go_wp2_with fail
    refine (HK.out _).mono ?_
    rintro r w5 ⟨rfl, rfl⟩
    obtain ⟨t0, t1, t2⟩ := (H3.out.r.set3' (0) (0) (⟨#[]⟩)).cells
    have HP := Lib.hid (H3.out.put3 (.int .i64 (0)) (.int .i64 (0)) (.string (⟨#[]⟩)))
    go_wp2
    refine bodyPost_ret (v := .tuple #[.agg #[.int .i64 (0), .int .i64 (0), .string (⟨#[]⟩)], .int .i64 40]) (by simp [results, Tryd.results8, go_sem, t0, t1, t2]) rfl ⟨?_, HP.out⟩
    rw [HX.out]
    rfl
set_option maxRecDepth 100000 in
set_option maxHeartbeats 1000000 in
theorem g6OneX_any (op : Int) (hop : op ≠ 3 ∧ op ≠ 4 ∧ op ≠ 5) (a : V) (w : World) : Calls Tryd.prog 8 #[.int .i64 op, a.val] w (RetG (oneV op a) w) := by
  obtain ⟨ak, an, sa⟩ := a
  have hz : kindG op = 0 := by unfold kindG; rw [if_neg hop.1, if_neg hop.2.1, if_neg hop.2.2]
  have HK := Lib.hid (fun W => g6takes_any op W)
  rw [hz] at HK
  simp only [V.val]
  obtain ⟨X, hX⟩ : ∃ X, oneV op ⟨ak, an, sa⟩ = X := ⟨_, rfl⟩
  rw [hX]
  have HX : Hid (X = (V0, 1)) := Lib.hid (by rw [← hX]; unfold oneV; rw [if_pos hz])
  clear hX hz hop
  have H3 := Lib.hid (Duo.new w ⟨ak, an, sa⟩)
  go_enter Tryd.func8, Tryd.ntmps8
  go_upto_region 1 with fail
  simp only [duo_def]
  obtain ⟨g, hg⟩ : ∃ g, w.heap.size = g := ⟨_, rfl⟩
  rw [hg] at H3
  obtain ⟨w3, hw3⟩ : ∃ y, duo w ⟨ak, an, sa⟩ = y := ⟨_, rfl⟩
  rw [hw3] at H3 ⊢
  simp only [hg]
  clear hw3 hg
  obtain ⟨a0, a1, a2⟩ := H3.out.a.cells
  simp only at a0 a1 a2
  obtain ⟨r0, r1, r2⟩ := H3.out.r.cells
  have f0 := H3.out.r.frozen 0
  have f1 := H3.out.r.frozen 1
  have f2 := H3.out.r.frozen 2
  go_wp2_with fail
  refine (HK.out _).mono ?_
  rintro r w5 ⟨rfl, rfl⟩
  obtain ⟨t0, t1, t2⟩ := (H3.out.r.set3' (0) (0) (⟨#[]⟩)).cells
  have HP := Lib.hid (H3.out.put3 (.int .i64 (0)) (.int .i64 (0)) (.string (⟨#[]⟩)))
  go_wp2
  refine bodyPost_ret (v := .tuple #[.agg #[.int .i64 (0), .int .i64 (0), .string (⟨#[]⟩)], .int .i64 1]) (by simp [results, Tryd.results8, go_sem, t0, t1, t2]) rfl ⟨?_, HP.out⟩
  rw [HX.out]
  rfl
theorem g6One_any (op : Int) (a : V) (w : World) (ha : okV a) : Calls Tryd.prog 8 #[.int .i64 op, a.val] w (RetG (oneV op a) w) := by
  by_cases h : op ≠ 3 ∧ op ≠ 4 ∧ op ≠ 5
  · exact g6OneX_any op h a w
  · have h : op = 3 ∨ op = 4 ∨ op = 5 := by omega
    rcases h with rfl | rfl | rfl
    · exact g6One3_any a w ha
    · exact g6One4_any a w ha
    · exact g6One5_any a w ha
end Go.Proofs.YtidomoibhjgkjaaDoor
