import Derived.Test.YtidomoibhjgkjaaGreatDoorZF00
import Derived.Test.YtidomoibhjgkjaaGreatDoorZC22
import Derived.Test.YtidomoibhjgkjaaGreatDoorZC36
import Derived.Test.YtidomoibhjgkjaaGreatDoorZC35
import Derived.Test.YtidomoibhjgkjaaGreatDoorZC18
import Derived.Deep.LoopGhost
import Derived.Test.YtidomoibhjgkjaaGreatDoorZF01
import Derived.Test.YtidomoibhjgkjaaGreatDoorZC43
import Derived.Test.YtidomoibhjgkjaaGreatDoorZC47
import Derived.Lib.MinMax
/-
  What one value comes to: the document's own answer.
-/
namespace Go.Proofs.YtidomoibhjgkjaaGreatDoor
open Go.RowKit

set_option maxRecDepth 100000 in
set_option maxHeartbeats 1000000 in
theorem g6One3_any (a : V) (w : World) (ha : okV a) : Calls Tryz.prog 38 #[.int .i64 3, a.val] w (RetG (oneV 3 a) w) := by
  obtain ⟨ak, an, sa⟩ := a
  have HK := Lib.hid (fun W => g6takes_any 3 W)
  have HT0 := Lib.hid (fun W => g6truth_any false W)
  have HT1 := Lib.hid (fun W => g6truth_any true W)
  have HNm := Lib.hid (fun n W => g6number_any n W)
  rw [show kindG 3 = 1 from rfl] at HK
  simp only [V.val, truthV, numG, mtS, Bool.false_eq_true, if_false, if_true] at HT0 HT1 HNm ⊢
  obtain ⟨X, hX⟩ : ∃ X, oneV 3 ⟨ak, an, sa⟩ = X := ⟨_, rfl⟩
  rw [hX]
  by_cases hk : ak = 1
  · subst hk
    have k1 : ((1 : Int) == 1) = true := rfl
    have k2 : ((1 : Int) != 1) = false := rfl
    by_cases hm : an = -9223372036854775808
    · have HX : Hid (X = (V0, 9)) := Lib.hid (by rw [← hX]; subst hm; rfl)
      subst hm
      clear hX ha
      have H3 := Lib.hid (Duo.new w ⟨1, -9223372036854775808, sa⟩)
      go_enter Tryz.func38, Tryz.ntmps38
      go_upto_region 1 with fail
      simp only [duo_def]
      obtain ⟨g, hg⟩ : ∃ g, w.heap.size = g := ⟨_, rfl⟩
      rw [hg] at H3
      obtain ⟨w3, hw3⟩ : ∃ y, duo w ⟨1, -9223372036854775808, sa⟩ = y := ⟨_, rfl⟩
      rw [hw3] at H3 ⊢
      simp only [hg]
      clear hw3 hg
      obtain ⟨a0, a1, a2⟩ := H3.out.a.cells
      simp only at a0 a1 a2
      obtain ⟨r0, r1, r2⟩ := H3.out.r.cells
      have f0 := H3.out.r.frozen 0
      have f1 := H3.out.r.frozen 1
      have f2 := H3.out.r.frozen 2
      go_wp2_with fail
      refine (HK.out _).mono ?_
      rintro r w5 ⟨rfl, rfl⟩
      obtain ⟨t0, t1, t2⟩ := (H3.out.r.set3' (0) (0) (⟨#[]⟩)).cells
      have HP := Lib.hid (H3.out.put3 (.int .i64 (0)) (.int .i64 (0)) (.string (⟨#[]⟩)))
      go_wp2
      refine bodyPost_ret (v := .tuple #[.agg #[.int .i64 (0), .int .i64 (0), .string (⟨#[]⟩)], .int .i64 9]) (by simp [results, Tryz.results38, go_sem, t0, t1, t2]) rfl ⟨?_, HP.out⟩
      rw [HX.out]
      rfl
    · have hin : inI (-an) := by obtain ⟨⟨_, _⟩, _⟩ := ha; unfold inI; simp only at *; omega
      have hw : wrap64 (-an) = -an := IntWalk.wrap64_in _ hin
      have m1 : (an == -9223372036854775808) = false := by rw [beq_eq_false_iff_ne]; exact hm
      have HX : Hid (X = (⟨1, -an, ⟨#[]⟩⟩, 0)) := Lib.hid (by rw [← hX]; unfold oneV; rw [if_neg (by decide), if_neg (by intro h; exact h rfl), if_neg (by decide), if_neg (by decide), if_neg hm]; rfl)
      have HN1 := Lib.hid (fun W => HNm.out (-an) W)
      clear hX ha hin hm
      have H3 := Lib.hid (Duo.new w ⟨1, an, sa⟩)
      go_enter Tryz.func38, Tryz.ntmps38
      go_upto_region 1 with fail
      simp only [duo_def]
      obtain ⟨g, hg⟩ : ∃ g, w.heap.size = g := ⟨_, rfl⟩
      rw [hg] at H3
      obtain ⟨w3, hw3⟩ : ∃ y, duo w ⟨1, an, sa⟩ = y := ⟨_, rfl⟩
      rw [hw3] at H3 ⊢
      simp only [hg]
      clear hw3 hg
      obtain ⟨a0, a1, a2⟩ := H3.out.a.cells
      simp only at a0 a1 a2
      obtain ⟨r0, r1, r2⟩ := H3.out.r.cells
      have f0 := H3.out.r.frozen 0
      have f1 := H3.out.r.frozen 1
      have f2 := H3.out.r.frozen 2
      go_wp2_with fail
      refine (HK.out _).mono ?_
      rintro r w5 ⟨rfl, rfl⟩
      go_wp2_with fail
      refine (HN1.out _).mono ?_
      rintro r w5 ⟨rfl, hb5⟩
      have H4 := Lib.hid (H3.out.below hb5)
      clear hb5 a0 a1 a2 r0 r1 r2 f0 f1 f2 H3
      have H3 := H4
      clear H4
      obtain ⟨a0, a1, a2⟩ := H3.out.a.cells
      simp only at a0 a1 a2
      obtain ⟨r0, r1, r2⟩ := H3.out.r.cells
      have f0 := H3.out.r.frozen 0
      have f1 := H3.out.r.frozen 1
      have f2 := H3.out.r.frozen 2
      obtain ⟨t0, t1, t2⟩ := (H3.out.r.set3' (1) (-an) (⟨#[]⟩)).cells
      have HP := Lib.hid (H3.out.put3 (.int .i64 (1)) (.int .i64 (-an)) (.string (⟨#[]⟩)))
      go_wp2
      refine bodyPost_ret (v := .tuple #[.agg #[.int .i64 (1), .int .i64 (-an), .string (⟨#[]⟩)], .int .i64 0]) (by simp [results, Tryz.results38, go_sem, t0, t1, t2]) rfl ⟨?_, HP.out⟩
      rw [HX.out]
      rfl
  · have k1 : (ak == 1) = false := by rw [beq_eq_false_iff_ne]; exact hk
    have k2 : (ak != 1) = true := by rw [bne_iff_ne]; exact hk
    have HX : Hid (X = (V0, 40)) := Lib.hid (by rw [← hX]; unfold oneV; rw [if_neg (by decide), if_pos (by exact hk)])
    clear hX ha hk
    have H3 := Lib.hid (Duo.new w ⟨ak, an, sa⟩)
    go_enter Tryz.func38, Tryz.ntmps38
    go_upto_region 1 with fail
    simp only [duo_def]
    obtain ⟨g, hg⟩ : ∃ g, w.heap.size = g := ⟨_, rfl⟩
    rw [hg] at H3
    obtain ⟨w3, hw3⟩ : ∃ y, duo w ⟨ak, an, sa⟩ = y := ⟨_, rfl⟩
    rw [hw3] at H3 ⊢
    simp only [hg]
    clear hw3 hg
    obtain ⟨a0, a1, a2⟩ := H3.out.a.cells
    simp only at a0 a1 a2
    obtain ⟨r0, r1, r2⟩ := H3.out.r.cells
    have f0 := H3.out.r.frozen 0
    have f1 := H3.out.r.frozen 1
    have f2 := H3.out.r.frozen 2
    go_wp2_with fail
    refine (HK.out _).mono ?_
    rintro r w5 ⟨rfl, rfl⟩
    obtain ⟨t0, t1, t2⟩ := (H3.out.r.set3' (0) (0) (⟨#[]⟩)).cells
    have HP := Lib.hid (H3.out.put3 (.int .i64 (0)) (.int .i64 (0)) (.string (⟨#[]⟩)))
    go_wp2
    refine bodyPost_ret (v := .tuple #[.agg #[.int .i64 (0), .int .i64 (0), .string (⟨#[]⟩)], .int .i64 40]) (by simp [results, Tryz.results38, go_sem, t0, t1, t2]) rfl ⟨?_, HP.out⟩
    rw [HX.out]
    rfl
set_option maxRecDepth 100000 in
set_option maxHeartbeats 1000000 in
theorem g6One4_any (a : V) (w : World) (ha : okV a) : Calls Tryz.prog 38 #[.int .i64 4, a.val] w (RetG (oneV 4 a) w) := by
  obtain ⟨ak, an, sa⟩ := a
  have HK := Lib.hid (fun W => g6takes_any 4 W)
  have HT0 := Lib.hid (fun W => g6truth_any false W)
  have HT1 := Lib.hid (fun W => g6truth_any true W)
  have HNm := Lib.hid (fun n W => g6number_any n W)
  rw [show kindG 4 = 2 from rfl] at HK
  simp only [V.val, truthV, numG, mtS, Bool.false_eq_true, if_false, if_true] at HT0 HT1 HNm ⊢
  obtain ⟨X, hX⟩ : ∃ X, oneV 4 ⟨ak, an, sa⟩ = X := ⟨_, rfl⟩
  rw [hX]
  by_cases hk : ak = 2
  · subst hk
    have k1 : ((2 : Int) == 2) = true := rfl
    have k2 : ((2 : Int) != 2) = false := rfl
    by_cases hm : an = 0
    · subst hm
      have HX : Hid (X = (truthV true, 0)) := Lib.hid (by rw [← hX]; unfold oneV; rw [if_neg (by decide), if_neg (by intro h; exact h rfl), if_pos rfl]; simp)
      clear hX ha
      have H3 := Lib.hid (Duo.new w ⟨2, 0, sa⟩)
      go_enter Tryz.func38, Tryz.ntmps38
      go_upto_region 1 with fail
      simp only [duo_def]
      obtain ⟨g, hg⟩ : ∃ g, w.heap.size = g := ⟨_, rfl⟩
      rw [hg] at H3
      obtain ⟨w3, hw3⟩ : ∃ y, duo w ⟨2, 0, sa⟩ = y := ⟨_, rfl⟩
      rw [hw3] at H3 ⊢
      simp only [hg]
      clear hw3 hg
      obtain ⟨a0, a1, a2⟩ := H3.out.a.cells
      simp only at a0 a1 a2
      obtain ⟨r0, r1, r2⟩ := H3.out.r.cells
      have f0 := H3.out.r.frozen 0
      have f1 := H3.out.r.frozen 1
      have f2 := H3.out.r.frozen 2
      go_wp2_with fail
      refine (HK.out _).mono ?_
      rintro r w5 ⟨rfl, rfl⟩
      go_wp2_with fail
      refine (HT1.out _).mono ?_
      rintro r w5 ⟨rfl, hb5⟩
      have H4 := Lib.hid (H3.out.below hb5)
      clear hb5 a0 a1 a2 r0 r1 r2 f0 f1 f2 H3
      have H3 := H4
      clear H4
      obtain ⟨a0, a1, a2⟩ := H3.out.a.cells
      simp only at a0 a1 a2
      obtain ⟨r0, r1, r2⟩ := H3.out.r.cells
      have f0 := H3.out.r.frozen 0
      have f1 := H3.out.r.frozen 1
      have f2 := H3.out.r.frozen 2
      obtain ⟨t0, t1, t2⟩ := (H3.out.r.set3' (2) (1) (⟨#[]⟩)).cells
      have HP := Lib.hid (H3.out.put3 (.int .i64 (2)) (.int .i64 (1)) (.string (⟨#[]⟩)))
      go_wp2
      refine bodyPost_ret (v := .tuple #[.agg #[.int .i64 (2), .int .i64 (1), .string (⟨#[]⟩)], .int .i64 0]) (by simp [results, Tryz.results38, go_sem, t0, t1, t2]) rfl ⟨?_, HP.out⟩
      rw [HX.out]
      rfl
    · have m1 : (an == 0) = false := by rw [beq_eq_false_iff_ne]; exact hm
      have HX : Hid (X = (truthV false, 0)) := Lib.hid (by rw [← hX]; unfold oneV; rw [if_neg (by decide), if_neg (by intro h; exact h rfl), if_pos rfl]; simp [hm])
      clear hX ha hm
      have H3 := Lib.hid (Duo.new w ⟨2, an, sa⟩)
      go_enter Tryz.func38, Tryz.ntmps38
      go_upto_region 1 with fail
      simp only [duo_def]
      obtain ⟨g, hg⟩ : ∃ g, w.heap.size = g := ⟨_, rfl⟩
      rw [hg] at H3
      obtain ⟨w3, hw3⟩ : ∃ y, duo w ⟨2, an, sa⟩ = y := ⟨_, rfl⟩
      rw [hw3] at H3 ⊢
      simp only [hg]
      clear hw3 hg
      obtain ⟨a0, a1, a2⟩ := H3.out.a.cells
      simp only at a0 a1 a2
      obtain ⟨r0, r1, r2⟩ := H3.out.r.cells
      have f0 := H3.out.r.frozen 0
      have f1 := H3.out.r.frozen 1
      have f2 := H3.out.r.frozen 2
      go_wp2_with fail
      refine (HK.out _).mono ?_
      rintro r w5 ⟨rfl, rfl⟩
      go_wp2_with fail
      refine (HT0.out _).mono ?_
      rintro r w5 ⟨rfl, hb5⟩
      have H4 := Lib.hid (H3.out.below hb5)
      clear hb5 a0 a1 a2 r0 r1 r2 f0 f1 f2 H3
      have H3 := H4
      clear H4
      obtain ⟨a0, a1, a2⟩ := H3.out.a.cells
      simp only at a0 a1 a2
      obtain ⟨r0, r1, r2⟩ := H3.out.r.cells
      have f0 := H3.out.r.frozen 0
      have f1 := H3.out.r.frozen 1
      have f2 := H3.out.r.frozen 2
      obtain ⟨t0, t1, t2⟩ := (H3.out.r.set3' (2) (0) (⟨#[]⟩)).cells
      have HP := Lib.hid (H3.out.put3 (.int .i64 (2)) (.int .i64 (0)) (.string (⟨#[]⟩)))
      go_wp2
      refine bodyPost_ret (v := .tuple #[.agg #[.int .i64 (2), .int .i64 (0), .string (⟨#[]⟩)], .int .i64 0]) (by simp [results, Tryz.results38, go_sem, t0, t1, t2]) rfl ⟨?_, HP.out⟩
      rw [HX.out]
      rfl
  · have k1 : (ak == 2) = false := by rw [beq_eq_false_iff_ne]; exact hk
    have k2 : (ak != 2) = true := by rw [bne_iff_ne]; exact hk
    have HX : Hid (X = (V0, 40)) := Lib.hid (by rw [← hX]; unfold oneV; rw [if_neg (by decide), if_pos (by exact hk)])
    clear hX ha hk
    have H3 := Lib.hid (Duo.new w ⟨ak, an, sa⟩)
    go_enter Tryz.func38, Tryz.ntmps38
    go_upto_region 1 with fail
    simp only [duo_def]
    obtain ⟨g, hg⟩ : ∃ g, w.heap.size = g := ⟨_, rfl⟩
    rw [hg] at H3
    obtain ⟨w3, hw3⟩ : ∃ y, duo w ⟨ak, an, sa⟩ = y := ⟨_, rfl⟩
    rw [hw3] at H3 ⊢
    simp only [hg]
    clear hw3 hg
    obtain ⟨a0, a1, a2⟩ := H3.out.a.cells
    simp only at a0 a1 a2
    obtain ⟨r0, r1, r2⟩ := H3.out.r.cells
    have f0 := H3.out.r.frozen 0
    have f1 := H3.out.r.frozen 1
    have f2 := H3.out.r.frozen 2
    go_wp2_with fail
    refine (HK.out _).mono ?_
    rintro r w5 ⟨rfl, rfl⟩
    obtain ⟨t0, t1, t2⟩ := (H3.out.r.set3' (0) (0) (⟨#[]⟩)).cells
    have HP := Lib.hid (H3.out.put3 (.int .i64 (0)) (.int .i64 (0)) (.string (⟨#[]⟩)))
    go_wp2
    refine bodyPost_ret (v := .tuple #[.agg #[.int .i64 (0), .int .i64 (0), .string (⟨#[]⟩)], .int .i64 40]) (by simp [results, Tryz.results38, go_sem, t0, t1, t2]) rfl ⟨?_, HP.out⟩
    rw [HX.out]
    rfl
set_option maxRecDepth 100000 in
set_option maxHeartbeats 1000000 in
theorem g6One5_any (a : V) (w : World) (ha : okV a) : Calls Tryz.prog 38 #[.int .i64 5, a.val] w (RetG (oneV 5 a) w) := by
  obtain ⟨ak, an, sa⟩ := a
  have HK := Lib.hid (fun W => g6takes_any 5 W)
  have HT0 := Lib.hid (fun W => g6truth_any false W)
  have HT1 := Lib.hid (fun W => g6truth_any true W)
  have HNm := Lib.hid (fun n W => g6number_any n W)
  rw [show kindG 5 = 3 from rfl] at HK
  simp only [V.val, truthV, numG, mtS, Bool.false_eq_true, if_false, if_true] at HT0 HT1 HNm ⊢
  obtain ⟨X, hX⟩ : ∃ X, oneV 5 ⟨ak, an, sa⟩ = X := ⟨_, rfl⟩
  rw [hX]
  by_cases hk : ak = 3
  · subst hk
    have k1 : ((3 : Int) == 3) = true := rfl
    have k2 : ((3 : Int) != 3) = false := rfl
    have HX : Hid (X = (⟨1, (sa.size : Int), ⟨#[]⟩⟩, 0)) := Lib.hid (by rw [← hX]; rfl)
    have HN1 := Lib.hid (fun W => HNm.out (sa.size : Int) W)
    have hsz : sa.size ≤ 1000000 := ha.2
    clear hX ha
    have H3 := Lib.hid (Duo.new w ⟨3, an, sa⟩)
    go_enter Tryz.func38, Tryz.ntmps38
    go_upto_region 1 with fail
    simp only [duo_def]
    obtain ⟨g, hg⟩ : ∃ g, w.heap.size = g := ⟨_, rfl⟩
    rw [hg] at H3
    obtain ⟨w3, hw3⟩ : ∃ y, duo w ⟨3, an, sa⟩ = y := ⟨_, rfl⟩
    rw [hw3] at H3 ⊢
    simp only [hg]
    clear hw3 hg
    obtain ⟨a0, a1, a2⟩ := H3.out.a.cells
    simp only at a0 a1 a2
    obtain ⟨r0, r1, r2⟩ := H3.out.r.cells
    have f0 := H3.out.r.frozen 0
    have f1 := H3.out.r.frozen 1
    have f2 := H3.out.r.frozen 2
    go_wp2_with fail
    refine (HK.out _).mono ?_
    rintro r w5 ⟨rfl, rfl⟩
    go_wp2_with fail
    refine (HN1.out _).mono ?_
    rintro r w5 ⟨rfl, hb5⟩
    have H4 := Lib.hid (H3.out.below hb5)
    clear hb5 a0 a1 a2 r0 r1 r2 f0 f1 f2 H3
    have H3 := H4
    clear H4
    obtain ⟨a0, a1, a2⟩ := H3.out.a.cells
    simp only at a0 a1 a2
    obtain ⟨r0, r1, r2⟩ := H3.out.r.cells
    have f0 := H3.out.r.frozen 0
    have f1 := H3.out.r.frozen 1
    have f2 := H3.out.r.frozen 2
    obtain ⟨t0, t1, t2⟩ := (H3.out.r.set3' (1) ((sa.size : Int)) (⟨#[]⟩)).cells
    have HP := Lib.hid (H3.out.put3 (.int .i64 (1)) (.int .i64 ((sa.size : Int))) (.string (⟨#[]⟩)))
    go_wp2
    refine bodyPost_ret (v := .tuple #[.agg #[.int .i64 (1), .int .i64 ((sa.size : Int)), .string (⟨#[]⟩)], .int .i64 0]) (by simp [results, Tryz.results38, go_sem, t0, t1, t2]) rfl ⟨?_, HP.out⟩
    rw [HX.out]
    rfl
  · have k1 : (ak == 3) = false := by rw [beq_eq_false_iff_ne]; exact hk
    have k2 : (ak != 3) = true := by rw [bne_iff_ne]; exact hk
    have HX : Hid (X = (V0, 40)) := Lib.hid (by rw [← hX]; unfold oneV; rw [if_neg (by decide), if_pos (by exact hk)])
    clear hX ha hk
    have H3 := Lib.hid (Duo.new w ⟨ak, an, sa⟩)
    go_enter Tryz.func38, Tryz.ntmps38
    go_upto_region 1 with fail
    simp only [duo_def]
    obtain ⟨g, hg⟩ : ∃ g, w.heap.size = g := ⟨_, rfl⟩
    rw [hg] at H3
    obtain ⟨w3, hw3⟩ : ∃ y, duo w ⟨ak, an, sa⟩ = y := ⟨_, rfl⟩
    rw [hw3] at H3 ⊢
    simp only [hg]
    clear hw3 hg
    obtain ⟨a0, a1, a2⟩ := H3.out.a.cells
    simp only at a0 a1 a2
    obtain ⟨r0, r1, r2⟩ := H3.out.r.cells
    have f0 := H3.out.r.frozen 0
    have f1 := H3.out.r.frozen 1
    have f2 := H3.out.r.frozen 2
    go_wp2_with fail
    refine (HK.out _).mono ?_
    rintro r w5 ⟨rfl, rfl⟩
    obtain ⟨t0, t1, t2⟩ := (H3.out.r.set3' (0) (0) (⟨#[]⟩)).cells
    have HP := Lib.hid (H3.out.put3 (.int .i64 (0)) (.int .i64 (0)) (.string (⟨#[]⟩)))
    go_wp2
    refine bodyPost_ret (v := .tuple #[.agg #[.int .i64 (0), .int .i64 (0), .string (⟨#[]⟩)], .int .i64 40]) (by simp [results, Tryz.results38, go_sem, t0, t1, t2]) rfl ⟨?_, HP.out⟩
    rw [HX.out]
    rfl
set_option maxRecDepth 100000 in
set_option maxHeartbeats 1000000 in
theorem g6OneX_any (op : Int) (hop : op ≠ 3 ∧ op ≠ 4 ∧ op ≠ 5) (a : V) (w : World) : Calls Tryz.prog 38 #[.int .i64 op, a.val] w (RetG (oneV op a) w) := by
  obtain ⟨ak, an, sa⟩ := a
  have hz : kindG op = 0 := by unfold kindG; rw [if_neg hop.1, if_neg hop.2.1, if_neg hop.2.2]
  have HK := Lib.hid (fun W => g6takes_any op W)
  rw [hz] at HK
  simp only [V.val]
  obtain ⟨X, hX⟩ : ∃ X, oneV op ⟨ak, an, sa⟩ = X := ⟨_, rfl⟩
  rw [hX]
  have HX : Hid (X = (V0, 1)) := Lib.hid (by rw [← hX]; unfold oneV; rw [if_pos hz])
  clear hX hz hop
  have H3 := Lib.hid (Duo.new w ⟨ak, an, sa⟩)
  go_enter Tryz.func38, Tryz.ntmps38
  go_upto_region 1 with fail
  simp only [duo_def]
  obtain ⟨g, hg⟩ : ∃ g, w.heap.size = g := ⟨_, rfl⟩
  rw [hg] at H3
  obtain ⟨w3, hw3⟩ : ∃ y, duo w ⟨ak, an, sa⟩ = y := ⟨_, rfl⟩
  rw [hw3] at H3 ⊢
  simp only [hg]
  clear hw3 hg
  obtain ⟨a0, a1, a2⟩ := H3.out.a.cells
  simp only at a0 a1 a2
  obtain ⟨r0, r1, r2⟩ := H3.out.r.cells
  have f0 := H3.out.r.frozen 0
  have f1 := H3.out.r.frozen 1
  have f2 := H3.out.r.frozen 2
  go_wp2_with fail
  refine (HK.out _).mono ?_
  rintro r w5 ⟨rfl, rfl⟩
  obtain ⟨t0, t1, t2⟩ := (H3.out.r.set3' (0) (0) (⟨#[]⟩)).cells
  have HP := Lib.hid (H3.out.put3 (.int .i64 (0)) (.int .i64 (0)) (.string (⟨#[]⟩)))
  go_wp2
  refine bodyPost_ret (v := .tuple #[.agg #[.int .i64 (0), .int .i64 (0), .string (⟨#[]⟩)], .int .i64 1]) (by simp [results, Tryz.results38, go_sem, t0, t1, t2]) rfl ⟨?_, HP.out⟩
  rw [HX.out]
  rfl
theorem g6One_any (op : Int) (a : V) (w : World) (ha : okV a) : Calls Tryz.prog 38 #[.int .i64 op, a.val] w (RetG (oneV op a) w) := by
  by_cases h : op ≠ 3 ∧ op ≠ 4 ∧ op ≠ 5
  · exact g6OneX_any op h a w
  · have h : op = 3 ∨ op = 4 ∨ op = 5 := by omega
    rcases h with rfl | rfl | rfl
    · exact g6One3_any a w ha
    · exact g6One4_any a w ha
    · exact g6One5_any a w ha
end Go.Proofs.YtidomoibhjgkjaaGreatDoor

/-
  Variables: the document's own Get and Set.
-/
namespace Go.Proofs.YtidomoibhjgkjaaGreatDoor
open Go.RowKit

theorem getL_here {l : List VN} {j : Nat} (hj : j < l.length) {nm : ByteArray} (h : (l[j]'hj).1 = nm) : getL (l.drop j) nm = some (l[j]'hj).2 := by
  rw [List.drop_eq_getElem_cons hj, getL, if_pos h]
theorem getL_next {l : List VN} {j : Nat} (hj : j < l.length) {nm : ByteArray} (h : (l[j]'hj).1 ≠ nm) : getL (l.drop j) nm = getL (l.drop (j + 1)) nm := by
  rw [List.drop_eq_getElem_cons hj, getL, if_neg h]

set_option maxRecDepth 100000 in
set_option maxHeartbeats 4000000 in
theorem refGet_any (l : List VN) (A : Option Addr) (c : Nat) (nm : ByteArray) (w : World) (hl : l.length ≤ 1000) (hr : RowN w 0 w.heap.size A l) :
    Calls Tryz.prog 18 #[.slice A l.length c, .string nm] w fun r w' => r = .returned (.tuple #[(getO l nm).val, .bool (getL l nm).isSome]) ∧ Below w.heap.size w w' := by
  have HR := Lib.hid hr
  have HX0 := Lib.hid (Boxed.new w 0 0 ⟨#[]⟩)
  have HB0 := Lib.hid (box_below w #[.int .i64 0, .int .i64 0, .string ⟨#[]⟩] 27)
  clear hr
  go_enter Tryz.func18, Tryz.ntmps18
  go_wp2
  go_loopg [7, 10] l.length (fun q _ i wr => ∃ j : Nat, j + q = l.length ∧ i = .int .i64 j ∧ getL l nm = getL (l.drop j) nm ∧ Below (w.alloc (.cells #[.int .i64 0, .int .i64 0, .string ⟨#[]⟩] 27)).heap.size (w.alloc (.cells #[.int .i64 0, .int .i64 0, .string ⟨#[]⟩] 27)) wr)
  case atStart => exact ⟨0, by omega, rfl, rfl, Below.refl _ _⟩
  case round =>
    obtain ⟨j, hk, rfl, hget, hb⟩ := hrel
    have HK := Lib.hid hk
    have HA := Lib.hid hget
    have HX := Lib.hid (HX0.out.below hb)
    have HB := Lib.hid hb
    have HW := Lib.hid (HB0.out.trans (hb.mono HB0.out.size))
    clear hget hb hk
    by_cases hj : j < l.length
    · have hlt : decide ((j : Int) < (l.length : Int)) = true := by simpa using hj
      have hlt2 : decide (j < l.length) = true := by simpa using hj
      obtain ⟨b, o, rfl, hv⟩ := (HR.out.below HW.out (Nat.le_refl _)).at_ hj
      obtain ⟨c0, c1, c2', c3⟩ := hv
      have HH := Lib.hid (fun h => getL_here hj (nm := nm) h)
      have HN := Lib.hid (fun h => getL_next hj (nm := nm) h)
      generalize l[j] = x at *
      obtain ⟨xn, ⟨k, n, s⟩⟩ := x
      simp only at c0 c1 c2' c3
      have hbn := HB.out.alloc HB.out.size (.cells #[.string xn, .int .i64 k, .int .i64 n, .string s] 67)
      have HBN := Lib.hid hbn
      have hx := HX.out.below ((Below.refl _ wr).alloc (Nat.le_refl _) (.cells #[.string xn, .int .i64 k, .int .i64 n, .string s] 67))
      have HXN := Lib.hid hx
      clear hbn
      by_cases h : xn = nm
      · subst h
        have HF := Lib.hid (HA.out.trans (HH.out rfl))
        obtain ⟨r0, r1, r2⟩ := hx.cells
        have f0 := hx.frozen 0
        have f1 := hx.frozen 1
        have f2 := hx.frozen 2
        obtain ⟨t0, t1, t2⟩ := (hx.set3' k n s).cells
        have HP := Lib.hid (Below.set3' (HW.out.alloc HW.out.size (.cells #[.string xn, .int .i64 k, .int .i64 n, .string s] 67)) (Nat.le_refl _) (.int .i64 k) (.int .i64 n) (.string s))
        clear hx
        go_wp2
        refine bodyPost_ret (v := .tuple #[.agg #[.int .i64 k, .int .i64 n, .string s], .bool true]) (by simp [results, Tryz.results18, go_sem, t0, t1, t2]) rfl ?_
        unfold getO
        rw [HF.out]
        exact ⟨rfl, HP.out⟩
      · have e1 : (xn.toList == nm.toList) = false := by
          rw [beq_eq_false_iff_ne, ByteArray.toList_eq, ByteArray.toList_eq]
          exact fun e => h (ByteArray.ext (Array.ext' e))
        have HF := Lib.hid (HA.out.trans (HN.out h))
        clear h hx
        go_wp2
        go_roundg (gk - 1)
        case measure => have := HK.out; omega
        case rel => exact ⟨j + 1, by have := HK.out; omega, by go_num, HF.out, HBN.out⟩
    · have hj' : j = l.length := by have := HK.out; omega
      have hlt : decide ((j : Int) < (l.length : Int)) = false := by simpa using hj
      have HF : Hid (getL l nm = none) := Lib.hid (by rw [HA.out, hj', List.drop_length]; rfl)
      obtain ⟨r0, r1, r2⟩ := HX.out.cells
      have f0 := HX.out.frozen 0
      have f1 := HX.out.frozen 1
      have f2 := HX.out.frozen 2
      obtain ⟨t0, t1, t2⟩ := (HX.out.set3' 0 0 ⟨#[]⟩).cells
      have HP := Lib.hid (Below.set3' HW.out (Nat.le_refl _) (.int .i64 0) (.int .i64 0) (.string ⟨#[]⟩))
      clear hj'
      go_wp2
      refine bodyPost_ret (v := .tuple #[.agg #[.int .i64 0, .int .i64 0, .string ⟨#[]⟩], .bool false]) (by simp [results, Tryz.results18, go_sem, t0, t1, t2]) rfl ?_
      unfold getO
      rw [HF.out]
      exact ⟨rfl, HP.out⟩

/-! ### Set -/
theorem infoVar : ∃ i z, Tryz.prog.info? 67 = some i ∧ i.zero = some z ∧ z.cells.size = 4 ∧ i.size = 4 ∧ i.bytes = 48 := by
  have h : (Tryz.prog.info? 67).map (fun i => (i.zero.map (fun z => z.cells.size), i.size, i.bytes)) = some (some 4, 4, 48) := by kernel_rfl
  obtain ⟨i, hi, hz⟩ := Option.map_eq_some_iff.1 h
  simp only [Prod.mk.injEq] at hz
  obtain ⟨z, hz0, hz1⟩ := Option.map_eq_some_iff.1 hz.1
  exact ⟨i, z, hi, hz0, hz1, hz.2.1, hz.2.2⟩
/-- A slice of these variables, in a block from lo on that nothing else has. -/
def OwnN (w : World) (lo : Nat) (v : Value) (l : List VN) : Prop := w.ownsRow lo 67 4 v l.length (flatV l)
theorem OwnN.lt {w : World} {lo : Nat} {v : Value} {l : List VN} (h : OwnN w lo v l) : ∀ g, v.ownBlock = some g → lo ≤ g ∧ g < w.heap.size := fun g hg => World.ownsRow.lt h g hg
theorem OwnN.allocs {w : World} {lo : Nat} {v : Value} {l : List VN} (h : OwnN w lo v l) (o : Obj) : OwnN (w.alloc o) lo v l := World.ownsRow.alloc h o
theorem OwnN.keep {w w' : World} {lo lo' : Nat} {v : Value} {l : List VN} (h : OwnN w lo v l) (hk : ∀ g, v.ownBlock = some g → g < w.heap.size → w'.heap[g]? = w.heap[g]?) (hlo : lo' ≤ lo) : OwnN w' lo' v l := by
  refine ⟨h.1, ?_⟩
  rcases h.2 with h2 | ⟨g, cap, cur, hv, hb, hg, r⟩
  · exact .inl h2
  · refine .inr ⟨g, cap, cur, hv, by omega, ?_, r⟩
    rw [hk g (by rw [hv]; rfl) (Array.getElem?_eq_some_iff.1 hg).1]
    exact hg
theorem heap1 (w : World) (a b : Obj) : ((w.alloc a).alloc b).heap[w.heap.size]? = some a := ((Below.refl _ (w.alloc a)).alloc (Nat.le_refl _) b |>.block _ (by simp)).trans (heap_alloc_new w a)
theorem heap2 (w : World) (a b : Obj) : ((w.alloc a).alloc b).heap[w.heap.size + 1]? = some b := by
  have h := heap_alloc_new (w.alloc a) b
  rwa [show (w.alloc a).heap.size = w.heap.size + 1 from by simp] at h
theorem OwnN.form {w : World} {lo : Nat} {v : Value} {l : List VN} (h : OwnN w lo v l) : ∃ A c, v = .slice A l.length c ∧ l.length ≤ c ∧ c ≤ maxLen ∧ (A = none → c = 0) ∧ RowN w lo w.heap.size A l := by
  have hf := h.1
  rcases h.2 with ⟨hv, hn⟩ | ⟨g, cap, cur, hv, hb, hg, hcap, hm, _⟩
  · exact ⟨none, 0, by rw [hv, hn], by omega, Nat.zero_le _, fun _ => rfl, fun hp => by omega⟩
  · refine ⟨some ⟨g, 0, none⟩, cap, hv, hcap, hm, (fun e => by cases e), fun hp => ⟨g, 0, rfl, hb, (Array.getElem?_eq_some_iff.1 hg).1, fun j hj => ?_⟩⟩
    subst hv
    have hc := World.ownsRow.cells h (g := g) rfl
    obtain ⟨t0, t1, t2, t3⟩ := flatV_at l j hj
    have add : ∀ k, (⟨g, 0, none⟩ : Addr).add k = ⟨g, k, none⟩ := fun k => by unfold Addr.add; split <;> simp_all
    have c0 := hc _ _ t0
    have c1 := hc _ _ t1
    have c2 := hc _ _ t2
    have c3 := hc _ _ t3
    rw [add] at c0 c1 c2 c3
    rw [Nat.zero_add]
    exact ⟨c0, c1, c2, c3⟩
set_option maxRecDepth 100000 in
theorem append_var (w : World) {ops : Array Oper} {rest : List Oper} {o : Oper} {a : Act} {Q : Exit → Act → World → Prop} (hgd : o.guard = none) (s x : Operand)
    (ho : o.op = .call { callee := .builtin .append, args := #[s, x], argTypes := #[23, 23] })
    (base : Nat) (v : Value) (l : List VN) (hs : a.eval s = v) (hown : OwnN w base v l)
    (g c : Nat) (y : VN) (hx : a.eval x = .slice (some ⟨g, 0, none⟩) 1 c) (hr : w.heap[g]? = some (.cells #[.string y.1, .int .i64 y.2.k, .int .i64 y.2.n, .string y.2.s] 67 (0, 0)))
    (hbig : l.length ≤ 1000) (hbase : base ≤ w.heap.size)
    (h : ∀ v' w', OwnN w' base v' (l ++ [y]) → w.grownBy w' v.ownBlock → wpList Tryz.prog ops Q rest (a.put o.dst v') w') : wpList Tryz.prog ops Q (o :: rest) a w := by
  obtain ⟨i, z, hi0, hz0, hzs, hz2, hz3⟩ := infoVar
  refine wpList_append_own w hgd s x _ ho base _ i z 4 48 Tryz.underlying23 hi0 hz0 hz2 hz3 hzs (by omega) v l.length (flatV l) hs hown ⟨g, 0, none⟩ 1 c (flatV [y]) hx (flatV_len [y]) ?_ (flatV_one [y]) (by unfold maxLen; omega) (by omega) hbase ?_
  · intro j u hu
    have hadd : (⟨g, 0, none⟩ : Addr).add j = ⟨g, j, none⟩ := by unfold Addr.add; split <;> simp_all
    rw [hadd, cell_of_row w g j _ _ _ hr]
    simpa [flatV, varCells] using hu
  · intro v' w' h1 h2 _
    refine h v' w' ?_ h2
    unfold OwnN
    rw [List.length_append, flatV_append]
    exact h1

/-- What is still to come of the variables. -/
def restS (has fin : Bool) (l : List VN) (x : VN) : List VN := if fin = true then l else if has = true then putL l x else insL l x
theorem hasL_get (l : List VN) (nm : ByteArray) : (getL l nm).isSome = hasL l nm := by
  induction l with
  | nil => rfl
  | cons y l ih =>
    unfold getL hasL
    by_cases h : y.1 = nm
    · simp [h]
    · simp only [if_neg h, List.any_cons, h, decide_false, Bool.false_or]
      exact ih
theorem restS_all (l : List VN) (x : VN) : restS (hasL l x.1) false l x = setL l x := rfl
theorem restS_fin (has : Bool) (y : VN) (l : List VN) (x : VN) : restS has true (y :: l) x = [y] ++ restS has true l x := rfl
theorem restS_put {y : VN} {l : List VN} {x : VN} (h : y.1 = x.1) : restS true false (y :: l) x = [x] ++ restS true true l x := by
  show putL (y :: l) x = x :: l
  unfold putL
  rw [if_pos h]
theorem restS_go {y : VN} {l : List VN} {x : VN} (h : y.1 ≠ x.1) : restS true false (y :: l) x = [y] ++ restS true false l x := by
  show putL (y :: l) x = y :: putL l x
  rw [putL, if_neg h]
theorem restS_ins {y : VN} {l : List VN} {x : VN} (h : blt x.1.data.toList y.1.data.toList = true) : restS false false (y :: l) x = [x] ++ ([y] ++ restS false true l x) := by
  show insL (y :: l) x = x :: y :: l
  rw [insL, if_pos h]
theorem restS_on {y : VN} {l : List VN} {x : VN} (h : blt x.1.data.toList y.1.data.toList = false) : restS false false (y :: l) x = [y] ++ restS false false l x := by
  show insL (y :: l) x = y :: insL l x
  rw [insL, if_neg (by simp [h])]

set_option maxRecDepth 100000 in
set_option maxHeartbeats 4000000 in
theorem refSet_any (l : List VN) (A : Option Addr) (c : Nat) (x : VN) (w : World) (hl : l.length ≤ 100) (hr : RowN w 0 w.heap.size A l) :
    Calls Tryz.prog 29 #[.slice A l.length c, .agg #[.string x.1, .int .i64 x.2.k, .int .i64 x.2.n, .string x.2.s]] w (RetVars (setL l x) w) := by
  obtain ⟨xn, ⟨xk, xm, xs⟩⟩ := x
  dsimp only
  have hb1 := box_below w #[.string xn, .int .i64 xk, .int .i64 xm, .string xs] 67
  have hx1 := heap_alloc_new w (.cells #[.string xn, .int .i64 xk, .int .i64 xm, .string xs] 67)
  have hl1 : w.heap.size < (w.alloc (.cells #[.string xn, .int .i64 xk, .int .i64 xm, .string xs] 67)).heap.size := by simp
  obtain ⟨w1, hw⟩ : ∃ y, w.alloc (.cells #[.string xn, .int .i64 xk, .int .i64 xm, .string xs] 67) = y := ⟨_, rfl⟩
  rw [hw] at hb1 hx1 hl1
  have hb2 := (Below.refl _ w1).alloc (Nat.le_refl _) (.cells #[] 67)
  have ho2 : OwnN (w1.alloc (.cells #[] 67)) w1.heap.size (.slice (some ⟨w1.heap.size, 0, none⟩) 0 0) [] := World.ownsRow_made w1 #[] 0 (Nat.le_refl _) (Nat.zero_le _) (by simp)
  have hB2 := hb1.trans (hb2.mono hb1.size)
  have hx2 := (hb2.block _ hl1).trans hx1
  have HG := Lib.hid (refGet_any l A c xn (w1.alloc (.cells #[] 67)) (by omega) ((hr.below hB2 (Nat.le_refl _)).wide (Nat.le_refl _) hB2.size))
  obtain ⟨v0, hv0⟩ : ∃ v, getO l xn = v := ⟨_, rfl⟩
  obtain ⟨has, hhas⟩ : ∃ b, hasL l xn = b := ⟨_, rfl⟩
  rw [hv0, hasL_get, hhas] at HG
  obtain ⟨k0, n0, s0⟩ := v0
  simp only [V.val] at HG
  obtain ⟨M, hM⟩ : ∃ M, setL l (xn, ⟨xk, xm, xs⟩) = M := ⟨_, rfl⟩
  rw [hM]
  have hst : M = [] ++ restS has false (l.drop 0) (xn, ⟨xk, xm, xs⟩) := by rw [← hM, ← hhas]; rfl
  have hlen : M.length ≤ l.length + 1 := by rw [← hM]; exact set_len _ _
  have HW := Lib.hid hw
  have HST := Lib.hid hst
  have HLEN := Lib.hid hlen
  have HHAS := Lib.hid (show hasL (l.drop 0) xn = has by rw [List.drop_zero]; exact hhas)
  have HO2 := Lib.hid ho2
  have HB2 := Lib.hid hB2
  have HX2 := Lib.hid hx2
  have z0 : (w1.alloc (.cells #[] 67)).cell? ⟨w.heap.size, 0, none⟩ = some (.string xn) := cell_of_row _ w.heap.size 0 _ _ _ hx2
  have HR := Lib.hid hr
  have HL1 := Lib.hid hl1
  have HB1 := Lib.hid hb1
  obtain ⟨sx, hsx⟩ : ∃ y, w.heap.size = y := ⟨_, rfl⟩
  have HSX := Lib.hid hsx
  rw [hsx] at HX2 HL1 z0
  clear hb1 hx1 hl1 hw hb2 ho2 hB2 hx2 hv0 hhas hM hst hlen hr hsx
  go_enter Tryz.func29, Tryz.ntmps29
  go_upto_region 1 with fail
  rw [HW.out, HSX.out]
  clear HW
  go_wp2_with fail
  refine HG.out.mono ?_
  rintro r w3 ⟨rfl, hb3⟩
  dsimp only
  have hb4 := box_below w3 #[.int .i64 k0, .int .i64 n0, .string s0] 27
  have hbb := hb3.trans (hb4.mono hb3.size)
  have ho4 : OwnN (w3.alloc (.cells #[.int .i64 k0, .int .i64 n0, .string s0] 27)) w1.heap.size (.slice (some ⟨w1.heap.size, 0, none⟩) 0 0) [] := HO2.out.keep (fun g _ hg => hbb.block g hg) (Nat.le_refl _)
  have hb14 : Below w1.heap.size w1 (w3.alloc (.cells #[.int .i64 k0, .int .i64 n0, .string s0] 27)) := ((Below.refl _ w1).alloc (Nat.le_refl _) (.cells #[] 67)).trans (hbb.mono (by simp))
  obtain ⟨w4, hw⟩ : ∃ y, w3.alloc (.cells #[.int .i64 k0, .int .i64 n0, .string s0] 27) = y := ⟨_, rfl⟩
  rw [hw] at ho4 hb14
  have HX1 : Hid (w1.heap[sx]? = some (.cells #[.string xn, .int .i64 xk, .int .i64 xm, .string xs] 67 (0, 0))) := Lib.hid (by rw [← (((Below.refl _ w1).alloc (Nat.le_refl _) (.cells #[] 67)).block _ HL1.out)]; exact HX2.out)
  have HR1 := Lib.hid (HR.out.below HB1.out (Nat.le_refl _))
  have HSZ := Lib.hid HB1.out.size
  have HW4 := Lib.hid hw
  have HO4 := Lib.hid ho4
  have HB4 := Lib.hid hb14
  obtain ⟨lo, hlo⟩ : ∃ y, w1.heap.size = y := ⟨_, rfl⟩
  rw [hlo] at HO4 HB4 HL1 HSZ
  have HLO := Lib.hid hlo
  clear hb3 hb4 hbb ho4 hb14 hw hlo HX2 HB2 HO2 HR HG
  clear z0
  go_upto_region 3 with fail
  rw [HW4.out, HLO.out]
  clear HW4
  go_wp2_with fail
  go_loopg [5, 8, 10, 21] l.length (fun q v d _ i wr => ∃ (j : Nat) (out : List VN) (fin : Bool), j + q = l.length ∧ i = .int .i64 j ∧ d = .bool fin ∧ OwnN wr lo v out ∧ Below lo w1 wr ∧ M = out ++ restS has fin (l.drop j) (xn, ⟨xk, xm, xs⟩) ∧ (fin = false → hasL (l.drop j) xn = has))
  case atStart => exact ⟨0, [], false, by omega, rfl, rfl, HO4.out, HB4.out, HST.out, fun _ => HHAS.out⟩
  case round =>
    obtain ⟨j, out, fin, hk, rfl, rfl, ho, hb, hst, hha⟩ := hrel
    have HK := Lib.hid hk
    have HO := Lib.hid ho
    have HB := Lib.hid hb
    have HS := Lib.hid hst
    have HA := Lib.hid hha
    have holen : out.length ≤ 500 := by
      have h1 := HLEN.out
      rw [hst, List.length_append] at h1
      omega
    have hlow : lo ≤ wr.heap.size := by have := hb.size; have := HLO.out; omega
    have hxb := (hb.block _ HL1.out).trans HX1.out
    have x0 : wr.cell? ⟨sx, 0, none⟩ = some (.string xn) := cell_of_row wr sx 0 _ _ _ hxb
    have x1 : wr.cell? ⟨sx, 1, none⟩ = some (.int .i64 xk) := cell_of_row wr sx 1 _ _ _ hxb
    have x2 : wr.cell? ⟨sx, 2, none⟩ = some (.int .i64 xm) := cell_of_row wr sx 2 _ _ _ hxb
    have x3 : wr.cell? ⟨sx, 3, none⟩ = some (.string xs) := cell_of_row wr sx 3 _ _ _ hxb
    clear ho hb hst hha hk
    by_cases hj : j < l.length
    · have hlt : decide ((j : Int) < (l.length : Int)) = true := by simpa using hj
      have hlt2 : decide (j < l.length) = true := by simpa using hj
      obtain ⟨b, o, rfl, hv⟩ := (HR1.out.below HB.out (by have := HSZ.out; have := HLO.out; omega)).at_ hj
      obtain ⟨c0, c1, c2', c3⟩ := hv
      have HDR := Lib.hid (List.drop_eq_getElem_cons hj)
      generalize l[j] = y at *
      obtain ⟨yn, ⟨yk, ym, ys⟩⟩ := y
      simp only at c0 c1 c2' c3
      have hxc := (((Below.refl _ wr).alloc (Nat.le_refl _) (.cells #[.string yn, .int .i64 yk, .int .i64 ym, .string ys] 67)).block sx (Array.getElem?_eq_some_iff.1 hxb).1).trans hxb
      have X0 : (wr.alloc (.cells #[.string yn, .int .i64 yk, .int .i64 ym, .string ys] 67)).cell? ⟨sx, 0, none⟩ = some (.string xn) := cell_of_row _ sx 0 _ _ _ hxc
      have X1 : (wr.alloc (.cells #[.string yn, .int .i64 yk, .int .i64 ym, .string ys] 67)).cell? ⟨sx, 1, none⟩ = some (.int .i64 xk) := cell_of_row _ sx 1 _ _ _ hxc
      have X2 : (wr.alloc (.cells #[.string yn, .int .i64 yk, .int .i64 ym, .string ys] 67)).cell? ⟨sx, 2, none⟩ = some (.int .i64 xm) := cell_of_row _ sx 2 _ _ _ hxc
      have X3 : (wr.alloc (.cells #[.string yn, .int .i64 yk, .int .i64 ym, .string ys] 67)).cell? ⟨sx, 3, none⟩ = some (.string xs) := cell_of_row _ sx 3 _ _ _ hxc
      clear hxc
      have HLW := Lib.hid hlow
      have HSd := Lib.hid (show M = out ++ restS has fin ((yn, ⟨yk, ym, ys⟩) :: l.drop (j + 1)) (xn, ⟨xk, xm, xs⟩) by rw [HS.out, HDR.out])
      have HAd := Lib.hid (show fin = false → hasL ((yn, ⟨yk, ym, ys⟩) :: l.drop (j + 1)) xn = has from fun h => by rw [← HDR.out]; exact HA.out h)
      clear hxb hlow
      cases fin
      · cases has
        · have hne : yn ≠ xn := fun e => by
            have h := HAd.out rfl
            simp [hasL, e] at h
          have HNE := Lib.hid (show hasL (l.drop (j + 1)) xn = false by
            have h := HAd.out rfl
            simpa [hasL, hne] using h)
          have e1 : (yn.toList == xn.toList) = false := by
            rw [beq_eq_false_iff_ne, ByteArray.toList_eq, ByteArray.toList_eq]
            exact fun e => hne (ByteArray.ext (Array.ext' e))
          have e2 : ∀ q, blt yn.data.toList xn.data.toList = q → Op.bytesLess yn.toList xn.toList = q := fun q hq => by rw [ByteArray.toList_eq, ByteArray.toList_eq]; exact hq
          by_cases hb : blt xn.data.toList yn.data.toList = true
          · have e3 := e2 _ (blt_asymm hb)
            have HS2 := Lib.hid (HSd.out.trans (by rw [restS_ins (y := (yn, ⟨yk, ym, ys⟩)) (x := (xn, ⟨xk, xm, xs⟩)) hb]))
            clear hb e2 hne
            go_wp2_with (first
              | (at_builtin; refine append_var _ rfl _ _ rfl lo _ out rfl ((HO.out.allocs _).allocs _) (wr.heap.size + 1) 1 (xn, ⟨xk, xm, xs⟩) rfl (heap2 wr _ _) (by omega) (by have := HLW.out; simp; omega) ?_; intro v1 w5 ho5 hg5; have HB5 := Lib.hid (((HB.out.alloc HLW.out (.cells #[.string yn, .int .i64 yk, .int .i64 ym, .string ys] 67)).alloc (by have := HLW.out; simp; omega) (.cells #[.string xn, .int .i64 xk, .int .i64 xm, .string xs] 67)).grown hg5 (by have := HLW.out; simp; omega) (fun k hk => (HO.out.lt k hk).1)); have HYb := hg5.block wr.heap.size (by simp; omega) (fun e => by have := (HO.out.lt _ e.symm).2; omega); have HYh : Hid (w5.heap[wr.heap.size]? = some (.cells #[.string yn, .int .i64 yk, .int .i64 ym, .string ys] 67 (0, 0))) := Lib.hid (HYb.trans (heap1 wr _ _)); have y0 : w5.cell? ⟨wr.heap.size, 0, none⟩ = some (.string yn) := cell_of_row w5 _ 0 _ _ _ HYh.out; have y1 : w5.cell? ⟨wr.heap.size, 1, none⟩ = some (.int .i64 yk) := cell_of_row w5 _ 1 _ _ _ HYh.out; have y2 : w5.cell? ⟨wr.heap.size, 2, none⟩ = some (.int .i64 ym) := cell_of_row w5 _ 2 _ _ _ HYh.out; have y3 : w5.cell? ⟨wr.heap.size, 3, none⟩ = some (.string ys) := cell_of_row w5 _ 3 _ _ _ HYh.out; have HL5 := Lib.hid (show lo ≤ w5.heap.size from Nat.le_trans HLW.out (Nat.le_trans (by simp; omega) hg5.size)); have HO5 := Lib.hid ho5; clear ho5 hg5 HYb)
              | (at_builtin; refine append_var _ rfl _ _ rfl lo _ (out ++ [(xn, ⟨xk, xm, xs⟩)]) rfl (HO5.out.allocs _) w5.heap.size 1 (yn, ⟨yk, ym, ys⟩) rfl (heap_alloc_new w5 _) (by simp; omega) (by have := HL5.out; simp; omega) ?_; intro v2 w6 ho6 hg6; have HB6 := Lib.hid ((HB5.out.alloc HL5.out (.cells #[.string yn, .int .i64 yk, .int .i64 ym, .string ys] 67)).grown hg6 (by have := HL5.out; simp; omega) (fun k hk => (HO5.out.lt k hk).1)); have HO6 := Lib.hid ho6; clear ho6 hg6))
            go_roundg (gk - 1)
            case measure => have := HK.out; omega
            case rel => exact ⟨j + 1, out ++ [(xn, ⟨xk, xm, xs⟩)] ++ [(yn, ⟨yk, ym, ys⟩)], true, by have := HK.out; omega, by go_num, rfl, HO6.out, HB6.out, by rw [HS2.out]; simp [List.append_assoc], fun h => by cases h⟩
          · have hb : blt xn.data.toList yn.data.toList = false := by simpa using hb
            have hlt9 : blt yn.data.toList xn.data.toList = true := by
              rcases blt_tri yn.data.toList xn.data.toList with h | h | h
              · exact h
              · exact absurd (ByteArray.ext (Array.ext' h)) hne
              · rw [hb] at h; cases h
            have e3 := e2 _ hlt9
            have HS2 := Lib.hid (HSd.out.trans (by rw [restS_on (y := (yn, ⟨yk, ym, ys⟩)) (x := (xn, ⟨xk, xm, xs⟩)) hb]))
            clear hb e2 hne hlt9
            go_wp2_with (at_builtin; refine append_var _ rfl _ _ rfl lo _ out rfl ((HO.out.allocs _).allocs _) (wr.heap.size + 1) 1 ((yn, ⟨yk, ym, ys⟩)) rfl (heap2 wr _ _) (by omega) (by have := HLW.out; simp; omega) ?_; intro v1 w5 ho5 hg5; have HB5 := Lib.hid (((HB.out.alloc HLW.out (.cells #[.string yn, .int .i64 yk, .int .i64 ym, .string ys] 67)).alloc (by have := HLW.out; simp; omega) (.cells #[.string yn, .int .i64 yk, .int .i64 ym, .string ys] 67)).grown hg5 (by have := HLW.out; simp; omega) (fun k hk => (HO.out.lt k hk).1)); have HO5 := Lib.hid ho5; clear ho5 hg5)
            go_roundg (gk - 1)
            case measure => have := HK.out; omega
            case rel => exact ⟨j + 1, out ++ [(yn, ⟨yk, ym, ys⟩)], false, by have := HK.out; omega, by go_num, rfl, HO5.out, HB5.out, by rw [HS2.out]; simp [List.append_assoc], fun _ => HNE.out⟩
        · by_cases he : yn = xn
          · subst he
            have HS2 := Lib.hid (HSd.out.trans (by rw [restS_put (y := (yn, ⟨yk, ym, ys⟩)) (x := (yn, ⟨xk, xm, xs⟩)) rfl]))
            go_wp2_with (at_builtin; refine append_var _ rfl _ _ rfl lo _ out rfl ((HO.out.allocs _).allocs _) (wr.heap.size + 1) 1 ((yn, ⟨xk, xm, xs⟩)) rfl (heap2 wr _ _) (by omega) (by have := HLW.out; simp; omega) ?_; intro v1 w5 ho5 hg5; have HB5 := Lib.hid (((HB.out.alloc HLW.out (.cells #[.string yn, .int .i64 xk, .int .i64 xm, .string xs] 67)).alloc (by have := HLW.out; simp; omega) (.cells #[.string yn, .int .i64 xk, .int .i64 xm, .string xs] 67)).grown hg5 (by have := HLW.out; simp; omega) (fun k hk => (HO.out.lt k hk).1)); have HO5 := Lib.hid ho5; clear ho5 hg5)
            go_roundg (gk - 1)
            case measure => have := HK.out; omega
            case rel => exact ⟨j + 1, out ++ [(yn, ⟨xk, xm, xs⟩)], true, by have := HK.out; omega, by go_num, rfl, HO5.out, HB5.out, by rw [HS2.out]; simp [List.append_assoc], fun h => by cases h⟩
          · have HNE := Lib.hid (show hasL (l.drop (j + 1)) xn = true by
              have h := HAd.out rfl
              simpa [hasL, he] using h)
            have e1 : (yn.toList == xn.toList) = false := by
              rw [beq_eq_false_iff_ne, ByteArray.toList_eq, ByteArray.toList_eq]
              exact fun e => he (ByteArray.ext (Array.ext' e))
            have HS2 := Lib.hid (HSd.out.trans (by rw [restS_go (y := (yn, ⟨yk, ym, ys⟩)) (x := (xn, ⟨xk, xm, xs⟩)) he]))
            clear he
            go_wp2_with (at_builtin; refine append_var _ rfl _ _ rfl lo _ out rfl ((HO.out.allocs _).allocs _) (wr.heap.size + 1) 1 ((yn, ⟨yk, ym, ys⟩)) rfl (heap2 wr _ _) (by omega) (by have := HLW.out; simp; omega) ?_; intro v1 w5 ho5 hg5; have HB5 := Lib.hid (((HB.out.alloc HLW.out (.cells #[.string yn, .int .i64 yk, .int .i64 ym, .string ys] 67)).alloc (by have := HLW.out; simp; omega) (.cells #[.string yn, .int .i64 yk, .int .i64 ym, .string ys] 67)).grown hg5 (by have := HLW.out; simp; omega) (fun k hk => (HO.out.lt k hk).1)); have HO5 := Lib.hid ho5; clear ho5 hg5)
            go_roundg (gk - 1)
            case measure => have := HK.out; omega
            case rel => exact ⟨j + 1, out ++ [(yn, ⟨yk, ym, ys⟩)], false, by have := HK.out; omega, by go_num, rfl, HO5.out, HB5.out, by rw [HS2.out]; simp [List.append_assoc], fun _ => HNE.out⟩
      · have HS2 := Lib.hid (HSd.out.trans (by rw [restS_fin has (yn, ⟨yk, ym, ys⟩) (l.drop (j + 1)) (xn, ⟨xk, xm, xs⟩)]))
        go_wp2_with (at_builtin; refine append_var _ rfl _ _ rfl lo _ out rfl ((HO.out.allocs _).allocs _) (wr.heap.size + 1) 1 ((yn, ⟨yk, ym, ys⟩)) rfl (heap2 wr _ _) (by omega) (by have := HLW.out; simp; omega) ?_; intro v1 w5 ho5 hg5; have HB5 := Lib.hid (((HB.out.alloc HLW.out (.cells #[.string yn, .int .i64 yk, .int .i64 ym, .string ys] 67)).alloc (by have := HLW.out; simp; omega) (.cells #[.string yn, .int .i64 yk, .int .i64 ym, .string ys] 67)).grown hg5 (by have := HLW.out; simp; omega) (fun k hk => (HO.out.lt k hk).1)); have HO5 := Lib.hid ho5; clear ho5 hg5)
        go_roundg (gk - 1)
        case measure => have := HK.out; omega
        case rel => exact ⟨j + 1, out ++ [(yn, ⟨yk, ym, ys⟩)], true, by have := HK.out; omega, by go_num, rfl, HO5.out, HB5.out, by rw [HS2.out]; simp [List.append_assoc], fun h => by cases h⟩
    · have hj' : j = l.length := by have := HK.out; omega
      have hlt : decide ((j : Int) < (l.length : Int)) = false := by simpa using hj
      have HLW := Lib.hid hlow
      have hdr : l.drop j = [] := by rw [hj', List.drop_length]
      have HSd := Lib.hid (show M = out ++ restS has fin [] (xn, ⟨xk, xm, xs⟩) by rw [HS.out, hdr])
      have HAd := Lib.hid (show fin = false → false = has from fun h => by have := HA.out h; rw [hdr] at this; exact this)
      clear hxb hlow hj' hdr
      cases fin
      · obtain rfl := HAd.out rfl
        have HS2 := Lib.hid (show M = out ++ [(xn, ⟨xk, xm, xs⟩)] from HSd.out)
        go_wp2_with (at_builtin; refine append_var _ rfl _ _ rfl lo _ out rfl (HO.out.allocs _) wr.heap.size 1 (xn, ⟨xk, xm, xs⟩) rfl (heap_alloc_new wr _) (by omega) (by have := HLW.out; simp; omega) ?_; intro v1 w5 ho5 hg5; have HB5 := Lib.hid ((HB.out.alloc HLW.out (.cells #[.string xn, .int .i64 xk, .int .i64 xm, .string xs] 67)).grown hg5 (by have := HLW.out; simp; omega) (fun k hk => (HO.out.lt k hk).1)); have HO5 := Lib.hid ho5; clear ho5 hg5)
        go_ret
        obtain ⟨A9, c9, rfl, h1, h2, h3, h4⟩ := HO5.out.form
        rw [← HS2.out] at h1 h4 ⊢
        exact ⟨A9, c9, rfl, h1, h2, h3, h4.wide (Nat.zero_le _) (Nat.le_refl _), HB1.out.trans (HB5.out.mono HSZ.out)⟩
      · have HS2 := Lib.hid (show M = out by rw [HSd.out]; exact List.append_nil _)
        go_wp2
        go_ret
        obtain ⟨A9, c9, rfl, h1, h2, h3, h4⟩ := HO.out.form
        rw [← HS2.out] at h1 h4 ⊢
        exact ⟨A9, c9, rfl, h1, h2, h3, h4.wide (Nat.zero_le _) (Nat.le_refl _), HB1.out.trans (HB.out.mono HSZ.out)⟩
end Go.Proofs.YtidomoibhjgkjaaGreatDoor

/-
  What an expression comes to: the document's own answer.
-/
namespace Go.Proofs.YtidomoibhjgkjaaGreatDoor
open Go.RowKit

/-! ### the place of the error that is told -/
def ErrB (w : World) (s : Nat) (v0 v1 v2 v3 v4 v5 : Value) : Prop := w.heap[s]? = some (.cells #[v0, v1, v2, v3, v4, v5] 37 (0, 0))
section
variable {w : World} {s : Nat} {v0 v1 v2 v3 v4 v5 : Value}
theorem ErrB.below {w' : World} {B : Nat} (h : ErrB w s v0 v1 v2 v3 v4 v5) (hb : Below B w w') (hs : s < B) : ErrB w' s v0 v1 v2 v3 v4 v5 := (hb.block s hs).trans h
theorem ErrB.cell (h : ErrB w s v0 v1 v2 v3 v4 v5) (o : Nat) : w.cell? ⟨s, o, none⟩ = (#[v0, v1, v2, v3, v4, v5] : Array Value)[o]? := cell_of_row w s o _ _ _ h
theorem ErrB.frozen (h : ErrB w s v0 v1 v2 v3 v4 v5) (o : Nat) : w.frozen? ⟨s, o, none⟩ = false := by unfold ErrB at h; simp [World.frozen?, h]
theorem ErrB.put0 (h : ErrB w s v0 v1 v2 v3 v4 v5) (x : Value) : ErrB (w.setCell ⟨s, 0, none⟩ x) s x v1 v2 v3 v4 v5 := by unfold ErrB; rw [heap_setCell_same w s 0 _ _ _ h]; rfl
theorem ErrB.put1 (h : ErrB w s v0 v1 v2 v3 v4 v5) (x : Value) : ErrB (w.setCell ⟨s, 1, none⟩ x) s v0 x v2 v3 v4 v5 := by unfold ErrB; rw [heap_setCell_same w s 1 _ _ _ h]; rfl
theorem ErrB.put2 (h : ErrB w s v0 v1 v2 v3 v4 v5) (x : Value) : ErrB (w.setCell ⟨s, 2, none⟩ x) s v0 v1 x v3 v4 v5 := by unfold ErrB; rw [heap_setCell_same w s 2 _ _ _ h]; rfl
theorem ErrB.put3 (h : ErrB w s v0 v1 v2 v3 v4 v5) (x : Value) : ErrB (w.setCell ⟨s, 3, none⟩ x) s v0 v1 v2 x v4 v5 := by unfold ErrB; rw [heap_setCell_same w s 3 _ _ _ h]; rfl
theorem ErrB.put4 (h : ErrB w s v0 v1 v2 v3 v4 v5) (x : Value) : ErrB (w.setCell ⟨s, 4, none⟩ x) s v0 v1 v2 v3 x v5 := by unfold ErrB; rw [heap_setCell_same w s 4 _ _ _ h]; rfl
theorem ErrB.put5 (h : ErrB w s v0 v1 v2 v3 v4 v5) (x : Value) : ErrB (w.setCell ⟨s, 5, none⟩ x) s v0 v1 v2 v3 v4 x := by unfold ErrB; rw [heap_setCell_same w s 5 _ _ _ h]; rfl
theorem ErrB.other {t o : Nat} {x : Value} (h : ErrB w s v0 v1 v2 v3 v4 v5) (ht : s ≠ t) : ErrB (w.setCell ⟨t, o, none⟩ x) s v0 v1 v2 v3 v4 v5 := (Below.heap_setCell _ _ _ _ ht).trans h
end
/-- Both are stored: the value at s, the error at s + 1. -/
def put9 (w : World) (s : Nat) (k n : Value) (t : Value) (v0 v1 v2 v3 v4 v5 : Value) : World :=
  ((((((((w.setCell ⟨s, 0, none⟩ k).setCell ⟨s, 1, none⟩ n).setCell ⟨s, 2, none⟩ t).setCell ⟨s + 1, 0, none⟩ v0).setCell ⟨s + 1, 1, none⟩ v1).setCell ⟨s + 1, 2, none⟩ v2).setCell ⟨s + 1, 3, none⟩ v3).setCell ⟨s + 1, 4, none⟩ v4).setCell ⟨s + 1, 5, none⟩ v5
structure Put9 (w0 w : World) (s : Nat) (k n t v0 v1 v2 v3 v4 v5 : Value) : Prop where
  a0 : w.cell? ⟨s, 0, none⟩ = some k
  a1 : w.cell? ⟨s, 1, none⟩ = some n
  a2 : w.cell? ⟨s, 2, none⟩ = some t
  e0 : w.cell? ⟨s + 1, 0, none⟩ = some v0
  e1 : w.cell? ⟨s + 1, 1, none⟩ = some v1
  e2 : w.cell? ⟨s + 1, 2, none⟩ = some v2
  e3 : w.cell? ⟨s + 1, 3, none⟩ = some v3
  e4 : w.cell? ⟨s + 1, 4, none⟩ = some v4
  e5 : w.cell? ⟨s + 1, 5, none⟩ = some v5
  hb : Below w0.heap.size w0 w
theorem put9_is {w0 w : World} {s : Nat} {u0 u1 u2 u3 u4 u5 : Value} (h6 : Boxed w s V0) (h8 : ErrB w (s + 1) u0 u1 u2 u3 u4 u5) (hb : Below w0.heap.size w0 w) (hs : w0.heap.size ≤ s) (k n : Int) (t : ByteArray) (v0 v1 v2 v3 v4 v5 : Value) :
    Put9 w0 (put9 w s (.int .i64 k) (.int .i64 n) (.string t) v0 v1 v2 v3 v4 v5) s (.int .i64 k) (.int .i64 n) (.string t) v0 v1 v2 v3 v4 v5 := by
  have hB : Boxed (((w.setCell ⟨s, 0, none⟩ (.int .i64 k)).setCell ⟨s, 1, none⟩ (.int .i64 n)).setCell ⟨s, 2, none⟩ (.string t)) s ⟨k, n, t⟩ := h6.set3' k n t
  have hE := ((((((((h8.other (t := s) (o := 0) (x := .int .i64 k) (by omega)).other (t := s) (o := 1) (x := .int .i64 n) (by omega)).other (t := s) (o := 2) (x := .string t) (by omega)).put0 v0).put1 v1).put2 v2).put3 v3).put4 v4).put5 v5
  have hbB : (put9 w s (.int .i64 k) (.int .i64 n) (.string t) v0 v1 v2 v3 v4 v5).heap[s]? = (((w.setCell ⟨s, 0, none⟩ (.int .i64 k)).setCell ⟨s, 1, none⟩ (.int .i64 n)).setCell ⟨s, 2, none⟩ (.string t)).heap[s]? := by
    unfold put9
    rw [Below.heap_setCell _ _ _ _ (show s ≠ s + 1 by omega), Below.heap_setCell _ _ _ _ (show s ≠ s + 1 by omega), Below.heap_setCell _ _ _ _ (show s ≠ s + 1 by omega), Below.heap_setCell _ _ _ _ (show s ≠ s + 1 by omega), Below.heap_setCell _ _ _ _ (show s ≠ s + 1 by omega), Below.heap_setCell _ _ _ _ (show s ≠ s + 1 by omega)]
  have hB2 : Boxed (put9 w s (.int .i64 k) (.int .i64 n) (.string t) v0 v1 v2 v3 v4 v5) s ⟨k, n, t⟩ := hbB.trans hB
  obtain ⟨c0, c1, c2⟩ := hB2.cells
  refine ⟨c0, c1, c2, hE.cell 0, hE.cell 1, hE.cell 2, hE.cell 3, hE.cell 4, hE.cell 5, ?_⟩
  have h3 := Below.set3' hb hs (.int .i64 k) (.int .i64 n) (.string t)
  exact (((((h3.setCell (by show w0.heap.size ≤ s + 1; omega) _).setCell (by show w0.heap.size ≤ s + 1; omega) _).setCell (by show w0.heap.size ≤ s + 1; omega) _).setCell (by show w0.heap.size ≤ s + 1; omega) _).setCell (by show w0.heap.size ≤ s + 1; omega) _).setCell (by show w0.heap.size ≤ s + 1; omega) _
theorem put9_other (W : World) (s : Nat) (k n t v0 v1 v2 v3 v4 v5 : Value) {g : Nat} (h1 : g ≠ s) (h2 : g ≠ s + 1) : (put9 W s k n t v0 v1 v2 v3 v4 v5).heap[g]? = W.heap[g]? := by
  unfold put9
  rw [Below.heap_setCell _ _ _ _ (show g ≠ s + 1 from h2), Below.heap_setCell _ _ _ _ (show g ≠ s + 1 from h2), Below.heap_setCell _ _ _ _ (show g ≠ s + 1 from h2), Below.heap_setCell _ _ _ _ (show g ≠ s + 1 from h2), Below.heap_setCell _ _ _ _ (show g ≠ s + 1 from h2), Below.heap_setCell _ _ _ _ (show g ≠ s + 1 from h2), Below.heap_setCell _ _ _ _ (show g ≠ s from h1), Below.heap_setCell _ _ _ _ (show g ≠ s from h1), Below.heap_setCell _ _ _ _ (show g ≠ s from h1)]
theorem put9_size (W : World) (s : Nat) (k n t v0 v1 v2 v3 v4 v5 : Value) : (put9 W s k n t v0 v1 v2 v3 v4 v5).heap.size = W.heap.size := by simp [put9, World.setCell]
theorem row_put9 {W : World} {lo lo' s : Nat} {A : Option Addr} {l : List ByteArray} (h : RowS W lo W.heap.size A l) (hs : s + 1 < lo) (hl : lo' ≤ lo) (k n t v0 v1 v2 v3 v4 v5 : Value) : RowS (put9 W s k n t v0 v1 v2 v3 v4 v5) lo' (put9 W s k n t v0 v1 v2 v3 v4 v5).heap.size A l := fun hp => by
  obtain ⟨b, o, e, h1, h2, hc⟩ := h hp
  refine ⟨b, o, e, by omega, by rw [put9_size]; exact h2, fun j hj => ?_⟩
  rw [World.cell?_of_block (w := W) (put9_other W s k n t v0 v1 v2 v3 v4 v5 (show b ≠ s by omega) (show b ≠ s + 1 by omega))]
  exact hc j hj
/-- What Of gives. -/
def RetOfR (x : V × Nat × Int × List ByteArray) (w : World) (r : Ending) (w' : World) : Prop :=
  ∃ k n s A c, r = .returned (.tuple #[.agg #[.int .i64 k, .int .i64 n, .string s], .int .i64 (x.2.1 : Int), .agg #[.bool (!(x.2.2.1 == 0)), .slice A x.2.2.2.length c, .int .i64 x.2.2.1, .bool false, .string ⟨#[]⟩, .string ⟨#[]⟩]]) ∧ x.1 = ⟨k, n, s⟩ ∧ RowS w' w.heap.size w'.heap.size A x.2.2.2 ∧ Below w.heap.size w w'

theorem runG_inl {get : ByteArray → Option V} {t : TM} {l : List TM} {st st' : List V} {f : Nat} (h : stepG get t st = .inl st') : runG get (t :: l) st (f + 1) = runG get l st' f := by
  simp only [runG]
  rw [h]
theorem runG_inr {get : ByteArray → Option V} {t : TM} {l : List TM} {st : List V} {f : Nat} {e : Int × List ByteArray} (h : stepG get t st = .inr e) : runG get (t :: l) st (f + 1) = (.inr e, f) := by
  simp only [runG]
  rw [h]
theorem OwnV.put3 {w : World} {lo b : Nat} {v x y z : Value} {l : List V} (h : OwnV w lo v l) (hne : v.ownBlock ≠ some b) : OwnV (((w.setCell ⟨b, 0, none⟩ x).setCell ⟨b, 1, none⟩ y).setCell ⟨b, 2, none⟩ z) lo v l :=
  ownsRow_setCell_other (ownsRow_setCell_other (ownsRow_setCell_other h hne _) hne _) hne _
set_option maxRecDepth 100000 in
theorem append_val (w : World) {ops : Array Oper} {rest : List Oper} {o : Oper} {a : Act} {Q : Exit → Act → World → Prop} (hgd : o.guard = none) (s x : Operand)
    (ho : o.op = .call { callee := .builtin .append, args := #[s, x], argTypes := #[74, 74] })
    (base : Nat) (v : Value) (l : List V) (hs : a.eval s = v) (hown : OwnV w base v l)
    (g c : Nat) (y : V) (hx : a.eval x = .slice (some ⟨g, 0, none⟩) 1 c) (hr : w.heap[g]? = some (.cells #[.int .i64 y.k, .int .i64 y.n, .string y.s] 27 (0, 0)))
    (hbig : l.length ≤ 1000) (hbase : base ≤ w.heap.size)
    (h : ∀ v' w', OwnV w' base v' (l ++ [y]) → w.grownBy w' v.ownBlock → wpList Tryz.prog ops Q rest (a.put o.dst v') w') : wpList Tryz.prog ops Q (o :: rest) a w := by
  obtain ⟨i, z, hi0, hz0, hzs, hz2, hz3⟩ := infoVal
  refine wpList_append_own w hgd s x _ ho base _ i z 3 32 Tryz.underlying74 hi0 hz0 hz2 hz3 hzs (by omega) v l.length (cells3 l) hs hown ⟨g, 0, none⟩ 1 c (cells3 [y]) hx (cells3_len [y]) ?_ (by intro u hu; simp [cells3] at hu; rcases hu with rfl | rfl | rfl <;> rfl) (by unfold maxLen; omega) (by omega) hbase ?_
  · intro j u hu
    have hadd : (⟨g, 0, none⟩ : Addr).add j = ⟨g, j, none⟩ := by unfold Addr.add; split <;> simp_all
    rw [hadd, cell_of_row w g j _ _ _ hr]
    simpa [cells3] using hu
  · intro v' w' h1 h2 _
    refine h v' w' ?_ h2
    unfold OwnV
    rw [List.length_append, show cells3 (l ++ [y]) = cells3 l ++ cells3 [y] from by simp [cells3]]
    exact h1
theorem OwnV.form' {w : World} {lo : Nat} {v : Value} {l : List V} (h : OwnV w lo v l) : ∃ A c, v = .slice A l.length c := by
  rcases h.2 with ⟨hv, hn⟩ | ⟨g, cap, cur, hv, _⟩
  · exact ⟨none, 0, by rw [hv, hn]⟩
  · exact ⟨_, cap, hv⟩
/-- Of two, and of one, by the document's own answer. -/
theorem twoR6 {op : Int} {a b : V} (ha : okV a) (hb : okV b) {xk xn xc : Int} {xs : ByteArray} (h : twoV op a b = (⟨xk, xn, xs⟩, xc)) (W : World) : Calls Tryz.prog 37 #[.int .i64 op, .agg #[.int .i64 a.k, .int .i64 a.n, .string a.s], .agg #[.int .i64 b.k, .int .i64 b.n, .string b.s]] W fun r w' => r = .returned (.tuple #[.agg #[.int .i64 xk, .int .i64 xn, .string xs], .int .i64 xc]) ∧ Below W.heap.size W w' := by
  have := g6Two_any op a b W ha hb
  rw [h] at this
  exact this
theorem oneR6 {op : Int} {a : V} (ha : okV a) {xk xn xc : Int} {xs : ByteArray} (h : oneV op a = (⟨xk, xn, xs⟩, xc)) (W : World) : Calls Tryz.prog 38 #[.int .i64 op, .agg #[.int .i64 a.k, .int .i64 a.n, .string a.s]] W fun r w' => r = .returned (.tuple #[.agg #[.int .i64 xk, .int .i64 xn, .string xs], .int .i64 xc]) ∧ Below W.heap.size W w' := by
  have := g6One_any op a W ha
  rw [h] at this
  exact this

theorem OwnV.top2 {w : World} {lo n c : Nat} {A : Option Addr} {a b : V} {r : List V} (h : OwnV w lo (.slice A n c) (b :: a :: r).reverse) : ∃ g, A = some ⟨g, 0, none⟩ ∧ g < w.heap.size ∧ r.length + 1 + 1 ≤ c ∧ ValAt w g (r.length * 3) a ∧ ValAt w g ((r.length + 1) * 3) b := by
  obtain ⟨g, rfl, _, hg, _, hc, ha⟩ := h.at_ r.length (by simp)
  obtain ⟨g', e, _, _, _, _, hb⟩ := h.at_ (r.length + 1) (by simp)
  injection e with e
  injection e with e
  subst e
  refine ⟨g, rfl, hg, by simpa using hc, ?_, ?_⟩
  · simpa using ha
  · simpa using hb
theorem OwnV.top1 {w : World} {lo n c : Nat} {A : Option Addr} {a : V} {r : List V} (h : OwnV w lo (.slice A n c) (a :: r).reverse) : ∃ g, A = some ⟨g, 0, none⟩ ∧ g < w.heap.size ∧ r.length + 1 ≤ c ∧ ValAt w g (r.length * 3) a := by
  obtain ⟨g, rfl, _, hg, _, hc, ha⟩ := h.at_ r.length (by simp)
  refine ⟨g, rfl, hg, by simpa using hc, ?_⟩
  simpa using ha
theorem OwnV.less2 {w : World} {lo n c : Nat} {A : Option Addr} {a b : V} {r : List V} (h : OwnV w lo (.slice A n c) (b :: a :: r).reverse) : OwnV w lo (.slice A r.length c) r.reverse := by
  have h2 := h.cut r.length (by simp only [List.length_reverse, List.length_cons]; omega) (by simp)
  have e : (b :: a :: r).reverse.take r.length = r.reverse := by
    rw [List.reverse_cons, List.reverse_cons, List.append_assoc, List.take_append_of_le_length (by simp), List.take_of_length_le (by simp)]
  rwa [e] at h2
theorem OwnV.less1 {w : World} {lo n c : Nat} {A : Option Addr} {a : V} {r : List V} (h : OwnV w lo (.slice A n c) (a :: r).reverse) : OwnV w lo (.slice A r.length c) r.reverse := by
  have h2 := h.cut r.length (by simp) (by simp)
  have e : (a :: r).reverse.take r.length = r.reverse := by
    rw [List.reverse_cons, List.take_append_of_le_length (by simp), List.take_of_length_le (by simp)]
  rwa [e] at h2
theorem getO_some {vs : List VN} {nm : ByteArray} {v : V} (h : getO vs nm = v) (hs : (getL vs nm).isSome = true) : getL vs nm = some v := by
  unfold getO at h
  cases hg : getL vs nm with
  | none => rw [hg] at hs; cases hs
  | some x => rw [hg] at h; exact congrArg some h
theorem getO_none {vs : List VN} {nm : ByteArray} (hs : (getL vs nm).isSome = false) : getL vs nm = none := by
  cases hg : getL vs nm with
  | none => rfl
  | some x => rw [hg] at hs; cases hs

theorem checkGo_own {n : Nat} {t : TM} {l : List TM} (h : checkGo n (t :: l) = (0, 1)) : ownT t = 0 ∧ takesT t.op ≤ n ∧ checkGo (n + 1 - takesT t.op) l = (0, 1) := by
  rw [checkGo] at h
  have h1 : ownT t = 0 := by
    by_cases h1 : ownT t = 0
    · exact h1
    · rw [if_pos h1] at h; exact absurd (Prod.mk.inj h).1 h1
  rw [if_neg (by simp [h1])] at h
  by_cases h2 : n < takesT t.op
  · rw [if_pos h2] at h; cases h
  · rw [if_neg h2] at h
    exact ⟨h1, by omega, h⟩

set_option maxRecDepth 100000 in
set_option maxHeartbeats 8000000 in
theorem refOf_any (l : List TM) (A : Option Addr) (c : Nat) (vs : List VN) (A2 : Option Addr) (c2 : Nat) (fuel : Int) (w : World) (hl : TermsOk w l A) (hv : VarsOk w vs A2 c2) (hf : fuel ≤ 9223372036854775807) (hf0 : -9223372036854775808 ≤ fuel) :
    Calls Tryz.prog 12 #[.slice A l.length c, .slice A2 vs.length c2, .int .i64 fuel] w (RetOfR (ofG (getL vs) l fuel.toNat) w) := by
  have hmx : max fuel 0 = (fuel.toNat : Int) := maxZero fuel
  have hfn : fuel.toNat ≤ 9223372036854775807 := by omega
  obtain ⟨F, hF⟩ : ∃ F, fuel.toNat = F := ⟨_, rfl⟩
  rw [hF] at hmx hfn ⊢
  -- the places of the answer
  have hx0 := Boxed.new w 0 0 ⟨#[]⟩
  have hb1 := box_below w #[.int .i64 0, .int .i64 0, .string ⟨#[]⟩] 27
  have hb2 := box_below (w.alloc (.cells #[.int .i64 0, .int .i64 0, .string ⟨#[]⟩] 27)) #[.bool false, .slice none 0 0, .int .i64 0, .bool false, .string ⟨#[]⟩, .string ⟨#[]⟩] 37
  have he2 : ErrB ((w.alloc (.cells #[.int .i64 0, .int .i64 0, .string ⟨#[]⟩] 27)).alloc (.cells #[.bool false, .slice none 0 0, .int .i64 0, .bool false, .string ⟨#[]⟩, .string ⟨#[]⟩] 37)) (w.heap.size + 1) (.bool false) (.slice none 0 0) (.int .i64 0) (.bool false) (.string ⟨#[]⟩) (.string ⟨#[]⟩) := heap2 w _ _
  have hx2 := hx0.below hb2
  have hB2 := hb1.trans (hb2.mono hb1.size)
  have hsz : w.heap.size + 1 < ((w.alloc (.cells #[.int .i64 0, .int .i64 0, .string ⟨#[]⟩] 27)).alloc (.cells #[.bool false, .slice none 0 0, .int .i64 0, .bool false, .string ⟨#[]⟩, .string ⟨#[]⟩] 37)).heap.size := by simp
  obtain ⟨w2, hw⟩ : ∃ y, (w.alloc (.cells #[.int .i64 0, .int .i64 0, .string ⟨#[]⟩] 27)).alloc (.cells #[.bool false, .slice none 0 0, .int .i64 0, .bool false, .string ⟨#[]⟩, .string ⟨#[]⟩] 37) = y := ⟨_, rfl⟩
  obtain ⟨s, hs⟩ : ∃ y, w.heap.size = y := ⟨_, rfl⟩
  rw [hw] at he2 hx2 hB2 hsz
  rw [hs] at he2 hx2 hsz
  have HP9 : Hid (∀ W, Below w2.heap.size w2 W → ∀ (k n : Int) (t : ByteArray) (v0 v1 v2 v3 v4 v5 : Value), Put9 w (put9 W s (.int .i64 k) (.int .i64 n) (.string t) v0 v1 v2 v3 v4 v5) s (.int .i64 k) (.int .i64 n) (.string t) v0 v1 v2 v3 v4 v5) := Lib.hid (fun W hW k n t v0 v1 v2 v3 v4 v5 => put9_is (hx2.below hW) (he2.below hW hsz) (hB2.trans (hW.mono hB2.size)) (by omega) k n t v0 v1 v2 v3 v4 v5)
  have HFr : Hid (∀ W, Below w2.heap.size w2 W → W.frozen? ⟨s, 0, none⟩ = false ∧ W.frozen? ⟨s, 1, none⟩ = false ∧ W.frozen? ⟨s, 2, none⟩ = false ∧ W.frozen? ⟨s + 1, 0, none⟩ = false ∧ W.frozen? ⟨s + 1, 1, none⟩ = false ∧ W.frozen? ⟨s + 1, 2, none⟩ = false ∧ W.frozen? ⟨s + 1, 3, none⟩ = false ∧ W.frozen? ⟨s + 1, 4, none⟩ = false ∧ W.frozen? ⟨s + 1, 5, none⟩ = false ∧ W.cell? ⟨s, 0, none⟩ = some (.int .i64 0) ∧ W.cell? ⟨s, 1, none⟩ = some (.int .i64 0) ∧ W.cell? ⟨s, 2, none⟩ = some (.string ⟨#[]⟩) ∧ W.cell? ⟨s + 1, 0, none⟩ = some (.bool false) ∧ W.cell? ⟨s + 1, 1, none⟩ = some (.slice none 0 0) ∧ W.cell? ⟨s + 1, 2, none⟩ = some (.int .i64 0) ∧ W.cell? ⟨s + 1, 3, none⟩ = some (.bool false) ∧ W.cell? ⟨s + 1, 4, none⟩ = some (.string ⟨#[]⟩) ∧ W.cell? ⟨s + 1, 5, none⟩ = some (.string ⟨#[]⟩)) := Lib.hid (fun W hW => by
    have h6 := hx2.below hW
    have h8 := he2.below hW hsz
    obtain ⟨g0, g1, g2⟩ := h6.cells
    exact ⟨h6.frozen 0, h6.frozen 1, h6.frozen 2, h8.frozen 0, h8.frozen 1, h8.frozen 2, h8.frozen 3, h8.frozen 4, h8.frozen 5, g0, g1, g2, h8.cell 0, h8.cell 1, h8.cell 2, h8.cell 3, h8.cell 4, h8.cell 5⟩)
  have HSS := Lib.hid hsz
  have HCk := Lib.hid (check_few c (hl.below hB2))
  have HT := Lib.hid (hl.below hB2)
  have HV := Lib.hid (hv.below hB2)
  have HB2 := Lib.hid hB2
  have HW := Lib.hid hw
  have HS := Lib.hid hs
  have hlen := hl.len
  obtain ⟨R, hR⟩ : ∃ R : Ending → World → Prop, RetOfR (ofG (getL vs) l F) w = R := ⟨_, rfl⟩
  rw [hR]
  have HEnd : Hid (∀ (k n : Int) (t : ByteArray) (xn : Nat) (code : Int) (ps : List ByteArray) (A : Option Addr) (c : Nat) (b : Bool) (w' : World), ofG (getL vs) l F = (⟨k, n, t⟩, xn, code, ps) → b = (!(code == 0)) → RowS w' w.heap.size w'.heap.size A ps → Below w.heap.size w w' → R (.returned (.tuple #[.agg #[.int .i64 k, .int .i64 n, .string t], .int .i64 (xn : Int), .agg #[.bool b, .slice A ps.length c, .int .i64 code, .bool false, .string ⟨#[]⟩, .string ⟨#[]⟩]])) w') := Lib.hid (fun k n t xn code ps A c b w' h hb hrow hbel => by
    rw [← hR, h, hb]
    exact ⟨k, n, t, A, c, rfl, rfl, hrow, hbel⟩)
  clear hx0 hb1 hb2 he2 hx2 hB2 hsz hw hs hl hv hF hR
  go_enter Tryz.func12, Tryz.ntmps12
  go_upto_region 1 with fail
  rw [HW.out, HS.out]
  clear HW
  go_wp2_with fail
  refine HCk.out.mono ?_
  rintro r w3 ⟨rfl, hb3⟩
  dsimp only
  by_cases hck : checkL l = 0
  · have hgo := right_go hck
    have hOF := ofG_right (getL vs) hck F
    have HBa := Lib.hid (show Below w2.heap.size w2 w3 from hb3)
    obtain ⟨lo, hlo⟩ : ∃ y, w2.heap.size = y := ⟨_, rfl⟩
    have HLo := Lib.hid hlo
    rw [hlo] at HP9 HFr HBa
    have hlo3 : lo ≤ w3.heap.size := by rw [← hlo]; exact hb3.size
    have HLo3 := Lib.hid hlo3
    have HGO := Lib.hid hgo
    have HOF := Lib.hid hOF
    have HT3 := Lib.hid (HT.out.below hb3)
    have HV3 := Lib.hid (HV.out.below hb3)
    rw [hck]
    clear hb3 hlo hlo3 hgo hOF hck
    go_wp2_with fail
    go_loopg [2, 10, 12, 13, 14, 15, 16, 17, 30] l.length (fun q fu lv _ _ _ _ _ _ i wr => ∃ (j : Nat) (st : List V) (f : Nat), j + q = l.length ∧ i = .int .i64 j ∧ fu = .int .i64 f ∧ (∃ A c, lv = .slice A st.length c ∧ OwnV wr lo (.slice A st.length c) st.reverse) ∧ Below lo w2 wr ∧ runG (getL vs) l [] F = runG (getL vs) (l.drop j) st f ∧ checkGo st.length (l.drop j) = (0, 1) ∧ (∀ v ∈ st, okV v) ∧ st.length ≤ j ∧ f ≤ F)
    case atStart => exact ⟨0, [], F, by omega, rfl, rfl, ⟨none, 0, rfl, OwnV.nil _ _⟩, HBa.out, rfl, HGO.out, by simp, Nat.le_refl _, Nat.le_refl _⟩
    case round =>
      obtain ⟨j, st, f, hk, rfl, rfl, ⟨A9, c9, rfl, hown⟩, hb, hrun, hchk, hok, hsj, hfF⟩ := hrel
      have HK := Lib.hid hk
      have HO := Lib.hid hown
      have HB := Lib.hid hb
      have HRUN := Lib.hid hrun
      have HOK := Lib.hid hok
      have hlow : lo ≤ wr.heap.size := by have := hb.size; have := HLo.out; omega
      have HLW := Lib.hid hlow
      clear hk hown hb hrun hok hlow
      by_cases hj : j < l.length
      · have hlt : decide ((j : Int) < (l.length : Int)) = true := by simpa using hj
        have hlt2 : decide (j < l.length) = true := by simpa using hj
        have hTr := HT.out.below (w' := wr) (by rw [HLo.out]; exact HB.out)
        have hVr := HV.out.below (w' := wr) (by rw [HLo.out]; exact HB.out)
        obtain ⟨tb, tof, rfl, c0, c1, c2', c3, c4⟩ := hTr.row.at_ hj
        have hto := HT.out.ok _ (List.getElem_mem hj)
        have HDR := Lib.hid (List.drop_eq_getElem_cons hj)
        generalize l[j] = t at *
        obtain ⟨op, ⟨tk, tm, ts⟩, nm⟩ := t
        simp only at c0 c1 c2' c3 c4 hto
        have hchk' := hchk
        rw [HDR.out] at hchk'
        obtain ⟨h1, h2, h3⟩ := checkGo_own hchk'
        have hrun' := HRUN.out
        rw [HDR.out] at hrun'
        have HVr := Lib.hid hVr
        have HTO := Lib.hid hto
        have HCN := Lib.hid h3
        have HOWN := Lib.hid h1
        simp only at h2
        have HB1 := Lib.hid (HB.out.alloc HLW.out (.cells #[.int .i64 op, .int .i64 tk, .int .i64 tm, .string ts, .string nm] 47))
        clear hTr hVr hto hchk hchk' h1 h3
        by_cases hf9 : f = 0
        · subst hf9
          have HX : Hid (ofG (getL vs) l F = (V0, 0, 60, [])) := Lib.hid (by rw [HOF.out, hrun']; rfl)
          have HOf := Lib.hid (fun W => refOf_num 60 W (by decide))
          clear hrun'
          go_wp2_with fail
          refine (HOf.out _).mono ?_
          rintro r w5 ⟨rfl, hb5⟩
          dsimp only
          have HB5 := Lib.hid (HB1.out.trans (hb5.mono (by have := HLW.out; simp; omega)))
          clear hb5
          obtain ⟨f0, f1, f2, f3, f4, f5, f6, f7, f8, y0, y1, y2, y3, y4, y5, y6, y7, y8⟩ := HFr.out _ HB5.out
          have p9 := HP9.out _ HB5.out (0) (0) (⟨#[]⟩) (.bool true) (.slice none 0 0) (.int .i64 (60)) (.bool false) (.string ⟨#[]⟩) (.string ⟨#[]⟩)
          unfold put9 at p9
          have HQ := Lib.hid p9
          clear p9
          go_wp2
          obtain ⟨z0, z1, z2, p0, p1, p2, p3, p4, p5, hbF⟩ := HQ.out
          refine bodyPost_ret (v := .tuple #[.agg #[.int .i64 (0), .int .i64 (0), .string (⟨#[]⟩)], .int .i64 (0), .agg #[.bool true, .slice none 0 0, .int .i64 (60), .bool false, .string ⟨#[]⟩, .string ⟨#[]⟩]]) (by simp [results, Tryz.results12, go_sem, z0, z1, z2, p0, p1, p2, p3, p4, p5]) rfl ?_
          exact HEnd.out 0 0 ⟨#[]⟩ 0 60 [] none 0 true _ HX.out rfl (fun h => absurd h (by simp)) hbF
        · obtain ⟨m, rfl⟩ : ∃ m, f = m + 1 := ⟨f - 1, by omega⟩
          have q1 : ((m + 1 : Nat) : Int) - 1 = (m : Int) := by omega
          have z1 : (((m + 1 : Nat) : Int) == 0) = false := by rw [beq_eq_false_iff_ne]; omega
          have z1' : ¬ ((m + 1 : Nat) : Int) = 0 := by omega
          have hb5 := HB1.out.alloc (by have := HLW.out; simp; omega) (.cells #[.int .i64 tk, .int .i64 tm, .string ts] 27)
          have ho5 := (HO.out.allocs (.cells #[.int .i64 op, .int .i64 tk, .int .i64 tm, .string ts, .string nm] 47)).allocs (.cells #[.int .i64 tk, .int .i64 tm, .string ts] 27)
          have hT5 := heap1 wr (.cells #[.int .i64 op, .int .i64 tk, .int .i64 tm, .string ts, .string nm] 47) (.cells #[.int .i64 tk, .int .i64 tm, .string ts] 27)
          have hV5 : Boxed ((wr.alloc (.cells #[.int .i64 op, .int .i64 tk, .int .i64 tm, .string ts, .string nm] 47)).alloc (.cells #[.int .i64 tk, .int .i64 tm, .string ts] 27)) (wr.heap.size + 1) ⟨tk, tm, ts⟩ := heap2 wr _ _
          have hs5 : wr.heap.size + 1 < ((wr.alloc (.cells #[.int .i64 op, .int .i64 tk, .int .i64 tm, .string ts, .string nm] 47)).alloc (.cells #[.int .i64 tk, .int .i64 tm, .string ts] 27)).heap.size := by simp
          obtain ⟨w5, hw⟩ : ∃ y, (wr.alloc (.cells #[.int .i64 op, .int .i64 tk, .int .i64 tm, .string ts, .string nm] 47)).alloc (.cells #[.int .i64 tk, .int .i64 tm, .string ts] 27) = y := ⟨_, rfl⟩
          obtain ⟨sv, hs⟩ : ∃ y, wr.heap.size = y := ⟨_, rfl⟩
          rw [hw] at hb5 ho5 hT5 hV5 hs5
          rw [hs] at hT5 hV5 hs5
          have HW := Lib.hid hw
          have HSv := Lib.hid hs
          have HLsv := Lib.hid (show lo ≤ sv by have := HLW.out; omega)
          have HB5 := Lib.hid hb5
          have HO5 := Lib.hid ho5
          have HT5 := Lib.hid hT5
          have HV5 := Lib.hid hV5
          have HS5 := Lib.hid hs5
          have HGet := Lib.hid (refGet_any vs A2 c2 nm w5 (by have := HV.out.short.1; omega) (HV.out.below (w' := w5) (by rw [HLo.out]; exact HB5.out)).row)
          have HRUN2 := Lib.hid hrun'
          have d0 : w5.cell? ⟨sv, 4, none⟩ = some (.string nm) := cell_of_row w5 sv 4 _ _ _ HT5.out
          clear hw hs hb5 ho5 hT5 hV5 hs5 hrun' hf9
          obtain ⟨gv, hgv⟩ : ∃ v, getO vs nm = v := ⟨_, rfl⟩
          obtain ⟨has, hhas⟩ : ∃ b, (getL vs nm).isSome = b := ⟨_, rfl⟩
          rw [hgv, hhas] at HGet
          obtain ⟨gvk, gvm, gvs⟩ := gv
          simp only [V.val] at HGet
          have HGV := Lib.hid hgv
          have HHAS := Lib.hid hhas
          clear hgv hhas
          go_upto_region 14 with fail
          rw [HW.out, HSv.out]
          clear HW
          go_wp2_with fail
          refine HGet.out.mono ?_
          rintro r w6 ⟨rfl, hb6⟩
          dsimp only
          have hb7 := box_below w6 #[.int .i64 gvk, .int .i64 gvm, .string gvs] 27
          have hg7 := Boxed.new w6 gvk gvm gvs
          have hbb := hb6.trans (hb7.mono hb6.size)
          have hb57 := HB5.out.trans (hbb.mono (Nat.le_trans HLsv.out (Nat.le_of_lt (Nat.lt_trans (Nat.lt_succ_self _) HS5.out))))
          have ho7 := HO5.out.keep (fun g _ hg => hbb.block g hg) (Nat.le_refl _)
          have hT7 := (hbb.block _ (Nat.lt_trans (Nat.lt_succ_self _) HS5.out)).trans HT5.out
          have hV7 := HV5.out.below hbb
          have hs7 : sv + 1 < w6.heap.size := Nat.lt_of_lt_of_le HS5.out hb6.size
          obtain ⟨w7, hw⟩ : ∃ y, w6.alloc (.cells #[.int .i64 gvk, .int .i64 gvm, .string gvs] 27) = y := ⟨_, rfl⟩
          obtain ⟨sg, hs⟩ : ∃ y, w6.heap.size = y := ⟨_, rfl⟩
          rw [hw] at hb57 ho7 hT7 hV7 hg7
          rw [hs] at hg7 hs7
          have HW := Lib.hid hw
          have HSg := Lib.hid hs
          have HB7 := Lib.hid hb57
          have HO7 := Lib.hid ho7
          have HT7 := Lib.hid hT7
          have HV7 := Lib.hid hV7
          have HG7 := Lib.hid hg7
          have HNG := Lib.hid hs7
          have HNO := Lib.hid (show (Value.slice A9 st.length c9).ownBlock ≠ some (sv + 1) from fun e => by
            have := (HO.out.lt _ e).2
            have := HSv.out
            omega)
          have d0 : w7.cell? ⟨sv, 0, none⟩ = some (.int .i64 op) := cell_of_row w7 sv 0 _ _ _ HT7.out
          have d4 : w7.cell? ⟨sv, 4, none⟩ = some (.string nm) := cell_of_row w7 sv 4 _ _ _ HT7.out
          clear hb6 hb7 hg7 hbb hb57 ho7 hT7 hV7 hs7 hw hs HGet HB5 HO5 HT5 HV5 HS5
          go_upto_region 15 with fail
          rw [HW.out, HSg.out]
          clear HW
          have HTL := Lib.hid hlen
          by_cases e1 : op = 1
          · subst e1
            cases has
            · have HGN := Lib.hid (getO_none HHAS.out)
              have HX : Hid (ofG (getL vs) l F = (V0, m, 61, [nm])) := Lib.hid (by
                have hst : stepG (getL vs) ⟨1, ⟨tk, tm, ts⟩, nm⟩ st = .inr (61, [nm]) := by
                  unfold stepG
                  rw [if_neg (show ¬ (1 : Int) = 0 by decide), if_pos rfl]
                  rw [show getL vs (TM.nm ⟨1, ⟨tk, tm, ts⟩, nm⟩) = none from HGN.out]
                rw [HOF.out, HRUN2.out, runG_inr hst])
              have HOf := Lib.hid (fun W => refOf_num 61 W (by decide))
              have HWr : Hid (∀ W : World, Calls Tryz.prog 35 #[.string nm, .agg #[.bool true, .slice none 0 0, .int .i64 61, .bool false, .string ⟨#[]⟩, .string ⟨#[]⟩]] W fun r w' => ∃ A c, r = .returned (.agg #[.bool true, .slice A 1 c, .int .i64 61, .bool false, .string ⟨#[]⟩, .string ⟨#[]⟩]) ∧ RowS w' W.heap.size w'.heap.size A [nm] ∧ Below W.heap.size W w') := Lib.hid (fun W => by
                have h := refWrap_any nm [] none 0 0 61 false ⟨#[]⟩ ⟨#[]⟩ 0 0 W rfl (fun _ => rfl) (fun h => absurd h (by simp)) (Nat.zero_le _) (by simp)
                refine h.mono ?_
                rintro r w' ⟨A, c, rfl, _, _, hrow, hb⟩
                exact ⟨A, c, rfl, hrow, hb⟩)
              have HLT := Lib.hid (show sv < w7.heap.size from (Array.getElem?_eq_some_iff.1 HT7.out).1)
              have HLs := Lib.hid (show s + 1 < w7.heap.size by have := HB7.out.size; have := HSS.out; omega)
              have HL7 := Lib.hid (show lo ≤ w7.heap.size by have := HB7.out.size; have := HLo.out; omega)
              go_upto_region 16 with fail
              go_region_with ((first
                | (go_at_call 34; refine (HOf.out _).mono ?_; rintro r w8a ⟨rfl, hba⟩; have hb8a : Below w7.heap.size w7 w8a := (Below.refl _ w7).drew.trans hba; have d4b : w8a.cell? ⟨sv, 4, none⟩ = some (.string nm) := (hb8a.cell (p := ⟨sv, 4, none⟩) HLT.out).trans d4)
                | (go_at_call 35; refine (HWr.out _).mono ?_; rintro r w8b ⟨A8, c8, rfl, hrow8, hbb⟩; have HBw : Below lo w2 w8b := HB7.out.trans ((hb8a.trans (hbb.mono hb8a.size)).mono HL7.out); obtain ⟨f0, f1, f2, f3, f4, f5, f6, f7, f8, y0, y1, y2, y3, y4, y5, y6, y7, y8⟩ := HFr.out _ HBw)))
              all_goals
                have p9 := HP9.out _ HBw 0 0 ⟨#[]⟩ (.bool true) (.slice A8 1 c8) (.int .i64 61) (.bool false) (.string ⟨#[]⟩) (.string ⟨#[]⟩)
                have hrow9 := row_put9 (s := s) (lo' := w.heap.size) hrow8 (by have := HLs.out; have := hb8a.size; omega) (by have := HLs.out; have := hb8a.size; have := HS.out; omega) (.int .i64 0) (.int .i64 0) (.string ⟨#[]⟩) (.bool true) (.slice A8 1 c8) (.int .i64 61) (.bool false) (.string ⟨#[]⟩) (.string ⟨#[]⟩)
                unfold put9 at p9 hrow9
                have HQ := Lib.hid p9
                have HR9 := Lib.hid hrow9
                clear p9 hrow9 hrow8
                go_wp2
                obtain ⟨z0, z1, z2, p0, p1, p2, p3, p4, p5, hbF⟩ := HQ.out
                refine bodyPost_ret (v := .tuple #[.agg #[.int .i64 0, .int .i64 0, .string ⟨#[]⟩], .int .i64 (m : Int), .agg #[.bool true, .slice A8 1 c8, .int .i64 61, .bool false, .string ⟨#[]⟩, .string ⟨#[]⟩]]) (by simp [results, Tryz.results12, go_sem, z0, z1, z2, p0, p1, p2, p3, p4, p5]) rfl ?_
                exact HEnd.out 0 0 ⟨#[]⟩ m 61 [nm] A8 c8 true _ HX.out rfl HR9.out hbF
            · have HGS := Lib.hid (getO_some HGV.out HHAS.out)
              have HST : Hid (stepG (getL vs) ⟨1, ⟨tk, tm, ts⟩, nm⟩ st = .inl (⟨gvk, gvm, gvs⟩ :: st)) := Lib.hid (by unfold stepG; rw [if_neg (show ¬ (1 : Int) = 0 by decide), if_pos rfl]; rw [show getL vs (TM.nm ⟨1, ⟨tk, tm, ts⟩, nm⟩) = some ⟨gvk, gvm, gvs⟩ from HGS.out])
              have HTK : Hid (takesT (TM.op ⟨1, ⟨tk, tm, ts⟩, nm⟩) = 0) := Lib.hid rfl
              have HOKG : Hid (okV ⟨gvk, gvm, gvs⟩) := Lib.hid (by obtain ⟨x, hx, e⟩ := getL_in HGS.out; rw [← e]; exact HV.out.ok x hx)
              obtain ⟨g0, g1, g2⟩ := HG7.out.cells
              simp only at g0 g1 g2
              obtain ⟨y0, y1, y2⟩ := HV7.out.cells
              simp only at y0 y1 y2
              have f0 := HV7.out.frozen 0
              have f1 := HV7.out.frozen 1
              have f2 := HV7.out.frozen 2
              have hv8 := (HV7.out).set3' gvk gvm gvs
              have ho8 := HO7.out.put3 (x := .int .i64 gvk) (y := .int .i64 gvm) (z := .string gvs) HNO.out
              have hb8 := ((HB7.out.setCell (p := ⟨sv + 1, 0, none⟩) (by show lo ≤ sv + 1; have := HLsv.out; omega) (.int .i64 gvk)).setCell (p := ⟨sv + 1, 1, none⟩) (by show lo ≤ sv + 1; have := HLsv.out; omega) (.int .i64 gvm)).setCell (p := ⟨sv + 1, 2, none⟩) (by show lo ≤ sv + 1; have := HLsv.out; omega) (.string gvs)
              obtain ⟨w8, hw⟩ : ∃ y, ((w7.setCell ⟨sv + 1, 0, none⟩ (.int .i64 gvk)).setCell ⟨sv + 1, 1, none⟩ (.int .i64 gvm)).setCell ⟨sv + 1, 2, none⟩ (.string gvs) = y := ⟨_, rfl⟩
              rw [hw] at hv8 ho8 hb8
              have HV8 := Lib.hid hv8
              have HO8 := Lib.hid ho8
              have HB8 := Lib.hid hb8
              have HW8 := Lib.hid hw
              clear hv8 ho8 hb8 hw
              go_upto_region 27 with fail
              rw [HW8.out]
              clear HW8 y0 y1 y2 f0 f1 f2 g0 g1 g2 d0 d4
              obtain ⟨t0, t1, t2⟩ := HV8.out.cells
              simp only at t0 t1 t2
              have HRn := Lib.hid (HRUN2.out.trans (runG_inl HST.out))
              have HL8 := Lib.hid (show lo ≤ w8.heap.size by have := HB8.out.size; have := HLo.out; omega)
              have HLN := Lib.hid hsj
              have HFF := Lib.hid hfF
              go_wp2_with (at_builtin; refine append_val _ rfl _ _ rfl lo _ (st).reverse rfl (HO8.out.allocs _) w8.heap.size 1 ⟨gvk, gvm, gvs⟩ rfl (heap_alloc_new w8 _) (by have h1 := HLN.out; have h2 := HTL.out; have h3 := HK.out; simp only [List.length_reverse, List.length_cons] at *; omega) (by have := HL8.out; simp; omega) ?_; intro v9 w9 ho9 hg9; have HB9 := Lib.hid ((HB8.out.alloc HL8.out (.cells #[.int .i64 gvk, .int .i64 gvm, .string gvs] 27)).grown hg9 (by have := HL8.out; simp; omega) (fun k hk => (HO8.out.lt k hk).1)); have HO9 := Lib.hid (show OwnV w9 lo v9 (⟨gvk, gvm, gvs⟩ :: st).reverse by rw [List.reverse_cons]; exact ho9); clear ho9 hg9)
              obtain ⟨A8, c8, hv9⟩ := HO9.out.form'
              rw [List.length_reverse] at hv9
              subst hv9
              go_roundg (gk - 1)
              case measure => have := HK.out; omega
              case rel => exact ⟨j + 1, ⟨gvk, gvm, gvs⟩ :: st, m, by have := HK.out; omega, by go_num, rfl, ⟨A8, c8, rfl, HO9.out⟩, HB9.out, HRn.out, by have h := HCN.out; rw [HTK.out] at h; exact (by simpa using h), (fun v hv => by
                    rcases List.mem_cons.1 hv with rfl | hv
                    · exact HOKG.out
                    · exact HOK.out v hv), by have h1 := HLN.out; simp only [List.length_cons] at h1 ⊢; omega, by have := HFF.out; omega⟩
          have e1' : (op == 1) = false := by rw [beq_eq_false_iff_ne]; exact e1
          by_cases e2 : op = 2
          · subst e2
            have HTK : Hid (takesT (TM.op ⟨2, ⟨tk, tm, ts⟩, nm⟩) = 0) := Lib.hid rfl
            have HST : Hid (stepG (getL vs) ⟨2, ⟨tk, tm, ts⟩, nm⟩ st = .inl (truthV has :: st)) := Lib.hid (by unfold stepG; rw [if_neg (show ¬ (2 : Int) = 0 by decide), if_neg (show ¬ (2 : Int) = 1 by decide), if_pos rfl]; rw [show (getL vs (TM.nm ⟨2, ⟨tk, tm, ts⟩, nm⟩)).isSome = has from HHAS.out])
            have HOKG := Lib.hid (okV_truth has)
            have HTr := Lib.hid (fun W => g6truth_any has W)
            obtain ⟨bk, bm, bs, hbv⟩ : ∃ bk bm bs, truthV has = ⟨bk, bm, bs⟩ := ⟨_, _, _, rfl⟩
            rw [hbv] at HST HOKG HTr
            simp only [V.val] at HTr
            clear hbv e1
            go_wp2_with fail
            refine (HTr.out _).mono ?_
            rintro r w7b ⟨rfl, hbt⟩
            dsimp only
            have HV7b := Lib.hid (HV7.out.below hbt)
            have HO7b := Lib.hid (HO7.out.keep (fun g _ hg => hbt.block g hg) (Nat.le_refl _))
            have HB7b := Lib.hid (HB7.out.trans (hbt.mono (by have := HB7.out.size; have := HLo.out; omega)))
            obtain ⟨y0, y1, y2⟩ := HV7b.out.cells
            simp only at y0 y1 y2
            have f0 := HV7b.out.frozen 0
            have f1 := HV7b.out.frozen 1
            have f2 := HV7b.out.frozen 2
            have hv8 := (HV7b.out).set3' bk bm bs
            have ho8 := HO7b.out.put3 (x := .int .i64 bk) (y := .int .i64 bm) (z := .string bs) HNO.out
            have hb8 := ((HB7b.out.setCell (p := ⟨sv + 1, 0, none⟩) (by show lo ≤ sv + 1; have := HLsv.out; omega) (.int .i64 bk)).setCell (p := ⟨sv + 1, 1, none⟩) (by show lo ≤ sv + 1; have := HLsv.out; omega) (.int .i64 bm)).setCell (p := ⟨sv + 1, 2, none⟩) (by show lo ≤ sv + 1; have := HLsv.out; omega) (.string bs)
            obtain ⟨w8, hw⟩ : ∃ y, ((w7b.setCell ⟨sv + 1, 0, none⟩ (.int .i64 bk)).setCell ⟨sv + 1, 1, none⟩ (.int .i64 bm)).setCell ⟨sv + 1, 2, none⟩ (.string bs) = y := ⟨_, rfl⟩
            rw [hw] at hv8 ho8 hb8
            have HV8 := Lib.hid hv8
            have HO8 := Lib.hid ho8
            have HB8 := Lib.hid hb8
            have HW8 := Lib.hid hw
            clear hv8 ho8 hb8 hw
            clear hbt HV7 HO7 HB7
            go_upto_region 27 with fail
            rw [HW8.out]
            clear HW8 y0 y1 y2 f0 f1 f2 d0 d4
            obtain ⟨t0, t1, t2⟩ := HV8.out.cells
            simp only at t0 t1 t2
            have HRn := Lib.hid (HRUN2.out.trans (runG_inl HST.out))
            have HL8 := Lib.hid (show lo ≤ w8.heap.size by have := HB8.out.size; have := HLo.out; omega)
            have HLN := Lib.hid hsj
            have HFF := Lib.hid hfF
            go_wp2_with (at_builtin; refine append_val _ rfl _ _ rfl lo _ (st).reverse rfl (HO8.out.allocs _) w8.heap.size 1 ⟨bk, bm, bs⟩ rfl (heap_alloc_new w8 _) (by have h1 := HLN.out; have h2 := HTL.out; have h3 := HK.out; simp only [List.length_reverse, List.length_cons] at *; omega) (by have := HL8.out; simp; omega) ?_; intro v9 w9 ho9 hg9; have HB9 := Lib.hid ((HB8.out.alloc HL8.out (.cells #[.int .i64 bk, .int .i64 bm, .string bs] 27)).grown hg9 (by have := HL8.out; simp; omega) (fun k hk => (HO8.out.lt k hk).1)); have HO9 := Lib.hid (show OwnV w9 lo v9 (⟨bk, bm, bs⟩ :: st).reverse by rw [List.reverse_cons]; exact ho9); clear ho9 hg9)
            obtain ⟨A8, c8, hv9⟩ := HO9.out.form'
            rw [List.length_reverse] at hv9
            subst hv9
            go_roundg (gk - 1)
            case measure => have := HK.out; omega
            case rel => exact ⟨j + 1, ⟨bk, bm, bs⟩ :: st, m, by have := HK.out; omega, by go_num, rfl, ⟨A8, c8, rfl, HO9.out⟩, HB9.out, HRn.out, by have h := HCN.out; rw [HTK.out] at h; exact (by simpa using h), (fun v hv => by
                  rcases List.mem_cons.1 hv with rfl | hv
                  · exact HOKG.out
                  · exact HOK.out v hv), by have h1 := HLN.out; simp only [List.length_cons] at h1 ⊢; omega, by have := HFF.out; omega⟩
          have e2' : (op == 2) = false := by rw [beq_eq_false_iff_ne]; exact e2
          by_cases e0 : op = 0
          · subst e0
            have HTK : Hid (takesT (TM.op ⟨0, ⟨tk, tm, ts⟩, nm⟩) = 0) := Lib.hid rfl
            have HST : Hid (stepG (getL vs) ⟨0, ⟨tk, tm, ts⟩, nm⟩ st = .inl (⟨tk, tm, ts⟩ :: st)) := Lib.hid rfl
            have HOKG := Lib.hid HTO.out.2
            clear e1 e2
            go_upto_region 27 with fail
            obtain ⟨w8, hw⟩ : ∃ y, w7 = y := ⟨_, rfl⟩
            have HV8 := Lib.hid HV7.out
            have HO8 := Lib.hid HO7.out
            have HB8 := Lib.hid HB7.out
            rw [hw] at HV8 HO8 HB8 ⊢
            clear d0 d4 hw HV7 HO7 HB7
            obtain ⟨t0, t1, t2⟩ := HV8.out.cells
            simp only at t0 t1 t2
            have HRn := Lib.hid (HRUN2.out.trans (runG_inl HST.out))
            have HL8 := Lib.hid (show lo ≤ w8.heap.size by have := HB8.out.size; have := HLo.out; omega)
            have HLN := Lib.hid hsj
            have HFF := Lib.hid hfF
            go_wp2_with (at_builtin; refine append_val _ rfl _ _ rfl lo _ (st).reverse rfl (HO8.out.allocs _) w8.heap.size 1 ⟨tk, tm, ts⟩ rfl (heap_alloc_new w8 _) (by have h1 := HLN.out; have h2 := HTL.out; have h3 := HK.out; simp only [List.length_reverse, List.length_cons] at *; omega) (by have := HL8.out; simp; omega) ?_; intro v9 w9 ho9 hg9; have HB9 := Lib.hid ((HB8.out.alloc HL8.out (.cells #[.int .i64 tk, .int .i64 tm, .string ts] 27)).grown hg9 (by have := HL8.out; simp; omega) (fun k hk => (HO8.out.lt k hk).1)); have HO9 := Lib.hid (show OwnV w9 lo v9 (⟨tk, tm, ts⟩ :: st).reverse by rw [List.reverse_cons]; exact ho9); clear ho9 hg9)
            obtain ⟨A8, c8, hv9⟩ := HO9.out.form'
            rw [List.length_reverse] at hv9
            subst hv9
            go_roundg (gk - 1)
            case measure => have := HK.out; omega
            case rel => exact ⟨j + 1, ⟨tk, tm, ts⟩ :: st, m, by have := HK.out; omega, by go_num, rfl, ⟨A8, c8, rfl, HO9.out⟩, HB9.out, HRn.out, by have h := HCN.out; rw [HTK.out] at h; exact (by simpa using h), (fun v hv => by
                  rcases List.mem_cons.1 hv with rfl | hv
                  · exact HOKG.out
                  · exact HOK.out v hv), by have h1 := HLN.out; simp only [List.length_cons] at h1 ⊢; omega, by have := HFF.out; omega⟩
          have hop := own_op HOWN.out
          simp only at hop
          by_cases e6 : op < 6
          · have htk : takesT (TM.op ⟨op, ⟨tk, tm, ts⟩, nm⟩) = 1 := by show takesT op = 1; unfold takesT; rw [if_neg (by omega), if_pos e6]
            have e6' : decide (6 ≤ op) = false := by rw [decide_eq_false_iff_not]; omega
            have e3' : decide (3 ≤ op) = true := by rw [decide_eq_true_iff]; omega
            obtain ⟨L, hL⟩ : ∃ L, st.length = L := ⟨_, rfl⟩
            rw [hL]
            rw [hL] at HO7 HNO
            obtain ⟨a9, r9, rfl⟩ : ∃ a r, st = a :: r := by
              rw [show takesT op = 1 from htk] at h2
              match st, h2 with
              | a :: r, _ => exact ⟨a, r, rfl⟩
            obtain ⟨ak, an, asx⟩ := a9
            obtain ⟨g, rfl, hg, hcap, ⟨a0, a1, a2⟩⟩ := HO7.out.top1
            simp only at a0 a1 a2
            obtain rfl : L = r9.length + 1 := by rw [← hL]; rfl
            have hLb : r9.length ≤ 1000 := by have h1 := HTL.out; have h3 := HK.out; simp only [List.length_cons] at hsj; omega
            have qv2 : IntKind.i64.wrap ((r9.length : Int) + 1 - 1) = (r9.length : Int) := by rw [IntWalk.i64_in _ (by omega)]; omega
            have qv3 : IntKind.i64.wrap (r9.length : Int) = (r9.length : Int) := by rw [IntWalk.i64_in _ (by omega)]
            have n1 : 0 ≤ (r9.length : Int) := by omega
            have n2 : (r9.length : Int) < (r9.length : Int) + 1 := by omega
            have HO7r := Lib.hid HO7.out.less1
            obtain ⟨X, hX⟩ : ∃ X, oneV op ⟨ak, an, asx⟩ = X := ⟨_, rfl⟩
            obtain ⟨⟨xk, xn, xs⟩, xc⟩ := X
            have HTw : Hid (∀ W, Calls Tryz.prog 38 #[.int .i64 op, .agg #[.int .i64 ak, .int .i64 an, .string asx]] W fun r w' => r = .returned (.tuple #[.agg #[.int .i64 xk, .int .i64 xn, .string xs], .int .i64 xc]) ∧ Below W.heap.size W w') := Lib.hid (oneR6 (HOK.out _ (List.mem_cons_self ..)) hX)
            have HXE := Lib.hid hX
            clear hL hX
            go_upto_region 25 with fail
            go_region_with ((go_at_call 38; refine (HTw.out _).mono ?_; rintro r w7b ⟨rfl, hbt1⟩; have hbt : Below w7.heap.size w7 w7b := (Below.refl _ w7).drew.trans hbt1; have y0 : w7b.cell? ⟨sv + 1, 0, none⟩ = some (.int .i64 tk) := ((HV7.out.below hbt).cells).1; have y1 : w7b.cell? ⟨sv + 1, 1, none⟩ = some (.int .i64 tm) := ((HV7.out.below hbt).cells).2.1; have y2 : w7b.cell? ⟨sv + 1, 2, none⟩ = some (.string ts) := ((HV7.out.below hbt).cells).2.2; have f0 := (HV7.out.below hbt).frozen 0; have f1 := (HV7.out.below hbt).frozen 1; have f2 := (HV7.out.below hbt).frozen 2))
            all_goals
              have HV7b := Lib.hid (HV7.out.below hbt)
              have HO7b : Hid (OwnV w7b lo (.slice (some ⟨g, 0, none⟩) r9.length c9) r9.reverse) := Lib.hid (HO7r.out.keep (fun g _ hg => hbt.block g hg) (Nat.le_refl _))
              have HB7b := Lib.hid (HB7.out.trans (hbt.mono (by have := HB7.out.size; have := HLo.out; omega)))
              have hv8 := (HV7b.out).set3' xk xn xs
              have ho8 := HO7b.out.put3 (x := .int .i64 xk) (y := .int .i64 xn) (z := .string xs) (fun e => HNO.out e)
              have hb8 := ((HB7b.out.setCell (p := ⟨sv + 1, 0, none⟩) (by show lo ≤ sv + 1; have := HLsv.out; omega) (.int .i64 xk)).setCell (p := ⟨sv + 1, 1, none⟩) (by show lo ≤ sv + 1; have := HLsv.out; omega) (.int .i64 xn)).setCell (p := ⟨sv + 1, 2, none⟩) (by show lo ≤ sv + 1; have := HLsv.out; omega) (.string xs)
              obtain ⟨w8, hw⟩ : ∃ y, ((w7b.setCell ⟨sv + 1, 0, none⟩ (.int .i64 xk)).setCell ⟨sv + 1, 1, none⟩ (.int .i64 xn)).setCell ⟨sv + 1, 2, none⟩ (.string xs) = y := ⟨_, rfl⟩
              rw [hw] at hv8 ho8 hb8
              have HV8 := Lib.hid hv8
              have HO8 := Lib.hid ho8
              have HB8 := Lib.hid hb8
              have HW8 := Lib.hid hw
              clear hv8 ho8 hb8 hw
              clear hbt hbt1 y0 y1 y2 f0 f1 f2
              rw [HW8.out]
              clear HW8
              by_cases hxc : xc = 0
              · subst hxc
                have HST : Hid (stepG (getL vs) ⟨op, ⟨tk, tm, ts⟩, nm⟩ (⟨ak, an, asx⟩ :: r9) = .inl (⟨xk, xn, xs⟩ :: r9)) := Lib.hid (by
                  have := HXE.out
                  unfold stepG
                  rw [if_neg (show ¬ op = 0 from fun e => by omega), if_neg (show ¬ op = 1 from fun e => by omega), if_neg (show ¬ op = 2 from fun e => by omega), if_pos (show op < 6 by omega)]
                  show (if (oneV op ⟨ak, an, asx⟩).2 = 0 then _ else _) = _
                  rw [HXE.out]
                  rfl)
                have HOKG : Hid (okV ⟨xk, xn, xs⟩) := Lib.hid (by have h := okV_one op (HOK.out _ (List.mem_cons_self ..)); rw [HXE.out] at h; exact h)
                have HTK := Lib.hid htk
                obtain ⟨t0, t1, t2⟩ := HV8.out.cells
                simp only at t0 t1 t2
                have HRn := Lib.hid (HRUN2.out.trans (runG_inl HST.out))
                have HL8 := Lib.hid (show lo ≤ w8.heap.size by have := HB8.out.size; have := HLo.out; omega)
                have HLN := Lib.hid hsj
                have HFF := Lib.hid hfF
                go_wp2_with (at_builtin; refine append_val _ rfl _ _ rfl lo _ (r9).reverse rfl (HO8.out.allocs _) w8.heap.size 1 ⟨xk, xn, xs⟩ rfl (heap_alloc_new w8 _) (by have h1 := HLN.out; have h2 := HTL.out; have h3 := HK.out; simp only [List.length_reverse, List.length_cons] at *; omega) (by have := HL8.out; simp; omega) ?_; intro v9 w9 ho9 hg9; have HB9 := Lib.hid ((HB8.out.alloc HL8.out (.cells #[.int .i64 xk, .int .i64 xn, .string xs] 27)).grown hg9 (by have := HL8.out; simp; omega) (fun k hk => (HO8.out.lt k hk).1)); have HO9 := Lib.hid (show OwnV w9 lo v9 (⟨xk, xn, xs⟩ :: r9).reverse by rw [List.reverse_cons]; exact ho9); clear ho9 hg9)
                obtain ⟨A8, c8, hv9⟩ := HO9.out.form'
                rw [List.length_reverse] at hv9
                subst hv9
                go_roundg (gk - 1)
                case measure => have := HK.out; omega
                case rel => exact ⟨j + 1, ⟨xk, xn, xs⟩ :: r9, m, by have := HK.out; omega, by go_num, rfl, ⟨A8, c8, rfl, HO9.out⟩, HB9.out, HRn.out, by have h := HCN.out; rw [HTK.out] at h; exact h, (fun v hv => by
                      rcases List.mem_cons.1 hv with rfl | hv
                      · exact HOKG.out
                      · exact HOK.out v (List.mem_cons_of_mem _ hv)), by have h1 := HLN.out; simp only [List.length_cons] at h1 ⊢; omega, by have := HFF.out; omega⟩
              · have d : (xc == 0) = false := by rw [beq_eq_false_iff_ne]; exact hxc
                have d' : (xc != 0) = true := by rw [bne_iff_ne]; exact hxc
                have HX : Hid (ofG (getL vs) l F = (V0, m, xc, [])) := Lib.hid (by
                  have hst : stepG (getL vs) ⟨op, ⟨tk, tm, ts⟩, nm⟩ (⟨ak, an, asx⟩ :: r9) = .inr (xc, []) := by
                    unfold stepG
                    rw [if_neg (show ¬ op = 0 from fun e => by omega), if_neg (show ¬ op = 1 from fun e => by omega), if_neg (show ¬ op = 2 from fun e => by omega), if_pos (show op < 6 by omega)]
                    show (if (oneV op ⟨ak, an, asx⟩).2 = 0 then _ else _) = _
                    rw [HXE.out]
                    exact if_neg hxc
                  rw [HOF.out, HRUN2.out, runG_inr hst])
                have HCB : Hid (true = (!(xc == 0))) := Lib.hid (by rw [d]; rfl)
                have HOf := Lib.hid (refOf_num xc w8 hxc)
                go_wp2_with fail
                refine HOf.out.mono ?_
                rintro r w5z ⟨rfl, hb5⟩
                dsimp only
                have HBz := Lib.hid (HB8.out.trans (hb5.mono (by have := HB8.out.size; have := HLo.out; omega)))
                clear hb5
                obtain ⟨f0, f1, f2, f3, f4, f5, f6, f7, f8, y0, y1, y2, y3, y4, y5, y6, y7, y8⟩ := HFr.out _ HBz.out
                have p9 := HP9.out _ HBz.out 0 0 ⟨#[]⟩ (.bool true) (.slice none 0 0) (.int .i64 (xc)) (.bool false) (.string ⟨#[]⟩) (.string ⟨#[]⟩)
                unfold put9 at p9
                have HQ := Lib.hid p9
                clear p9
                go_wp2
                obtain ⟨z0, z1, z2, p0, p1, p2, p3, p4, p5, hbF⟩ := HQ.out
                refine bodyPost_ret (v := .tuple #[.agg #[.int .i64 0, .int .i64 0, .string ⟨#[]⟩], .int .i64 ((m : Int)), .agg #[.bool true, .slice none 0 0, .int .i64 (xc), .bool false, .string ⟨#[]⟩, .string ⟨#[]⟩]]) (by simp [results, Tryz.results12, go_sem, z0, z1, z2, p0, p1, p2, p3, p4, p5]) rfl ?_
                exact HEnd.out 0 0 ⟨#[]⟩ m xc [] none 0 true _ HX.out HCB.out (fun h => absurd h (by simp)) hbF
          · have htk : takesT (TM.op ⟨op, ⟨tk, tm, ts⟩, nm⟩) = 2 := by show takesT op = 2; unfold takesT; rw [if_neg (by omega), if_neg e6]
            have e6' : decide (6 ≤ op) = true := by rw [decide_eq_true_iff]; omega
            obtain ⟨L, hL⟩ : ∃ L, st.length = L := ⟨_, rfl⟩
            rw [hL]
            rw [hL] at HO7 HNO
            obtain ⟨b9, a9, r9, rfl⟩ : ∃ b a r, st = b :: a :: r := by
              rw [show takesT op = 2 from htk] at h2
              match st, h2 with
              | b :: a :: r, _ => exact ⟨b, a, r, rfl⟩
            obtain ⟨bk, bn, bs⟩ := b9
            obtain ⟨ak, an, asx⟩ := a9
            obtain ⟨g, rfl, hg, hcap, ⟨a0, a1, a2⟩, ⟨b0, b1, b2⟩⟩ := HO7.out.top2
            simp only at a0 a1 a2 b0 b1 b2
            obtain rfl : L = r9.length + 1 + 1 := by rw [← hL]; rfl
            have hLb : r9.length ≤ 1000 := by have h1 := HTL.out; have h3 := HK.out; simp only [List.length_cons] at hsj; omega
            have qv2 : IntKind.i64.wrap ((r9.length : Int) + 1 + 1 - 2) = (r9.length : Int) := by rw [IntWalk.i64_in _ (by omega)]; omega
            have qv3 : IntKind.i64.wrap ((r9.length : Int) + 1 + 1 - 1) = (r9.length : Int) + 1 := by rw [IntWalk.i64_in _ (by omega)]; omega
            have qv4 : IntKind.i64.wrap ((r9.length : Int) + 1) = (r9.length : Int) + 1 := by rw [IntWalk.i64_in _ (by omega)]
            have tn : ((r9.length : Int) + 1).toNat = r9.length + 1 := by omega
            have n1 : 0 ≤ (r9.length : Int) := by omega
            have n2 : (r9.length : Int) < (r9.length : Int) + 1 + 1 := by omega
            have n3 : 0 ≤ (r9.length : Int) + 1 := by omega
            have n4 : (r9.length : Int) + 1 < (r9.length : Int) + 1 + 1 := by omega
            have HO7r := Lib.hid HO7.out.less2
            obtain ⟨X, hX⟩ : ∃ X, twoV op ⟨ak, an, asx⟩ ⟨bk, bn, bs⟩ = X := ⟨_, rfl⟩
            obtain ⟨⟨xk, xn, xs⟩, xc⟩ := X
            have HTw : Hid (∀ W, Calls Tryz.prog 37 #[.int .i64 op, .agg #[.int .i64 ak, .int .i64 an, .string asx], .agg #[.int .i64 bk, .int .i64 bn, .string bs]] W fun r w' => r = .returned (.tuple #[.agg #[.int .i64 xk, .int .i64 xn, .string xs], .int .i64 xc]) ∧ Below W.heap.size W w') := Lib.hid (twoR6 (HOK.out _ (List.mem_cons_of_mem _ (List.mem_cons_self ..))) (HOK.out _ (List.mem_cons_self ..)) hX)
            have HXE := Lib.hid hX
            clear hL hX
            go_upto_region 22 with fail
            go_region_with ((go_at_call 37; refine (HTw.out _).mono ?_; rintro r w7b ⟨rfl, hbt1⟩; have hbt : Below w7.heap.size w7 w7b := (Below.refl _ w7).drew.trans hbt1; have y0 : w7b.cell? ⟨sv + 1, 0, none⟩ = some (.int .i64 tk) := ((HV7.out.below hbt).cells).1; have y1 : w7b.cell? ⟨sv + 1, 1, none⟩ = some (.int .i64 tm) := ((HV7.out.below hbt).cells).2.1; have y2 : w7b.cell? ⟨sv + 1, 2, none⟩ = some (.string ts) := ((HV7.out.below hbt).cells).2.2; have f0 := (HV7.out.below hbt).frozen 0; have f1 := (HV7.out.below hbt).frozen 1; have f2 := (HV7.out.below hbt).frozen 2))
            all_goals
              have HV7b := Lib.hid (HV7.out.below hbt)
              have HO7b : Hid (OwnV w7b lo (.slice (some ⟨g, 0, none⟩) r9.length c9) r9.reverse) := Lib.hid (HO7r.out.keep (fun g _ hg => hbt.block g hg) (Nat.le_refl _))
              have HB7b := Lib.hid (HB7.out.trans (hbt.mono (by have := HB7.out.size; have := HLo.out; omega)))
              have hv8 := (HV7b.out).set3' xk xn xs
              have ho8 := HO7b.out.put3 (x := .int .i64 xk) (y := .int .i64 xn) (z := .string xs) (fun e => HNO.out e)
              have hb8 := ((HB7b.out.setCell (p := ⟨sv + 1, 0, none⟩) (by show lo ≤ sv + 1; have := HLsv.out; omega) (.int .i64 xk)).setCell (p := ⟨sv + 1, 1, none⟩) (by show lo ≤ sv + 1; have := HLsv.out; omega) (.int .i64 xn)).setCell (p := ⟨sv + 1, 2, none⟩) (by show lo ≤ sv + 1; have := HLsv.out; omega) (.string xs)
              obtain ⟨w8, hw⟩ : ∃ y, ((w7b.setCell ⟨sv + 1, 0, none⟩ (.int .i64 xk)).setCell ⟨sv + 1, 1, none⟩ (.int .i64 xn)).setCell ⟨sv + 1, 2, none⟩ (.string xs) = y := ⟨_, rfl⟩
              rw [hw] at hv8 ho8 hb8
              have HV8 := Lib.hid hv8
              have HO8 := Lib.hid ho8
              have HB8 := Lib.hid hb8
              have HW8 := Lib.hid hw
              clear hv8 ho8 hb8 hw
              clear hbt hbt1 y0 y1 y2 f0 f1 f2
              rw [HW8.out]
              clear HW8
              by_cases hxc : xc = 0
              · subst hxc
                have HST : Hid (stepG (getL vs) ⟨op, ⟨tk, tm, ts⟩, nm⟩ (⟨bk, bn, bs⟩ :: ⟨ak, an, asx⟩ :: r9) = .inl (⟨xk, xn, xs⟩ :: r9)) := Lib.hid (by
                  have := HXE.out
                  unfold stepG
                  rw [if_neg (show ¬ op = 0 from fun e => by omega), if_neg (show ¬ op = 1 from fun e => by omega), if_neg (show ¬ op = 2 from fun e => by omega), if_neg (show ¬ op < 6 by omega)]
                  show (if (twoV op ⟨ak, an, asx⟩ ⟨bk, bn, bs⟩).2 = 0 then _ else _) = _
                  rw [HXE.out]
                  rfl)
                have HOKG : Hid (okV ⟨xk, xn, xs⟩) := Lib.hid (by have h := okV_two op (HOK.out _ (List.mem_cons_of_mem _ (List.mem_cons_self ..))) (HOK.out _ (List.mem_cons_self ..)); rw [HXE.out] at h; exact h)
                have HTK := Lib.hid htk
                obtain ⟨t0, t1, t2⟩ := HV8.out.cells
                simp only at t0 t1 t2
                have HRn := Lib.hid (HRUN2.out.trans (runG_inl HST.out))
                have HL8 := Lib.hid (show lo ≤ w8.heap.size by have := HB8.out.size; have := HLo.out; omega)
                have HLN := Lib.hid hsj
                have HFF := Lib.hid hfF
                go_wp2_with (at_builtin; refine append_val _ rfl _ _ rfl lo _ (r9).reverse rfl (HO8.out.allocs _) w8.heap.size 1 ⟨xk, xn, xs⟩ rfl (heap_alloc_new w8 _) (by have h1 := HLN.out; have h2 := HTL.out; have h3 := HK.out; simp only [List.length_reverse, List.length_cons] at *; omega) (by have := HL8.out; simp; omega) ?_; intro v9 w9 ho9 hg9; have HB9 := Lib.hid ((HB8.out.alloc HL8.out (.cells #[.int .i64 xk, .int .i64 xn, .string xs] 27)).grown hg9 (by have := HL8.out; simp; omega) (fun k hk => (HO8.out.lt k hk).1)); have HO9 := Lib.hid (show OwnV w9 lo v9 (⟨xk, xn, xs⟩ :: r9).reverse by rw [List.reverse_cons]; exact ho9); clear ho9 hg9)
                obtain ⟨A8, c8, hv9⟩ := HO9.out.form'
                rw [List.length_reverse] at hv9
                subst hv9
                go_roundg (gk - 1)
                case measure => have := HK.out; omega
                case rel => exact ⟨j + 1, ⟨xk, xn, xs⟩ :: r9, m, by have := HK.out; omega, by go_num, rfl, ⟨A8, c8, rfl, HO9.out⟩, HB9.out, HRn.out, by have h := HCN.out; rw [HTK.out] at h; exact h, (fun v hv => by
                      rcases List.mem_cons.1 hv with rfl | hv
                      · exact HOKG.out
                      · exact HOK.out v (List.mem_cons_of_mem _ (List.mem_cons_of_mem _ hv))), by have h1 := HLN.out; simp only [List.length_cons] at h1 ⊢; omega, by have := HFF.out; omega⟩
              · have d : (xc == 0) = false := by rw [beq_eq_false_iff_ne]; exact hxc
                have d' : (xc != 0) = true := by rw [bne_iff_ne]; exact hxc
                have HX : Hid (ofG (getL vs) l F = (V0, m, xc, [])) := Lib.hid (by
                  have hst : stepG (getL vs) ⟨op, ⟨tk, tm, ts⟩, nm⟩ (⟨bk, bn, bs⟩ :: ⟨ak, an, asx⟩ :: r9) = .inr (xc, []) := by
                    unfold stepG
                    rw [if_neg (show ¬ op = 0 from fun e => by omega), if_neg (show ¬ op = 1 from fun e => by omega), if_neg (show ¬ op = 2 from fun e => by omega), if_neg (show ¬ op < 6 by omega)]
                    show (if (twoV op ⟨ak, an, asx⟩ ⟨bk, bn, bs⟩).2 = 0 then _ else _) = _
                    rw [HXE.out]
                    exact if_neg hxc
                  rw [HOF.out, HRUN2.out, runG_inr hst])
                have HCB : Hid (true = (!(xc == 0))) := Lib.hid (by rw [d]; rfl)
                have HOf := Lib.hid (refOf_num xc w8 hxc)
                go_wp2_with fail
                refine HOf.out.mono ?_
                rintro r w5z ⟨rfl, hb5⟩
                dsimp only
                have HBz := Lib.hid (HB8.out.trans (hb5.mono (by have := HB8.out.size; have := HLo.out; omega)))
                clear hb5
                obtain ⟨f0, f1, f2, f3, f4, f5, f6, f7, f8, y0, y1, y2, y3, y4, y5, y6, y7, y8⟩ := HFr.out _ HBz.out
                have p9 := HP9.out _ HBz.out 0 0 ⟨#[]⟩ (.bool true) (.slice none 0 0) (.int .i64 (xc)) (.bool false) (.string ⟨#[]⟩) (.string ⟨#[]⟩)
                unfold put9 at p9
                have HQ := Lib.hid p9
                clear p9
                go_wp2
                obtain ⟨z0, z1, z2, p0, p1, p2, p3, p4, p5, hbF⟩ := HQ.out
                refine bodyPost_ret (v := .tuple #[.agg #[.int .i64 0, .int .i64 0, .string ⟨#[]⟩], .int .i64 ((m : Int)), .agg #[.bool true, .slice none 0 0, .int .i64 (xc), .bool false, .string ⟨#[]⟩, .string ⟨#[]⟩]]) (by simp [results, Tryz.results12, go_sem, z0, z1, z2, p0, p1, p2, p3, p4, p5]) rfl ?_
                exact HEnd.out 0 0 ⟨#[]⟩ m xc [] none 0 true _ HX.out HCB.out (fun h => absurd h (by simp)) hbF
      · have hj' : j = l.length := by have := HK.out; omega
        have hlt : decide ((j : Int) < (l.length : Int)) = false := by simpa using hj
        have hdr : l.drop j = [] := by rw [hj', List.drop_length]
        have h1 := hchk
        rw [hdr] at h1
        have hst1 : st.length = 1 := (Prod.mk.inj h1).2
        obtain ⟨v9, rfl⟩ : ∃ v, st = [v] := List.length_eq_one_iff.1 hst1
        obtain ⟨xk, xn, xs⟩ := v9
        have HX : Hid (ofG (getL vs) l F = (⟨xk, xn, xs⟩, f, 0, [])) := Lib.hid (by
          rw [HOF.out, HRUN.out, hdr]
          rfl)
        obtain ⟨g, rfl, hq1, hg, hq2, hcap, ⟨a0, a1, a2⟩⟩ := HO.out.at_ 0 (by simp)
        clear hq1 hq2
        have a0 : wr.cell? ⟨g, 0, none⟩ = some (.int .i64 xk) := a0
        have a1 : wr.cell? ⟨g, 1, none⟩ = some (.int .i64 xn) := a1
        have a2 : wr.cell? ⟨g, 2, none⟩ = some (.string xs) := a2
        obtain ⟨f0, f1, f2, f3, f4, f5, f6, f7, f8, y0, y1, y2, y3, y4, y5, y6, y7, y8⟩ := HFr.out _ HB.out
        have p9 := HP9.out _ HB.out xk xn xs (.bool false) (.slice none 0 0) (.int .i64 0) (.bool false) (.string ⟨#[]⟩) (.string ⟨#[]⟩)
        unfold put9 at p9
        have HQ := Lib.hid p9
        clear p9 h1 hdr hj' hchk hst1 hg hcap
        go_wp2
        obtain ⟨z0, z1, z2, p0, p1, p2, p3, p4, p5, hbF⟩ := HQ.out
        refine bodyPost_ret (v := .tuple #[.agg #[.int .i64 xk, .int .i64 xn, .string xs], .int .i64 (f : Int), .agg #[.bool false, .slice none 0 0, .int .i64 0, .bool false, .string ⟨#[]⟩, .string ⟨#[]⟩]]) (by simp [results, Tryz.results12, go_sem, z0, z1, z2, p0, p1, p2, p3, p4, p5]) rfl ?_
        exact HEnd.out xk xn xs f 0 [] none 0 false _ HX.out rfl (fun h => absurd h (by simp)) hbF
  · have HB3 := Lib.hid hb3
    have HB23 := Lib.hid (show Below w2.heap.size w2 w3 from hb3)
    have HX : Hid (ofG (getL vs) l F = (V0, F, checkL l, [])) := Lib.hid (by unfold ofG; rw [if_pos hck])
    have HOf := Lib.hid (refOf_num (checkL l) w3 hck)
    have hckb : (!(checkL l == 0)) = true := by simp [hck]
    have HCB := Lib.hid hckb.symm
    obtain ⟨ck, hckv⟩ : ∃ y, checkL l = y := ⟨_, rfl⟩
    rw [hckv] at HX HOf HCB hck ⊢
    have d : (ck == 0) = false := by rw [beq_eq_false_iff_ne]; exact hck
    have d' : (ck != 0) = true := by rw [bne_iff_ne]; exact hck
    clear hckb hckv hb3
    go_wp2_with fail
    refine HOf.out.mono ?_
    rintro r w5 ⟨rfl, hb5⟩
    dsimp only
    have HB5 := Lib.hid (HB23.out.trans (hb5.mono HB23.out.size))
    clear hb5
    obtain ⟨f0, f1, f2, f3, f4, f5, f6, f7, f8, y0, y1, y2, y3, y4, y5, y6, y7, y8⟩ := HFr.out _ HB5.out
    have p9 := HP9.out _ HB5.out (0) (0) (⟨#[]⟩) (.bool true) (.slice none 0 0) (.int .i64 (ck)) (.bool false) (.string ⟨#[]⟩) (.string ⟨#[]⟩)
    unfold put9 at p9
    have HQ := Lib.hid p9
    clear p9
    go_wp2
    obtain ⟨z0, z1, z2, p0, p1, p2, p3, p4, p5, hbF⟩ := HQ.out
    refine bodyPost_ret (v := .tuple #[.agg #[.int .i64 (0), .int .i64 (0), .string (⟨#[]⟩)], .int .i64 ((F : Int)), .agg #[.bool true, .slice none 0 0, .int .i64 (ck), .bool false, .string ⟨#[]⟩, .string ⟨#[]⟩]]) (by simp [results, Tryz.results12, go_sem, z0, z1, z2, p0, p1, p2, p3, p4, p5]) rfl ?_
    exact HEnd.out 0 0 ⟨#[]⟩ F ck [] none 0 true _ HX.out HCB.out (fun h => absurd h (by simp)) hbF
end Go.Proofs.YtidomoibhjgkjaaGreatDoor
