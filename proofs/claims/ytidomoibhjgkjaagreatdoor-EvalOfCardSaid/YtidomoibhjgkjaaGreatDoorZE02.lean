import Derived.Test.YtidomoibhjgkjaaGreatDoorZE00
import Derived.Test.YtidomoibhjgkjaaGreatDoorZC22
import Derived.Test.YtidomoibhjgkjaaGreatDoorZC36
import Derived.Test.YtidomoibhjgkjaaGreatDoorZC35
import Derived.Test.YtidomoibhjgkjaaGreatDoorZC18
import Derived.Deep.LoopGhost
/-
  What one value comes to: the document's own answer.
-/
namespace Go.Proofs.YtidomoibhjgkjaaGreatDoor
open Go.RowKit

set_option maxRecDepth 100000 in
set_option maxHeartbeats 1000000 in
theorem g6One3_any (a : V) (w : World) (ha : okV a) : Calls Tryz.prog 38 #[.int .i64 3, a.val] w (RetG (oneV 3 a) w) := by
  obtain ⟨ak, an, sa⟩ := a
  have HK := Lib.hid (fun W => g6takes_any 3 W)
  have HT0 := Lib.hid (fun W => g6truth_any false W)
  have HT1 := Lib.hid (fun W => g6truth_any true W)
  have HNm := Lib.hid (fun n W => g6number_any n W)
  rw [show kindG 3 = 1 from rfl] at HK
  simp only [V.val, truthV, numG, mtS, Bool.false_eq_true, if_false, if_true] at HT0 HT1 HNm ⊢
  obtain ⟨X, hX⟩ : ∃ X, oneV 3 ⟨ak, an, sa⟩ = X := ⟨_, rfl⟩
  rw [hX]
  by_cases hk : ak = 1
  · subst hk
    have k1 : ((1 : Int) == 1) = true := rfl
    have k2 : ((1 : Int) != 1) = false := rfl
    by_cases hm : an = -9223372036854775808
    · have HX : Hid (X = (V0, 9)) := Lib.hid (by rw [← hX]; subst hm; rfl)
      subst hm
      clear hX ha
      have H3 := Lib.hid (Duo.new w ⟨1, -9223372036854775808, sa⟩)
      go_enter Tryz.func38, Tryz.ntmps38
      go_upto_region 1 with fail
      simp only [duo_def]
      obtain ⟨g, hg⟩ : ∃ g, w.heap.size = g := ⟨_, rfl⟩
      rw [hg] at H3
      obtain ⟨w3, hw3⟩ : ∃ y, duo w ⟨1, -9223372036854775808, sa⟩ = y := ⟨_, rfl⟩
      rw [hw3] at H3 ⊢
      simp only [hg]
      clear hw3 hg
      obtain ⟨a0, a1, a2⟩ := H3.out.a.cells
      simp only at a0 a1 a2
      obtain ⟨r0, r1, r2⟩ := H3.out.r.cells
      have f0 := H3.out.r.frozen 0
      have f1 := H3.out.r.frozen 1
      have f2 := H3.out.r.frozen 2
      go_wp2_with fail
      refine (HK.out _).mono ?_
      rintro r w5 ⟨rfl, rfl⟩
      obtain ⟨t0, t1, t2⟩ := (H3.out.r.set3' (0) (0) (⟨#[]⟩)).cells
      have HP := Lib.hid (H3.out.put3 (.int .i64 (0)) (.int .i64 (0)) (.string (⟨#[]⟩)))
      go_wp2
      refine bodyPost_ret (v := .tuple #[.agg #[.int .i64 (0), .int .i64 (0), .string (⟨#[]⟩)], .int .i64 9]) (by simp [results, Tryz.results38, go_sem, t0, t1, t2]) rfl ⟨?_, HP.out⟩
      rw [HX.out]
      rfl
    · have hin : inI (-an) := by obtain ⟨⟨_, _⟩, _⟩ := ha; unfold inI; simp only at *; omega
      have hw : wrap64 (-an) = -an := IntWalk.wrap64_in _ hin
      have m1 : (an == -9223372036854775808) = false := by rw [beq_eq_false_iff_ne]; exact hm
      have HX : Hid (X = (⟨1, -an, ⟨#[]⟩⟩, 0)) := Lib.hid (by rw [← hX]; unfold oneV; rw [if_neg (by decide), if_neg (by intro h; exact h rfl), if_neg (by decide), if_neg (by decide), if_neg hm]; rfl)
      have HN1 := Lib.hid (fun W => HNm.out (-an) W)
      clear hX ha hin hm
      have H3 := Lib.hid (Duo.new w ⟨1, an, sa⟩)
      go_enter Tryz.func38, Tryz.ntmps38
      go_upto_region 1 with fail
      simp only [duo_def]
      obtain ⟨g, hg⟩ : ∃ g, w.heap.size = g := ⟨_, rfl⟩
      rw [hg] at H3
      obtain ⟨w3, hw3⟩ : ∃ y, duo w ⟨1, an, sa⟩ = y := ⟨_, rfl⟩
      rw [hw3] at H3 ⊢
      simp only [hg]
      clear hw3 hg
      obtain ⟨a0, a1, a2⟩ := H3.out.a.cells
      simp only at a0 a1 a2
      obtain ⟨r0, r1, r2⟩ := H3.out.r.cells
      have f0 := H3.out.r.frozen 0
      have f1 := H3.out.r.frozen 1
      have f2 := H3.out.r.frozen 2
      go_wp2_with fail
      refine (HK.out _).mono ?_
      rintro r w5 ⟨rfl, rfl⟩
      go_wp2_with fail
      refine (HN1.out _).mono ?_
      rintro r w5 ⟨rfl, hb5⟩
      have H4 := Lib.hid (H3.out.below hb5)
      clear hb5 a0 a1 a2 r0 r1 r2 f0 f1 f2 H3
      have H3 := H4
      clear H4
      obtain ⟨a0, a1, a2⟩ := H3.out.a.cells
      simp only at a0 a1 a2
      obtain ⟨r0, r1, r2⟩ := H3.out.r.cells
      have f0 := H3.out.r.frozen 0
      have f1 := H3.out.r.frozen 1
      have f2 := H3.out.r.frozen 2
      obtain ⟨t0, t1, t2⟩ := (H3.out.r.set3' (1) (-an) (⟨#[]⟩)).cells
      have HP := Lib.hid (H3.out.put3 (.int .i64 (1)) (.int .i64 (-an)) (.string (⟨#[]⟩)))
      go_wp2
      refine bodyPost_ret (v := .tuple #[.agg #[.int .i64 (1), .int .i64 (-an), .string (⟨#[]⟩)], .int .i64 0]) (by simp [results, Tryz.results38, go_sem, t0, t1, t2]) rfl ⟨?_, HP.out⟩
      rw [HX.out]
      rfl
  · have k1 : (ak == 1) = false := by rw [beq_eq_false_iff_ne]; exact hk
    have k2 : (ak != 1) = true := by rw [bne_iff_ne]; exact hk
    have HX : Hid (X = (V0, 40)) := Lib.hid (by rw [← hX]; unfold oneV; rw [if_neg (by decide), if_pos (by exact hk)])
    clear hX ha hk
    have H3 := Lib.hid (Duo.new w ⟨ak, an, sa⟩)
    go_enter Tryz.func38, Tryz.ntmps38
    go_upto_region 1 with fail
    simp only [duo_def]
    obtain ⟨g, hg⟩ : ∃ g, w.heap.size = g := ⟨_, rfl⟩
    rw [hg] at H3
    obtain ⟨w3, hw3⟩ : ∃ y, duo w ⟨ak, an, sa⟩ = y := ⟨_, rfl⟩
    rw [hw3] at H3 ⊢
    simp only [hg]
    clear hw3 hg
    obtain ⟨a0, a1, a2⟩ := H3.out.a.cells
    simp only at a0 a1 a2
    obtain ⟨r0, r1, r2⟩ := H3.out.r.cells
    have f0 := H3.out.r.frozen 0
    have f1 := H3.out.r.frozen 1
    have f2 := H3.out.r.frozen 2
    go_wp2_with fail
    refine (HK.out _).mono ?_
    rintro r w5 ⟨rfl, rfl⟩
    obtain ⟨t0, t1, t2⟩ := (H3.out.r.set3' (0) (0) (⟨#[]⟩)).cells
    have HP := Lib.hid (H3.out.put3 (.int .i64 (0)) (.int .i64 (0)) (.string (⟨#[]⟩)))
    go_wp2
    refine bodyPost_ret (v := .tuple #[.agg #[.int .i64 (0), .int .i64 (0), .string (⟨#[]⟩)], .int .i64 40]) (by simp [results, Tryz.results38, go_sem, t0, t1, t2]) rfl ⟨?_, HP.out⟩
    rw [HX.out]
    rfl
set_option maxRecDepth 100000 in
set_option maxHeartbeats 1000000 in
theorem g6One4_any (a : V) (w : World) (ha : okV a) : Calls Tryz.prog 38 #[.int .i64 4, a.val] w (RetG (oneV 4 a) w) := by
  obtain ⟨ak, an, sa⟩ := a
  have HK := Lib.hid (fun W => g6takes_any 4 W)
  have HT0 := Lib.hid (fun W => g6truth_any false W)
  have HT1 := Lib.hid (fun W => g6truth_any true W)
  have HNm := Lib.hid (fun n W => g6number_any n W)
  rw [show kindG 4 = 2 from rfl] at HK
  simp only [V.val, truthV, numG, mtS, Bool.false_eq_true, if_false, if_true] at HT0 HT1 HNm ⊢
  obtain ⟨X, hX⟩ : ∃ X, oneV 4 ⟨ak, an, sa⟩ = X := ⟨_, rfl⟩
  rw [hX]
  by_cases hk : ak = 2
  · subst hk
    have k1 : ((2 : Int) == 2) = true := rfl
    have k2 : ((2 : Int) != 2) = false := rfl
    by_cases hm : an = 0
    · subst hm
      have HX : Hid (X = (truthV true, 0)) := Lib.hid (by rw [← hX]; unfold oneV; rw [if_neg (by decide), if_neg (by intro h; exact h rfl), if_pos rfl]; simp)
      clear hX ha
      have H3 := Lib.hid (Duo.new w ⟨2, 0, sa⟩)
      go_enter Tryz.func38, Tryz.ntmps38
      go_upto_region 1 with fail
      simp only [duo_def]
      obtain ⟨g, hg⟩ : ∃ g, w.heap.size = g := ⟨_, rfl⟩
      rw [hg] at H3
      obtain ⟨w3, hw3⟩ : ∃ y, duo w ⟨2, 0, sa⟩ = y := ⟨_, rfl⟩
      rw [hw3] at H3 ⊢
      simp only [hg]
      clear hw3 hg
      obtain ⟨a0, a1, a2⟩ := H3.out.a.cells
      simp only at a0 a1 a2
      obtain ⟨r0, r1, r2⟩ := H3.out.r.cells
      have f0 := H3.out.r.frozen 0
      have f1 := H3.out.r.frozen 1
      have f2 := H3.out.r.frozen 2
      go_wp2_with fail
      refine (HK.out _).mono ?_
      rintro r w5 ⟨rfl, rfl⟩
      go_wp2_with fail
      refine (HT1.out _).mono ?_
      rintro r w5 ⟨rfl, hb5⟩
      have H4 := Lib.hid (H3.out.below hb5)
      clear hb5 a0 a1 a2 r0 r1 r2 f0 f1 f2 H3
      have H3 := H4
      clear H4
      obtain ⟨a0, a1, a2⟩ := H3.out.a.cells
      simp only at a0 a1 a2
      obtain ⟨r0, r1, r2⟩ := H3.out.r.cells
      have f0 := H3.out.r.frozen 0
      have f1 := H3.out.r.frozen 1
      have f2 := H3.out.r.frozen 2
      obtain ⟨t0, t1, t2⟩ := (H3.out.r.set3' (2) (1) (⟨#[]⟩)).cells
      have HP := Lib.hid (H3.out.put3 (.int .i64 (2)) (.int .i64 (1)) (.string (⟨#[]⟩)))
      go_wp2
      refine bodyPost_ret (v := .tuple #[.agg #[.int .i64 (2), .int .i64 (1), .string (⟨#[]⟩)], .int .i64 0]) (by simp [results, Tryz.results38, go_sem, t0, t1, t2]) rfl ⟨?_, HP.out⟩
      rw [HX.out]
      rfl
    · have m1 : (an == 0) = false := by rw [beq_eq_false_iff_ne]; exact hm
      have HX : Hid (X = (truthV false, 0)) := Lib.hid (by rw [← hX]; unfold oneV; rw [if_neg (by decide), if_neg (by intro h; exact h rfl), if_pos rfl]; simp [hm])
      clear hX ha hm
      have H3 := Lib.hid (Duo.new w ⟨2, an, sa⟩)
      go_enter Tryz.func38, Tryz.ntmps38
      go_upto_region 1 with fail
      simp only [duo_def]
      obtain ⟨g, hg⟩ : ∃ g, w.heap.size = g := ⟨_, rfl⟩
      rw [hg] at H3
      obtain ⟨w3, hw3⟩ : ∃ y, duo w ⟨2, an, sa⟩ = y := ⟨_, rfl⟩
      rw [hw3] at H3 ⊢
      simp only [hg]
      clear hw3 hg
      obtain ⟨a0, a1, a2⟩ := H3.out.a.cells
      simp only at a0 a1 a2
      obtain ⟨r0, r1, r2⟩ := H3.out.r.cells
      have f0 := H3.out.r.frozen 0
      have f1 := H3.out.r.frozen 1
      have f2 := H3.out.r.frozen 2
      go_wp2_with fail
      refine (HK.out _).mono ?_
      rintro r w5 ⟨rfl, rfl⟩
      go_wp2_with fail
      refine (HT0.out _).mono ?_
      rintro r w5 ⟨rfl, hb5⟩
      have H4 := Lib.hid (H3.out.below hb5)
      clear hb5 a0 a1 a2 r0 r1 r2 f0 f1 f2 H3
      have H3 := H4
      clear H4
      obtain ⟨a0, a1, a2⟩ := H3.out.a.cells
      simp only at a0 a1 a2
      obtain ⟨r0, r1, r2⟩ := H3.out.r.cells
      have f0 := H3.out.r.frozen 0
      have f1 := H3.out.r.frozen 1
      have f2 := H3.out.r.frozen 2
      obtain ⟨t0, t1, t2⟩ := (H3.out.r.set3' (2) (0) (⟨#[]⟩)).cells
      have HP := Lib.hid (H3.out.put3 (.int .i64 (2)) (.int .i64 (0)) (.string (⟨#[]⟩)))
      go_wp2
      refine bodyPost_ret (v := .tuple #[.agg #[.int .i64 (2), .int .i64 (0), .string (⟨#[]⟩)], .int .i64 0]) (by simp [results, Tryz.results38, go_sem, t0, t1, t2]) rfl ⟨?_, HP.out⟩
      rw [HX.out]
      rfl
  · have k1 : (ak == 2) = false := by rw [beq_eq_false_iff_ne]; exact hk
    have k2 : (ak != 2) = true := by rw [bne_iff_ne]; exact hk
    have HX : Hid (X = (V0, 40)) := Lib.hid (by rw [← hX]; unfold oneV; rw [if_neg (by decide), if_pos (by exact hk)])
    clear hX ha hk
    have H3 := Lib.hid (Duo.new w ⟨ak, an, sa⟩)
    go_enter Tryz.func38, Tryz.ntmps38
    go_upto_region 1 with fail
    simp only [duo_def]
    obtain ⟨g, hg⟩ : ∃ g, w.heap.size = g := ⟨_, rfl⟩
    rw [hg] at H3
    obtain ⟨w3, hw3⟩ : ∃ y, duo w ⟨ak, an, sa⟩ = y := ⟨_, rfl⟩
    rw [hw3] at H3 ⊢
    simp only [hg]
    clear hw3 hg
    obtain ⟨a0, a1, a2⟩ := H3.out.a.cells
    simp only at a0 a1 a2
    obtain ⟨r0, r1, r2⟩ := H3.out.r.cells
    have f0 := H3.out.r.frozen 0
    have f1 := H3.out.r.frozen 1
    have f2 := H3.out.r.frozen 2
    go_wp2_with fail
    refine (HK.out _).mono ?_
    rintro r w5 ⟨rfl, rfl⟩
    obtain ⟨t0, t1, t2⟩ := (H3.out.r.set3' (0) (0) (⟨#[]⟩)).cells
    have HP := Lib.hid (H3.out.put3 (.int .i64 (0)) (.int .i64 (0)) (.string (⟨#[]⟩)))
    go_wp2
    refine bodyPost_ret (v := .tuple #[.agg #[.int .i64 (0), .int .i64 (0), .string (⟨#[]⟩)], .int .i64 40]) (by simp [results, Tryz.results38, go_sem, t0, t1, t2]) rfl ⟨?_, HP.out⟩
    rw [HX.out]
    rfl
set_option maxRecDepth 100000 in
set_option maxHeartbeats 1000000 in
theorem g6One5_any (a : V) (w : World) (ha : okV a) : Calls Tryz.prog 38 #[.int .i64 5, a.val] w (RetG (oneV 5 a) w) := by
  obtain ⟨ak, an, sa⟩ := a
  have HK := Lib.hid (fun W => g6takes_any 5 W)
  have HT0 := Lib.hid (fun W => g6truth_any false W)
  have HT1 := Lib.hid (fun W => g6truth_any true W)
  have HNm := Lib.hid (fun n W => g6number_any n W)
  rw [show kindG 5 = 3 from rfl] at HK
  simp only [V.val, truthV, numG, mtS, Bool.false_eq_true, if_false, if_true] at HT0 HT1 HNm ⊢
  obtain ⟨X, hX⟩ : ∃ X, oneV 5 ⟨ak, an, sa⟩ = X := ⟨_, rfl⟩
  rw [hX]
  by_cases hk : ak = 3
  · subst hk
    have k1 : ((3 : Int) == 3) = true := rfl
    have k2 : ((3 : Int) != 3) = false := rfl
    have HX : Hid (X = (⟨1, (sa.size : Int), ⟨#[]⟩⟩, 0)) := Lib.hid (by rw [← hX]; rfl)
    have HN1 := Lib.hid (fun W => HNm.out (sa.size : Int) W)
    have hsz : sa.size ≤ 1000000 := ha.2
    clear hX ha
    have H3 := Lib.hid (Duo.new w ⟨3, an, sa⟩)
    go_enter Tryz.func38, Tryz.ntmps38
    go_upto_region 1 with fail
    simp only [duo_def]
    obtain ⟨g, hg⟩ : ∃ g, w.heap.size = g := ⟨_, rfl⟩
    rw [hg] at H3
    obtain ⟨w3, hw3⟩ : ∃ y, duo w ⟨3, an, sa⟩ = y := ⟨_, rfl⟩
    rw [hw3] at H3 ⊢
    simp only [hg]
    clear hw3 hg
    obtain ⟨a0, a1, a2⟩ := H3.out.a.cells
    simp only at a0 a1 a2
    obtain ⟨r0, r1, r2⟩ := H3.out.r.cells
    have f0 := H3.out.r.frozen 0
    have f1 := H3.out.r.frozen 1
    have f2 := H3.out.r.frozen 2
    go_wp2_with fail
    refine (HK.out _).mono ?_
    rintro r w5 ⟨rfl, rfl⟩
    go_wp2_with fail
    refine (HN1.out _).mono ?_
    rintro r w5 ⟨rfl, hb5⟩
    have H4 := Lib.hid (H3.out.below hb5)
    clear hb5 a0 a1 a2 r0 r1 r2 f0 f1 f2 H3
    have H3 := H4
    clear H4
    obtain ⟨a0, a1, a2⟩ := H3.out.a.cells
    simp only at a0 a1 a2
    obtain ⟨r0, r1, r2⟩ := H3.out.r.cells
    have f0 := H3.out.r.frozen 0
    have f1 := H3.out.r.frozen 1
    have f2 := H3.out.r.frozen 2
    obtain ⟨t0, t1, t2⟩ := (H3.out.r.set3' (1) ((sa.size : Int)) (⟨#[]⟩)).cells
    have HP := Lib.hid (H3.out.put3 (.int .i64 (1)) (.int .i64 ((sa.size : Int))) (.string (⟨#[]⟩)))
    go_wp2
    refine bodyPost_ret (v := .tuple #[.agg #[.int .i64 (1), .int .i64 ((sa.size : Int)), .string (⟨#[]⟩)], .int .i64 0]) (by simp [results, Tryz.results38, go_sem, t0, t1, t2]) rfl ⟨?_, HP.out⟩
    rw [HX.out]
    rfl
  · have k1 : (ak == 3) = false := by rw [beq_eq_false_iff_ne]; exact hk
    have k2 : (ak != 3) = true := by rw [bne_iff_ne]; exact hk
    have HX : Hid (X = (V0, 40)) := Lib.hid (by rw [← hX]; unfold oneV; rw [if_neg (by decide), if_pos (by exact hk)])
    clear hX ha hk
    have H3 := Lib.hid (Duo.new w ⟨ak, an, sa⟩)
    go_enter Tryz.func38, Tryz.ntmps38
    go_upto_region 1 with fail
    simp only [duo_def]
    obtain ⟨g, hg⟩ : ∃ g, w.heap.size = g := ⟨_, rfl⟩
    rw [hg] at H3
    obtain ⟨w3, hw3⟩ : ∃ y, duo w ⟨ak, an, sa⟩ = y := ⟨_, rfl⟩
    rw [hw3] at H3 ⊢
    simp only [hg]
    clear hw3 hg
    obtain ⟨a0, a1, a2⟩ := H3.out.a.cells
    simp only at a0 a1 a2
    obtain ⟨r0, r1, r2⟩ := H3.out.r.cells
    have f0 := H3.out.r.frozen 0
    have f1 := H3.out.r.frozen 1
    have f2 := H3.out.r.frozen 2
    go_wp2_with fail
    refine (HK.out _).mono ?_
    rintro r w5 ⟨rfl, rfl⟩
    obtain ⟨t0, t1, t2⟩ := (H3.out.r.set3' (0) (0) (⟨#[]⟩)).cells
    have HP := Lib.hid (H3.out.put3 (.int .i64 (0)) (.int .i64 (0)) (.string (⟨#[]⟩)))
    go_wp2
    refine bodyPost_ret (v := .tuple #[.agg #[.int .i64 (0), .int .i64 (0), .string (⟨#[]⟩)], .int .i64 40]) (by simp [results, Tryz.results38, go_sem, t0, t1, t2]) rfl ⟨?_, HP.out⟩
    rw [HX.out]
    rfl
set_option maxRecDepth 100000 in
set_option maxHeartbeats 1000000 in
theorem g6OneX_any (op : Int) (hop : op ≠ 3 ∧ op ≠ 4 ∧ op ≠ 5) (a : V) (w : World) : Calls Tryz.prog 38 #[.int .i64 op, a.val] w (RetG (oneV op a) w) := by
  obtain ⟨ak, an, sa⟩ := a
  have hz : kindG op = 0 := by unfold kindG; rw [if_neg hop.1, if_neg hop.2.1, if_neg hop.2.2]
  have HK := Lib.hid (fun W => g6takes_any op W)
  rw [hz] at HK
  simp only [V.val]
  obtain ⟨X, hX⟩ : ∃ X, oneV op ⟨ak, an, sa⟩ = X := ⟨_, rfl⟩
  rw [hX]
  have HX : Hid (X = (V0, 1)) := Lib.hid (by rw [← hX]; unfold oneV; rw [if_pos hz])
  clear hX hz hop
  have H3 := Lib.hid (Duo.new w ⟨ak, an, sa⟩)
  go_enter Tryz.func38, Tryz.ntmps38
  go_upto_region 1 with fail
  simp only [duo_def]
  obtain ⟨g, hg⟩ : ∃ g, w.heap.size = g := ⟨_, rfl⟩
  rw [hg] at H3
  obtain ⟨w3, hw3⟩ : ∃ y, duo w ⟨ak, an, sa⟩ = y := ⟨_, rfl⟩
  rw [hw3] at H3 ⊢
  simp only [hg]
  clear hw3 hg
  obtain ⟨a0, a1, a2⟩ := H3.out.a.cells
  simp only at a0 a1 a2
  obtain ⟨r0, r1, r2⟩ := H3.out.r.cells
  have f0 := H3.out.r.frozen 0
  have f1 := H3.out.r.frozen 1
  have f2 := H3.out.r.frozen 2
  go_wp2_with fail
  refine (HK.out _).mono ?_
  rintro r w5 ⟨rfl, rfl⟩
  obtain ⟨t0, t1, t2⟩ := (H3.out.r.set3' (0) (0) (⟨#[]⟩)).cells
  have HP := Lib.hid (H3.out.put3 (.int .i64 (0)) (.int .i64 (0)) (.string (⟨#[]⟩)))
  go_wp2
  refine bodyPost_ret (v := .tuple #[.agg #[.int .i64 (0), .int .i64 (0), .string (⟨#[]⟩)], .int .i64 1]) (by simp [results, Tryz.results38, go_sem, t0, t1, t2]) rfl ⟨?_, HP.out⟩
  rw [HX.out]
  rfl
theorem g6One_any (op : Int) (a : V) (w : World) (ha : okV a) : Calls Tryz.prog 38 #[.int .i64 op, a.val] w (RetG (oneV op a) w) := by
  by_cases h : op ≠ 3 ∧ op ≠ 4 ∧ op ≠ 5
  · exact g6OneX_any op h a w
  · have h : op = 3 ∨ op = 4 ∨ op = 5 := by omega
    rcases h with rfl | rfl | rfl
    · exact g6One3_any a w ha
    · exact g6One4_any a w ha
    · exact g6One5_any a w ha
end Go.Proofs.YtidomoibhjgkjaaGreatDoor

/-
  Variables: the document's own Get and Set.
-/
namespace Go.Proofs.YtidomoibhjgkjaaGreatDoor
open Go.RowKit

theorem getL_here {l : List VN} {j : Nat} (hj : j < l.length) {nm : ByteArray} (h : (l[j]'hj).1 = nm) : getL (l.drop j) nm = some (l[j]'hj).2 := by
  rw [List.drop_eq_getElem_cons hj, getL, if_pos h]
theorem getL_next {l : List VN} {j : Nat} (hj : j < l.length) {nm : ByteArray} (h : (l[j]'hj).1 ≠ nm) : getL (l.drop j) nm = getL (l.drop (j + 1)) nm := by
  rw [List.drop_eq_getElem_cons hj, getL, if_neg h]

set_option maxRecDepth 100000 in
set_option maxHeartbeats 4000000 in
theorem refGet_any (l : List VN) (A : Option Addr) (c : Nat) (nm : ByteArray) (w : World) (hl : l.length ≤ 1000) (hr : RowN w 0 w.heap.size A l) :
    Calls Tryz.prog 18 #[.slice A l.length c, .string nm] w fun r w' => r = .returned (.tuple #[(getO l nm).val, .bool (getL l nm).isSome]) ∧ Below w.heap.size w w' := by
  have HR := Lib.hid hr
  have HX0 := Lib.hid (Boxed.new w 0 0 ⟨#[]⟩)
  have HB0 := Lib.hid (box_below w #[.int .i64 0, .int .i64 0, .string ⟨#[]⟩] 27)
  clear hr
  go_enter Tryz.func18, Tryz.ntmps18
  go_wp2
  go_loopg [7, 10] l.length (fun q _ i wr => ∃ j : Nat, j + q = l.length ∧ i = .int .i64 j ∧ getL l nm = getL (l.drop j) nm ∧ Below (w.alloc (.cells #[.int .i64 0, .int .i64 0, .string ⟨#[]⟩] 27)).heap.size (w.alloc (.cells #[.int .i64 0, .int .i64 0, .string ⟨#[]⟩] 27)) wr)
  case atStart => exact ⟨0, by omega, rfl, rfl, Below.refl _ _⟩
  case round =>
    obtain ⟨j, hk, rfl, hget, hb⟩ := hrel
    have HK := Lib.hid hk
    have HA := Lib.hid hget
    have HX := Lib.hid (HX0.out.below hb)
    have HB := Lib.hid hb
    have HW := Lib.hid (HB0.out.trans (hb.mono HB0.out.size))
    clear hget hb hk
    by_cases hj : j < l.length
    · have hlt : decide ((j : Int) < (l.length : Int)) = true := by simpa using hj
      have hlt2 : decide (j < l.length) = true := by simpa using hj
      obtain ⟨b, o, rfl, hv⟩ := (HR.out.below HW.out (Nat.le_refl _)).at_ hj
      obtain ⟨c0, c1, c2', c3⟩ := hv
      have HH := Lib.hid (fun h => getL_here hj (nm := nm) h)
      have HN := Lib.hid (fun h => getL_next hj (nm := nm) h)
      generalize l[j] = x at *
      obtain ⟨xn, ⟨k, n, s⟩⟩ := x
      simp only at c0 c1 c2' c3
      have hbn := HB.out.alloc HB.out.size (.cells #[.string xn, .int .i64 k, .int .i64 n, .string s] 67)
      have HBN := Lib.hid hbn
      have hx := HX.out.below ((Below.refl _ wr).alloc (Nat.le_refl _) (.cells #[.string xn, .int .i64 k, .int .i64 n, .string s] 67))
      have HXN := Lib.hid hx
      clear hbn
      by_cases h : xn = nm
      · subst h
        have HF := Lib.hid (HA.out.trans (HH.out rfl))
        obtain ⟨r0, r1, r2⟩ := hx.cells
        have f0 := hx.frozen 0
        have f1 := hx.frozen 1
        have f2 := hx.frozen 2
        obtain ⟨t0, t1, t2⟩ := (hx.set3' k n s).cells
        have HP := Lib.hid (Below.set3' (HW.out.alloc HW.out.size (.cells #[.string xn, .int .i64 k, .int .i64 n, .string s] 67)) (Nat.le_refl _) (.int .i64 k) (.int .i64 n) (.string s))
        clear hx
        go_wp2
        refine bodyPost_ret (v := .tuple #[.agg #[.int .i64 k, .int .i64 n, .string s], .bool true]) (by simp [results, Tryz.results18, go_sem, t0, t1, t2]) rfl ?_
        unfold getO
        rw [HF.out]
        exact ⟨rfl, HP.out⟩
      · have e1 : (xn.toList == nm.toList) = false := by
          rw [beq_eq_false_iff_ne, ByteArray.toList_eq, ByteArray.toList_eq]
          exact fun e => h (ByteArray.ext (Array.ext' e))
        have HF := Lib.hid (HA.out.trans (HN.out h))
        clear h hx
        go_wp2
        go_roundg (gk - 1)
        case measure => have := HK.out; omega
        case rel => exact ⟨j + 1, by have := HK.out; omega, by go_num, HF.out, HBN.out⟩
    · have hj' : j = l.length := by have := HK.out; omega
      have hlt : decide ((j : Int) < (l.length : Int)) = false := by simpa using hj
      have HF : Hid (getL l nm = none) := Lib.hid (by rw [HA.out, hj', List.drop_length]; rfl)
      obtain ⟨r0, r1, r2⟩ := HX.out.cells
      have f0 := HX.out.frozen 0
      have f1 := HX.out.frozen 1
      have f2 := HX.out.frozen 2
      obtain ⟨t0, t1, t2⟩ := (HX.out.set3' 0 0 ⟨#[]⟩).cells
      have HP := Lib.hid (Below.set3' HW.out (Nat.le_refl _) (.int .i64 0) (.int .i64 0) (.string ⟨#[]⟩))
      clear hj'
      go_wp2
      refine bodyPost_ret (v := .tuple #[.agg #[.int .i64 0, .int .i64 0, .string ⟨#[]⟩], .bool false]) (by simp [results, Tryz.results18, go_sem, t0, t1, t2]) rfl ?_
      unfold getO
      rw [HF.out]
      exact ⟨rfl, HP.out⟩

/-! ### Set -/
theorem infoVar : ∃ i z, Tryz.prog.info? 67 = some i ∧ i.zero = some z ∧ z.cells.size = 4 ∧ i.size = 4 ∧ i.bytes = 48 := by
  have h : (Tryz.prog.info? 67).map (fun i => (i.zero.map (fun z => z.cells.size), i.size, i.bytes)) = some (some 4, 4, 48) := by kernel_rfl
  obtain ⟨i, hi, hz⟩ := Option.map_eq_some_iff.1 h
  simp only [Prod.mk.injEq] at hz
  obtain ⟨z, hz0, hz1⟩ := Option.map_eq_some_iff.1 hz.1
  exact ⟨i, z, hi, hz0, hz1, hz.2.1, hz.2.2⟩
/-- A slice of these variables, in a block from lo on that nothing else has. -/
def OwnN (w : World) (lo : Nat) (v : Value) (l : List VN) : Prop := w.ownsRow lo 67 4 v l.length (flatV l)
theorem OwnN.lt {w : World} {lo : Nat} {v : Value} {l : List VN} (h : OwnN w lo v l) : ∀ g, v.ownBlock = some g → lo ≤ g ∧ g < w.heap.size := fun g hg => World.ownsRow.lt h g hg
theorem OwnN.allocs {w : World} {lo : Nat} {v : Value} {l : List VN} (h : OwnN w lo v l) (o : Obj) : OwnN (w.alloc o) lo v l := World.ownsRow.alloc h o
theorem OwnN.keep {w w' : World} {lo lo' : Nat} {v : Value} {l : List VN} (h : OwnN w lo v l) (hk : ∀ g, v.ownBlock = some g → g < w.heap.size → w'.heap[g]? = w.heap[g]?) (hlo : lo' ≤ lo) : OwnN w' lo' v l := by
  refine ⟨h.1, ?_⟩
  rcases h.2 with h2 | ⟨g, cap, cur, hv, hb, hg, r⟩
  · exact .inl h2
  · refine .inr ⟨g, cap, cur, hv, by omega, ?_, r⟩
    rw [hk g (by rw [hv]; rfl) (Array.getElem?_eq_some_iff.1 hg).1]
    exact hg
theorem heap1 (w : World) (a b : Obj) : ((w.alloc a).alloc b).heap[w.heap.size]? = some a := ((Below.refl _ (w.alloc a)).alloc (Nat.le_refl _) b |>.block _ (by simp)).trans (heap_alloc_new w a)
theorem heap2 (w : World) (a b : Obj) : ((w.alloc a).alloc b).heap[w.heap.size + 1]? = some b := by
  have h := heap_alloc_new (w.alloc a) b
  rwa [show (w.alloc a).heap.size = w.heap.size + 1 from by simp] at h
theorem OwnN.form {w : World} {lo : Nat} {v : Value} {l : List VN} (h : OwnN w lo v l) : ∃ A c, v = .slice A l.length c ∧ l.length ≤ c ∧ c ≤ maxLen ∧ (A = none → c = 0) ∧ RowN w lo w.heap.size A l := by
  have hf := h.1
  rcases h.2 with ⟨hv, hn⟩ | ⟨g, cap, cur, hv, hb, hg, hcap, hm, _⟩
  · exact ⟨none, 0, by rw [hv, hn], by omega, Nat.zero_le _, fun _ => rfl, fun hp => by omega⟩
  · refine ⟨some ⟨g, 0, none⟩, cap, hv, hcap, hm, (fun e => by cases e), fun hp => ⟨g, 0, rfl, hb, (Array.getElem?_eq_some_iff.1 hg).1, fun j hj => ?_⟩⟩
    subst hv
    have hc := World.ownsRow.cells h (g := g) rfl
    obtain ⟨t0, t1, t2, t3⟩ := flatV_at l j hj
    have add : ∀ k, (⟨g, 0, none⟩ : Addr).add k = ⟨g, k, none⟩ := fun k => by unfold Addr.add; split <;> simp_all
    have c0 := hc _ _ t0
    have c1 := hc _ _ t1
    have c2 := hc _ _ t2
    have c3 := hc _ _ t3
    rw [add] at c0 c1 c2 c3
    rw [Nat.zero_add]
    exact ⟨c0, c1, c2, c3⟩
set_option maxRecDepth 100000 in
theorem append_var (w : World) {ops : Array Oper} {rest : List Oper} {o : Oper} {a : Act} {Q : Exit → Act → World → Prop} (hgd : o.guard = none) (s x : Operand)
    (ho : o.op = .call { callee := .builtin .append, args := #[s, x], argTypes := #[23, 23] })
    (base : Nat) (v : Value) (l : List VN) (hs : a.eval s = v) (hown : OwnN w base v l)
    (g c : Nat) (y : VN) (hx : a.eval x = .slice (some ⟨g, 0, none⟩) 1 c) (hr : w.heap[g]? = some (.cells #[.string y.1, .int .i64 y.2.k, .int .i64 y.2.n, .string y.2.s] 67 (0, 0)))
    (hbig : l.length ≤ 1000) (hbase : base ≤ w.heap.size)
    (h : ∀ v' w', OwnN w' base v' (l ++ [y]) → w.grownBy w' v.ownBlock → wpList Tryz.prog ops Q rest (a.put o.dst v') w') : wpList Tryz.prog ops Q (o :: rest) a w := by
  obtain ⟨i, z, hi0, hz0, hzs, hz2, hz3⟩ := infoVar
  refine wpList_append_own w hgd s x _ ho base _ i z 4 48 Tryz.underlying23 hi0 hz0 hz2 hz3 hzs (by omega) v l.length (flatV l) hs hown ⟨g, 0, none⟩ 1 c (flatV [y]) hx (flatV_len [y]) ?_ (flatV_one [y]) (by unfold maxLen; omega) (by omega) hbase ?_
  · intro j u hu
    have hadd : (⟨g, 0, none⟩ : Addr).add j = ⟨g, j, none⟩ := by unfold Addr.add; split <;> simp_all
    rw [hadd, cell_of_row w g j _ _ _ hr]
    simpa [flatV, varCells] using hu
  · intro v' w' h1 h2 _
    refine h v' w' ?_ h2
    unfold OwnN
    rw [List.length_append, flatV_append]
    exact h1

/-- What is still to come of the variables. -/
def restS (has fin : Bool) (l : List VN) (x : VN) : List VN := if fin = true then l else if has = true then putL l x else insL l x
theorem hasL_get (l : List VN) (nm : ByteArray) : (getL l nm).isSome = hasL l nm := by
  induction l with
  | nil => rfl
  | cons y l ih =>
    unfold getL hasL
    by_cases h : y.1 = nm
    · simp [h]
    · simp only [if_neg h, List.any_cons, h, decide_false, Bool.false_or]
      exact ih
theorem restS_all (l : List VN) (x : VN) : restS (hasL l x.1) false l x = setL l x := rfl
theorem restS_fin (has : Bool) (y : VN) (l : List VN) (x : VN) : restS has true (y :: l) x = [y] ++ restS has true l x := rfl
theorem restS_put {y : VN} {l : List VN} {x : VN} (h : y.1 = x.1) : restS true false (y :: l) x = [x] ++ restS true true l x := by
  show putL (y :: l) x = x :: l
  unfold putL
  rw [if_pos h]
theorem restS_go {y : VN} {l : List VN} {x : VN} (h : y.1 ≠ x.1) : restS true false (y :: l) x = [y] ++ restS true false l x := by
  show putL (y :: l) x = y :: putL l x
  rw [putL, if_neg h]
theorem restS_ins {y : VN} {l : List VN} {x : VN} (h : blt x.1.data.toList y.1.data.toList = true) : restS false false (y :: l) x = [x] ++ ([y] ++ restS false true l x) := by
  show insL (y :: l) x = x :: y :: l
  rw [insL, if_pos h]
theorem restS_on {y : VN} {l : List VN} {x : VN} (h : blt x.1.data.toList y.1.data.toList = false) : restS false false (y :: l) x = [y] ++ restS false false l x := by
  show insL (y :: l) x = y :: insL l x
  rw [insL, if_neg (by simp [h])]

set_option maxRecDepth 100000 in
set_option maxHeartbeats 4000000 in
theorem refSet_any (l : List VN) (A : Option Addr) (c : Nat) (x : VN) (w : World) (hl : l.length ≤ 100) (hr : RowN w 0 w.heap.size A l) :
    Calls Tryz.prog 29 #[.slice A l.length c, .agg #[.string x.1, .int .i64 x.2.k, .int .i64 x.2.n, .string x.2.s]] w (RetVars (setL l x) w) := by
  obtain ⟨xn, ⟨xk, xm, xs⟩⟩ := x
  dsimp only
  have hb1 := box_below w #[.string xn, .int .i64 xk, .int .i64 xm, .string xs] 67
  have hx1 := heap_alloc_new w (.cells #[.string xn, .int .i64 xk, .int .i64 xm, .string xs] 67)
  have hl1 : w.heap.size < (w.alloc (.cells #[.string xn, .int .i64 xk, .int .i64 xm, .string xs] 67)).heap.size := by simp
  obtain ⟨w1, hw⟩ : ∃ y, w.alloc (.cells #[.string xn, .int .i64 xk, .int .i64 xm, .string xs] 67) = y := ⟨_, rfl⟩
  rw [hw] at hb1 hx1 hl1
  have hb2 := (Below.refl _ w1).alloc (Nat.le_refl _) (.cells #[] 67)
  have ho2 : OwnN (w1.alloc (.cells #[] 67)) w1.heap.size (.slice (some ⟨w1.heap.size, 0, none⟩) 0 0) [] := World.ownsRow_made w1 #[] 0 (Nat.le_refl _) (Nat.zero_le _) (by simp)
  have hB2 := hb1.trans (hb2.mono hb1.size)
  have hx2 := (hb2.block _ hl1).trans hx1
  have HG := Lib.hid (refGet_any l A c xn (w1.alloc (.cells #[] 67)) (by omega) ((hr.below hB2 (Nat.le_refl _)).wide (Nat.le_refl _) hB2.size))
  obtain ⟨v0, hv0⟩ : ∃ v, getO l xn = v := ⟨_, rfl⟩
  obtain ⟨has, hhas⟩ : ∃ b, hasL l xn = b := ⟨_, rfl⟩
  rw [hv0, hasL_get, hhas] at HG
  obtain ⟨k0, n0, s0⟩ := v0
  simp only [V.val] at HG
  obtain ⟨M, hM⟩ : ∃ M, setL l (xn, ⟨xk, xm, xs⟩) = M := ⟨_, rfl⟩
  rw [hM]
  have hst : M = [] ++ restS has false (l.drop 0) (xn, ⟨xk, xm, xs⟩) := by rw [← hM, ← hhas]; rfl
  have hlen : M.length ≤ l.length + 1 := by rw [← hM]; exact set_len _ _
  have HW := Lib.hid hw
  have HST := Lib.hid hst
  have HLEN := Lib.hid hlen
  have HHAS := Lib.hid (show hasL (l.drop 0) xn = has by rw [List.drop_zero]; exact hhas)
  have HO2 := Lib.hid ho2
  have HB2 := Lib.hid hB2
  have HX2 := Lib.hid hx2
  have z0 : (w1.alloc (.cells #[] 67)).cell? ⟨w.heap.size, 0, none⟩ = some (.string xn) := cell_of_row _ w.heap.size 0 _ _ _ hx2
  have HR := Lib.hid hr
  have HL1 := Lib.hid hl1
  have HB1 := Lib.hid hb1
  obtain ⟨sx, hsx⟩ : ∃ y, w.heap.size = y := ⟨_, rfl⟩
  have HSX := Lib.hid hsx
  rw [hsx] at HX2 HL1 z0
  clear hb1 hx1 hl1 hw hb2 ho2 hB2 hx2 hv0 hhas hM hst hlen hr hsx
  go_enter Tryz.func29, Tryz.ntmps29
  go_upto_region 1 with fail
  rw [HW.out, HSX.out]
  clear HW
  go_wp2_with fail
  refine HG.out.mono ?_
  rintro r w3 ⟨rfl, hb3⟩
  dsimp only
  have hb4 := box_below w3 #[.int .i64 k0, .int .i64 n0, .string s0] 27
  have hbb := hb3.trans (hb4.mono hb3.size)
  have ho4 : OwnN (w3.alloc (.cells #[.int .i64 k0, .int .i64 n0, .string s0] 27)) w1.heap.size (.slice (some ⟨w1.heap.size, 0, none⟩) 0 0) [] := HO2.out.keep (fun g _ hg => hbb.block g hg) (Nat.le_refl _)
  have hb14 : Below w1.heap.size w1 (w3.alloc (.cells #[.int .i64 k0, .int .i64 n0, .string s0] 27)) := ((Below.refl _ w1).alloc (Nat.le_refl _) (.cells #[] 67)).trans (hbb.mono (by simp))
  obtain ⟨w4, hw⟩ : ∃ y, w3.alloc (.cells #[.int .i64 k0, .int .i64 n0, .string s0] 27) = y := ⟨_, rfl⟩
  rw [hw] at ho4 hb14
  have HX1 : Hid (w1.heap[sx]? = some (.cells #[.string xn, .int .i64 xk, .int .i64 xm, .string xs] 67 (0, 0))) := Lib.hid (by rw [← (((Below.refl _ w1).alloc (Nat.le_refl _) (.cells #[] 67)).block _ HL1.out)]; exact HX2.out)
  have HR1 := Lib.hid (HR.out.below HB1.out (Nat.le_refl _))
  have HSZ := Lib.hid HB1.out.size
  have HW4 := Lib.hid hw
  have HO4 := Lib.hid ho4
  have HB4 := Lib.hid hb14
  obtain ⟨lo, hlo⟩ : ∃ y, w1.heap.size = y := ⟨_, rfl⟩
  rw [hlo] at HO4 HB4 HL1 HSZ
  have HLO := Lib.hid hlo
  clear hb3 hb4 hbb ho4 hb14 hw hlo HX2 HB2 HO2 HR HG
  clear z0
  go_upto_region 3 with fail
  rw [HW4.out, HLO.out]
  clear HW4
  go_wp2_with fail
  go_loopg [5, 8, 10, 21] l.length (fun q v d _ i wr => ∃ (j : Nat) (out : List VN) (fin : Bool), j + q = l.length ∧ i = .int .i64 j ∧ d = .bool fin ∧ OwnN wr lo v out ∧ Below lo w1 wr ∧ M = out ++ restS has fin (l.drop j) (xn, ⟨xk, xm, xs⟩) ∧ (fin = false → hasL (l.drop j) xn = has))
  case atStart => exact ⟨0, [], false, by omega, rfl, rfl, HO4.out, HB4.out, HST.out, fun _ => HHAS.out⟩
  case round =>
    obtain ⟨j, out, fin, hk, rfl, rfl, ho, hb, hst, hha⟩ := hrel
    have HK := Lib.hid hk
    have HO := Lib.hid ho
    have HB := Lib.hid hb
    have HS := Lib.hid hst
    have HA := Lib.hid hha
    have holen : out.length ≤ 500 := by
      have h1 := HLEN.out
      rw [hst, List.length_append] at h1
      omega
    have hlow : lo ≤ wr.heap.size := by have := hb.size; have := HLO.out; omega
    have hxb := (hb.block _ HL1.out).trans HX1.out
    have x0 : wr.cell? ⟨sx, 0, none⟩ = some (.string xn) := cell_of_row wr sx 0 _ _ _ hxb
    have x1 : wr.cell? ⟨sx, 1, none⟩ = some (.int .i64 xk) := cell_of_row wr sx 1 _ _ _ hxb
    have x2 : wr.cell? ⟨sx, 2, none⟩ = some (.int .i64 xm) := cell_of_row wr sx 2 _ _ _ hxb
    have x3 : wr.cell? ⟨sx, 3, none⟩ = some (.string xs) := cell_of_row wr sx 3 _ _ _ hxb
    clear ho hb hst hha hk
    by_cases hj : j < l.length
    · have hlt : decide ((j : Int) < (l.length : Int)) = true := by simpa using hj
      have hlt2 : decide (j < l.length) = true := by simpa using hj
      obtain ⟨b, o, rfl, hv⟩ := (HR1.out.below HB.out (by have := HSZ.out; have := HLO.out; omega)).at_ hj
      obtain ⟨c0, c1, c2', c3⟩ := hv
      have HDR := Lib.hid (List.drop_eq_getElem_cons hj)
      generalize l[j] = y at *
      obtain ⟨yn, ⟨yk, ym, ys⟩⟩ := y
      simp only at c0 c1 c2' c3
      have hxc := (((Below.refl _ wr).alloc (Nat.le_refl _) (.cells #[.string yn, .int .i64 yk, .int .i64 ym, .string ys] 67)).block sx (Array.getElem?_eq_some_iff.1 hxb).1).trans hxb
      have X0 : (wr.alloc (.cells #[.string yn, .int .i64 yk, .int .i64 ym, .string ys] 67)).cell? ⟨sx, 0, none⟩ = some (.string xn) := cell_of_row _ sx 0 _ _ _ hxc
      have X1 : (wr.alloc (.cells #[.string yn, .int .i64 yk, .int .i64 ym, .string ys] 67)).cell? ⟨sx, 1, none⟩ = some (.int .i64 xk) := cell_of_row _ sx 1 _ _ _ hxc
      have X2 : (wr.alloc (.cells #[.string yn, .int .i64 yk, .int .i64 ym, .string ys] 67)).cell? ⟨sx, 2, none⟩ = some (.int .i64 xm) := cell_of_row _ sx 2 _ _ _ hxc
      have X3 : (wr.alloc (.cells #[.string yn, .int .i64 yk, .int .i64 ym, .string ys] 67)).cell? ⟨sx, 3, none⟩ = some (.string xs) := cell_of_row _ sx 3 _ _ _ hxc
      clear hxc
      have HLW := Lib.hid hlow
      have HSd := Lib.hid (show M = out ++ restS has fin ((yn, ⟨yk, ym, ys⟩) :: l.drop (j + 1)) (xn, ⟨xk, xm, xs⟩) by rw [HS.out, HDR.out])
      have HAd := Lib.hid (show fin = false → hasL ((yn, ⟨yk, ym, ys⟩) :: l.drop (j + 1)) xn = has from fun h => by rw [← HDR.out]; exact HA.out h)
      clear hxb hlow
      cases fin
      · cases has
        · have hne : yn ≠ xn := fun e => by
            have h := HAd.out rfl
            simp [hasL, e] at h
          have HNE := Lib.hid (show hasL (l.drop (j + 1)) xn = false by
            have h := HAd.out rfl
            simpa [hasL, hne] using h)
          have e1 : (yn.toList == xn.toList) = false := by
            rw [beq_eq_false_iff_ne, ByteArray.toList_eq, ByteArray.toList_eq]
            exact fun e => hne (ByteArray.ext (Array.ext' e))
          have e2 : ∀ q, blt yn.data.toList xn.data.toList = q → Op.bytesLess yn.toList xn.toList = q := fun q hq => by rw [ByteArray.toList_eq, ByteArray.toList_eq]; exact hq
          by_cases hb : blt xn.data.toList yn.data.toList = true
          · have e3 := e2 _ (blt_asymm hb)
            have HS2 := Lib.hid (HSd.out.trans (by rw [restS_ins (y := (yn, ⟨yk, ym, ys⟩)) (x := (xn, ⟨xk, xm, xs⟩)) hb]))
            clear hb e2 hne
            go_wp2_with (first
              | (at_builtin; refine append_var _ rfl _ _ rfl lo _ out rfl ((HO.out.allocs _).allocs _) (wr.heap.size + 1) 1 (xn, ⟨xk, xm, xs⟩) rfl (heap2 wr _ _) (by omega) (by have := HLW.out; simp; omega) ?_; intro v1 w5 ho5 hg5; have HB5 := Lib.hid (((HB.out.alloc HLW.out (.cells #[.string yn, .int .i64 yk, .int .i64 ym, .string ys] 67)).alloc (by have := HLW.out; simp; omega) (.cells #[.string xn, .int .i64 xk, .int .i64 xm, .string xs] 67)).grown hg5 (by have := HLW.out; simp; omega) (fun k hk => (HO.out.lt k hk).1)); have HYb := hg5.block wr.heap.size (by simp; omega) (fun e => by have := (HO.out.lt _ e.symm).2; omega); have HYh : Hid (w5.heap[wr.heap.size]? = some (.cells #[.string yn, .int .i64 yk, .int .i64 ym, .string ys] 67 (0, 0))) := Lib.hid (HYb.trans (heap1 wr _ _)); have y0 : w5.cell? ⟨wr.heap.size, 0, none⟩ = some (.string yn) := cell_of_row w5 _ 0 _ _ _ HYh.out; have y1 : w5.cell? ⟨wr.heap.size, 1, none⟩ = some (.int .i64 yk) := cell_of_row w5 _ 1 _ _ _ HYh.out; have y2 : w5.cell? ⟨wr.heap.size, 2, none⟩ = some (.int .i64 ym) := cell_of_row w5 _ 2 _ _ _ HYh.out; have y3 : w5.cell? ⟨wr.heap.size, 3, none⟩ = some (.string ys) := cell_of_row w5 _ 3 _ _ _ HYh.out; have HL5 := Lib.hid (show lo ≤ w5.heap.size from Nat.le_trans HLW.out (Nat.le_trans (by simp; omega) hg5.size)); have HO5 := Lib.hid ho5; clear ho5 hg5 HYb)
              | (at_builtin; refine append_var _ rfl _ _ rfl lo _ (out ++ [(xn, ⟨xk, xm, xs⟩)]) rfl (HO5.out.allocs _) w5.heap.size 1 (yn, ⟨yk, ym, ys⟩) rfl (heap_alloc_new w5 _) (by simp; omega) (by have := HL5.out; simp; omega) ?_; intro v2 w6 ho6 hg6; have HB6 := Lib.hid ((HB5.out.alloc HL5.out (.cells #[.string yn, .int .i64 yk, .int .i64 ym, .string ys] 67)).grown hg6 (by have := HL5.out; simp; omega) (fun k hk => (HO5.out.lt k hk).1)); have HO6 := Lib.hid ho6; clear ho6 hg6))
            go_roundg (gk - 1)
            case measure => have := HK.out; omega
            case rel => exact ⟨j + 1, out ++ [(xn, ⟨xk, xm, xs⟩)] ++ [(yn, ⟨yk, ym, ys⟩)], true, by have := HK.out; omega, by go_num, rfl, HO6.out, HB6.out, by rw [HS2.out]; simp [List.append_assoc], fun h => by cases h⟩
          · have hb : blt xn.data.toList yn.data.toList = false := by simpa using hb
            have hlt9 : blt yn.data.toList xn.data.toList = true := by
              rcases blt_tri yn.data.toList xn.data.toList with h | h | h
              · exact h
              · exact absurd (ByteArray.ext (Array.ext' h)) hne
              · rw [hb] at h; cases h
            have e3 := e2 _ hlt9
            have HS2 := Lib.hid (HSd.out.trans (by rw [restS_on (y := (yn, ⟨yk, ym, ys⟩)) (x := (xn, ⟨xk, xm, xs⟩)) hb]))
            clear hb e2 hne hlt9
            go_wp2_with (at_builtin; refine append_var _ rfl _ _ rfl lo _ out rfl ((HO.out.allocs _).allocs _) (wr.heap.size + 1) 1 ((yn, ⟨yk, ym, ys⟩)) rfl (heap2 wr _ _) (by omega) (by have := HLW.out; simp; omega) ?_; intro v1 w5 ho5 hg5; have HB5 := Lib.hid (((HB.out.alloc HLW.out (.cells #[.string yn, .int .i64 yk, .int .i64 ym, .string ys] 67)).alloc (by have := HLW.out; simp; omega) (.cells #[.string yn, .int .i64 yk, .int .i64 ym, .string ys] 67)).grown hg5 (by have := HLW.out; simp; omega) (fun k hk => (HO.out.lt k hk).1)); have HO5 := Lib.hid ho5; clear ho5 hg5)
            go_roundg (gk - 1)
            case measure => have := HK.out; omega
            case rel => exact ⟨j + 1, out ++ [(yn, ⟨yk, ym, ys⟩)], false, by have := HK.out; omega, by go_num, rfl, HO5.out, HB5.out, by rw [HS2.out]; simp [List.append_assoc], fun _ => HNE.out⟩
        · by_cases he : yn = xn
          · subst he
            have HS2 := Lib.hid (HSd.out.trans (by rw [restS_put (y := (yn, ⟨yk, ym, ys⟩)) (x := (yn, ⟨xk, xm, xs⟩)) rfl]))
            go_wp2_with (at_builtin; refine append_var _ rfl _ _ rfl lo _ out rfl ((HO.out.allocs _).allocs _) (wr.heap.size + 1) 1 ((yn, ⟨xk, xm, xs⟩)) rfl (heap2 wr _ _) (by omega) (by have := HLW.out; simp; omega) ?_; intro v1 w5 ho5 hg5; have HB5 := Lib.hid (((HB.out.alloc HLW.out (.cells #[.string yn, .int .i64 xk, .int .i64 xm, .string xs] 67)).alloc (by have := HLW.out; simp; omega) (.cells #[.string yn, .int .i64 xk, .int .i64 xm, .string xs] 67)).grown hg5 (by have := HLW.out; simp; omega) (fun k hk => (HO.out.lt k hk).1)); have HO5 := Lib.hid ho5; clear ho5 hg5)
            go_roundg (gk - 1)
            case measure => have := HK.out; omega
            case rel => exact ⟨j + 1, out ++ [(yn, ⟨xk, xm, xs⟩)], true, by have := HK.out; omega, by go_num, rfl, HO5.out, HB5.out, by rw [HS2.out]; simp [List.append_assoc], fun h => by cases h⟩
          · have HNE := Lib.hid (show hasL (l.drop (j + 1)) xn = true by
              have h := HAd.out rfl
              simpa [hasL, he] using h)
            have e1 : (yn.toList == xn.toList) = false := by
              rw [beq_eq_false_iff_ne, ByteArray.toList_eq, ByteArray.toList_eq]
              exact fun e => he (ByteArray.ext (Array.ext' e))
            have HS2 := Lib.hid (HSd.out.trans (by rw [restS_go (y := (yn, ⟨yk, ym, ys⟩)) (x := (xn, ⟨xk, xm, xs⟩)) he]))
            clear he
            go_wp2_with (at_builtin; refine append_var _ rfl _ _ rfl lo _ out rfl ((HO.out.allocs _).allocs _) (wr.heap.size + 1) 1 ((yn, ⟨yk, ym, ys⟩)) rfl (heap2 wr _ _) (by omega) (by have := HLW.out; simp; omega) ?_; intro v1 w5 ho5 hg5; have HB5 := Lib.hid (((HB.out.alloc HLW.out (.cells #[.string yn, .int .i64 yk, .int .i64 ym, .string ys] 67)).alloc (by have := HLW.out; simp; omega) (.cells #[.string yn, .int .i64 yk, .int .i64 ym, .string ys] 67)).grown hg5 (by have := HLW.out; simp; omega) (fun k hk => (HO.out.lt k hk).1)); have HO5 := Lib.hid ho5; clear ho5 hg5)
            go_roundg (gk - 1)
            case measure => have := HK.out; omega
            case rel => exact ⟨j + 1, out ++ [(yn, ⟨yk, ym, ys⟩)], false, by have := HK.out; omega, by go_num, rfl, HO5.out, HB5.out, by rw [HS2.out]; simp [List.append_assoc], fun _ => HNE.out⟩
      · have HS2 := Lib.hid (HSd.out.trans (by rw [restS_fin has (yn, ⟨yk, ym, ys⟩) (l.drop (j + 1)) (xn, ⟨xk, xm, xs⟩)]))
        go_wp2_with (at_builtin; refine append_var _ rfl _ _ rfl lo _ out rfl ((HO.out.allocs _).allocs _) (wr.heap.size + 1) 1 ((yn, ⟨yk, ym, ys⟩)) rfl (heap2 wr _ _) (by omega) (by have := HLW.out; simp; omega) ?_; intro v1 w5 ho5 hg5; have HB5 := Lib.hid (((HB.out.alloc HLW.out (.cells #[.string yn, .int .i64 yk, .int .i64 ym, .string ys] 67)).alloc (by have := HLW.out; simp; omega) (.cells #[.string yn, .int .i64 yk, .int .i64 ym, .string ys] 67)).grown hg5 (by have := HLW.out; simp; omega) (fun k hk => (HO.out.lt k hk).1)); have HO5 := Lib.hid ho5; clear ho5 hg5)
        go_roundg (gk - 1)
        case measure => have := HK.out; omega
        case rel => exact ⟨j + 1, out ++ [(yn, ⟨yk, ym, ys⟩)], true, by have := HK.out; omega, by go_num, rfl, HO5.out, HB5.out, by rw [HS2.out]; simp [List.append_assoc], fun h => by cases h⟩
    · have hj' : j = l.length := by have := HK.out; omega
      have hlt : decide ((j : Int) < (l.length : Int)) = false := by simpa using hj
      have HLW := Lib.hid hlow
      have hdr : l.drop j = [] := by rw [hj', List.drop_length]
      have HSd := Lib.hid (show M = out ++ restS has fin [] (xn, ⟨xk, xm, xs⟩) by rw [HS.out, hdr])
      have HAd := Lib.hid (show fin = false → false = has from fun h => by have := HA.out h; rw [hdr] at this; exact this)
      clear hxb hlow hj' hdr
      cases fin
      · obtain rfl := HAd.out rfl
        have HS2 := Lib.hid (show M = out ++ [(xn, ⟨xk, xm, xs⟩)] from HSd.out)
        go_wp2_with (at_builtin; refine append_var _ rfl _ _ rfl lo _ out rfl (HO.out.allocs _) wr.heap.size 1 (xn, ⟨xk, xm, xs⟩) rfl (heap_alloc_new wr _) (by omega) (by have := HLW.out; simp; omega) ?_; intro v1 w5 ho5 hg5; have HB5 := Lib.hid ((HB.out.alloc HLW.out (.cells #[.string xn, .int .i64 xk, .int .i64 xm, .string xs] 67)).grown hg5 (by have := HLW.out; simp; omega) (fun k hk => (HO.out.lt k hk).1)); have HO5 := Lib.hid ho5; clear ho5 hg5)
        go_ret
        obtain ⟨A9, c9, rfl, h1, h2, h3, h4⟩ := HO5.out.form
        rw [← HS2.out] at h1 h4 ⊢
        exact ⟨A9, c9, rfl, h1, h2, h3, h4.wide (Nat.zero_le _) (Nat.le_refl _), HB1.out.trans (HB5.out.mono HSZ.out)⟩
      · have HS2 := Lib.hid (show M = out by rw [HSd.out]; exact List.append_nil _)
        go_wp2
        go_ret
        obtain ⟨A9, c9, rfl, h1, h2, h3, h4⟩ := HO.out.form
        rw [← HS2.out] at h1 h4 ⊢
        exact ⟨A9, c9, rfl, h1, h2, h3, h4.wide (Nat.zero_le _) (Nat.le_refl _), HB1.out.trans (HB.out.mono HSZ.out)⟩
end Go.Proofs.YtidomoibhjgkjaaGreatDoor
