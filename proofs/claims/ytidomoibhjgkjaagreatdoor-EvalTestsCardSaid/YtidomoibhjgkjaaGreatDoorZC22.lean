import Derived.Test.YtidomoibhjgkjaaGreatDoorZC19
import Derived.Test.YtidomoibhjgkjaaGreatDoorZC18
import Derived.Test.YtidomoibhjgkjaaGreatDoorZC21
import Derived.Deep.RegionHeld3
import Derived.Deep.RegionLaw
/-
  Package eval: One.
-/
namespace Go.Proofs.YtidomoibhjgkjaaGreatDoor
open Go.RowKit

theorem b_d (n : Int) : (n == 0) = decide (n = 0) := by by_cases h : n = 0 <;> simp [h]

/-! ### a value and a place for the answer, boxed one behind the other -/
def duo (w : World) (a : V) : World := (w.alloc (.cells #[.int .i64 a.k, .int .i64 a.n, .string a.s] 27)).alloc (.cells #[.int .i64 0, .int .i64 0, .string ⟨#[]⟩] 27)
theorem duo_def (w : World) (ak an : Int) (sa : ByteArray) : (w.alloc (.cells #[.int .i64 ak, .int .i64 an, .string sa] 27)).alloc (.cells #[.int .i64 0, .int .i64 0, .string ⟨#[]⟩] 27) = duo w ⟨ak, an, sa⟩ := rfl
structure Duo (w w' : World) (g : Nat) (a : V) : Prop where
  a : Boxed w' g a
  r : Boxed w' (g + 1) V0
  hb : Below w.heap.size w w'
  hg : w.heap.size ≤ g
theorem Duo.new (w : World) (a : V) : Duo w (duo w a) w.heap.size a := by
  have h1 := Boxed.new w a.k a.n a.s
  have h2 := Boxed.new (w.alloc (.cells #[.int .i64 a.k, .int .i64 a.n, .string a.s] 27)) 0 0 ⟨#[]⟩
  have b2 := box_below (w.alloc (.cells #[.int .i64 a.k, .int .i64 a.n, .string a.s] 27)) #[.int .i64 0, .int .i64 0, .string ⟨#[]⟩] 27
  have e1 : (w.alloc (.cells #[.int .i64 a.k, .int .i64 a.n, .string a.s] 27)).heap.size = w.heap.size + 1 := by simp
  rw [e1] at h2
  exact ⟨h1.below b2, h2, ((Below.refl _ w).alloc (Nat.le_refl _) _).alloc (by simp) _, Nat.le_refl _⟩
theorem Duo.below {w w1 w2 : World} {g : Nat} {a : V} (h : Duo w w1 g a) (hb : Below w1.heap.size w1 w2) : Duo w w2 g a := ⟨h.a.below hb, h.r.below hb, h.hb.trans (hb.mono h.hb.size), h.hg⟩
theorem Duo.alloc {w w1 : World} {g : Nat} {a : V} (h : Duo w w1 g a) (o : Obj) : Duo w (w1.alloc o) g a := h.below ((Below.refl _ w1).alloc (Nat.le_refl _) o)
theorem Duo.put3 {w w1 : World} {g : Nat} {a : V} (h : Duo w w1 g a) (x y z : Value) : Below w.heap.size w (((w1.setCell ⟨g + 1, 0, none⟩ x).setCell ⟨g + 1, 1, none⟩ y).setCell ⟨g + 1, 2, none⟩ z) :=
  Below.set3' h.hb (by have := h.hg; omega) _ _ _

set_option maxRecDepth 100000 in
set_option maxHeartbeats 4000000 in
theorem gOne3_any (a : V) (w : World) (ha : okV a) : Calls Tryz.prog 119 #[.int .i64 3, a.val] w (RetG (oneV 3 a) w) := by
  obtain ⟨ak, an, sa⟩ := a
  have HQ := Lib.hid (fun g c W => gAre_one 1 ⟨ak, an, sa⟩ g c W)
  have HT := Lib.hid (fun W => gIsTrue_any ⟨ak, an, sa⟩ W)
  have HA := Lib.hid ha
  obtain ⟨X, hX⟩ : ∃ X, oneV 3 ⟨ak, an, sa⟩ = X := ⟨_, rfl⟩
  rw [hX]
  unfold oneV at hX
  rw [if_neg (by decide), show kindG 3 = 1 from rfl] at hX
  simp only [V.val] at HQ HT hX ⊢
  obtain ⟨q, hq⟩ : ∃ q, (ak == 1) = q := ⟨_, rfl⟩
  rw [hq] at HQ
  have HX0 := Lib.hid hX.symm
  have HK := Lib.hid hq
  clear hX hq ha
  have H3 := Lib.hid (Duo.new w ⟨ak, an, sa⟩)
  go_enter Tryz.func119, Tryz.ntmps119
  go_upto_region 1 with fail
  simp only [duo_def]
  obtain ⟨g, hg⟩ : ∃ g, w.heap.size = g := ⟨_, rfl⟩
  rw [hg] at H3
  obtain ⟨w3, hw3⟩ : ∃ y, duo w ⟨ak, an, sa⟩ = y := ⟨_, rfl⟩
  rw [hw3] at H3 ⊢
  simp only [hg]
  clear hw3 hg
  obtain ⟨a0, a1, a2⟩ := H3.out.a.cells
  simp only at a0 a1 a2
  obtain ⟨r0, r1, r2⟩ := H3.out.r.cells
  have f0 := H3.out.r.frozen 0
  have f1 := H3.out.r.frozen 1
  have f2 := H3.out.r.frozen 2
  go_wp2_with fail
  refine (HQ.out _ _ _ (by simp) (by simp) (by simp)).mono ?_
  rintro r w4 ⟨rfl, hb4⟩
  have H4 := Lib.hid ((H3.out.alloc _).below hb4)
  clear hb4 a0 a1 a2 r0 r1 r2 f0 f1 f2 H3
  have H3 := H4
  clear H4
  obtain ⟨a0, a1, a2⟩ := H3.out.a.cells
  simp only at a0 a1 a2
  obtain ⟨r0, r1, r2⟩ := H3.out.r.cells
  have f0 := H3.out.r.frozen 0
  have f1 := H3.out.r.frozen 1
  have f2 := H3.out.r.frozen 2
  cases q
  · have HX := Lib.hid (HX0.out.trans (if_pos (by have := HK.out; rw [beq_eq_false_iff_ne] at this; exact this)))
    obtain ⟨t0, t1, t2⟩ := (H3.out.r.set3' (0) (0) (⟨#[]⟩)).cells
    have HP := Lib.hid (H3.out.put3 (.int .i64 (0)) (.int .i64 (0)) (.string (⟨#[]⟩)))
    go_wp2
    refine bodyPost_ret (v := .tuple #[.agg #[.int .i64 (0), .int .i64 (0), .string (⟨#[]⟩)], .int .i64 40]) (by simp [results, Tryz.results119, go_sem, t0, t1, t2]) rfl ⟨?_, HP.out⟩
    rw [HX.out]
    rfl
  · have hk : ak = 1 := by have := HK.out; rwa [beq_iff_eq] at this
    have HX1 := Lib.hid (HX0.out.trans (if_neg (by rw [hk]; decide)))
    clear hk
    have HF := Lib.hid (fun W => gMinus_any 0 an (by unfold inI; decide) HA.out.1 W)
    have HZ := Lib.hid (fit_val (0 - an))
    have HN0 : Hid (fitV (0 - an) = if an = -9223372036854775808 then (V0, 9) else (numG (-an), 0)) := Lib.hid (by
      obtain ⟨b0, b1⟩ := HA.out.1
      simp only at b0 b1
      by_cases h : an = -9223372036854775808
      · rw [if_pos h, fitV_out (by unfold inI; omega)]
      · rw [if_neg h, fitV_in (by unfold inI; omega), Int.zero_sub])
    obtain ⟨z, hz⟩ : ∃ z, IntKind.i64.wrap (0 - an) = z := ⟨_, rfl⟩
    obtain ⟨F, hF⟩ : ∃ F, fitB (0 - an) = F := ⟨_, rfl⟩
    rw [hz, hF] at HF HZ
    have HX := Lib.hid (((HX1.out.trans (if_neg (by decide))).trans (if_neg (by decide))).trans (HN0.out.symm.trans HZ.out.symm))
    have HM := Lib.hid (fun W => gNumber_any z F W)
    clear hz hF HX1 HN0 HZ
    cases F
    · simp only [Bool.false_eq_true, if_false, V.val, V0] at HM
      go_wp2_with fail
      refine (HF.out _).mono ?_
      rintro r w5 ⟨rfl, rfl⟩
      go_wp2_with fail
      refine (HM.out _).mono ?_
      rintro r w6 ⟨rfl, hb6⟩
      have H4 := Lib.hid (H3.out.below hb6)
      clear hb6 a0 a1 a2 r0 r1 r2 f0 f1 f2 H3
      have H3 := H4
      clear H4
      obtain ⟨a0, a1, a2⟩ := H3.out.a.cells
      simp only at a0 a1 a2
      obtain ⟨r0, r1, r2⟩ := H3.out.r.cells
      have f0 := H3.out.r.frozen 0
      have f1 := H3.out.r.frozen 1
      have f2 := H3.out.r.frozen 2
      obtain ⟨t0, t1, t2⟩ := (H3.out.r.set3' (0) (0) (⟨#[]⟩)).cells
      have HP := Lib.hid (H3.out.put3 (.int .i64 (0)) (.int .i64 (0)) (.string (⟨#[]⟩)))
      go_wp2
      refine bodyPost_ret (v := .tuple #[.agg #[.int .i64 (0), .int .i64 (0), .string (⟨#[]⟩)], .int .i64 9]) (by simp [results, Tryz.results119, go_sem, t0, t1, t2]) rfl ⟨?_, HP.out⟩
      rw [HX.out]
      rfl
    · simp only [if_true, V.val, numG, mtS] at HM
      go_wp2_with fail
      refine (HF.out _).mono ?_
      rintro r w5 ⟨rfl, rfl⟩
      go_wp2_with fail
      refine (HM.out _).mono ?_
      rintro r w6 ⟨rfl, hb6⟩
      have H4 := Lib.hid (H3.out.below hb6)
      clear hb6 a0 a1 a2 r0 r1 r2 f0 f1 f2 H3
      have H3 := H4
      clear H4
      obtain ⟨a0, a1, a2⟩ := H3.out.a.cells
      simp only at a0 a1 a2
      obtain ⟨r0, r1, r2⟩ := H3.out.r.cells
      have f0 := H3.out.r.frozen 0
      have f1 := H3.out.r.frozen 1
      have f2 := H3.out.r.frozen 2
      obtain ⟨t0, t1, t2⟩ := (H3.out.r.set3' (1) (z) (⟨#[]⟩)).cells
      have HP := Lib.hid (H3.out.put3 (.int .i64 (1)) (.int .i64 (z)) (.string (⟨#[]⟩)))
      go_wp2
      refine bodyPost_ret (v := .tuple #[.agg #[.int .i64 (1), .int .i64 (z), .string (⟨#[]⟩)], .int .i64 0]) (by simp [results, Tryz.results119, go_sem, t0, t1, t2]) rfl ⟨?_, HP.out⟩
      rw [HX.out]
      rfl
set_option maxRecDepth 100000 in
set_option maxHeartbeats 4000000 in
theorem gOne4_any (a : V) (w : World) (ha : okV a) : Calls Tryz.prog 119 #[.int .i64 4, a.val] w (RetG (oneV 4 a) w) := by
  obtain ⟨ak, an, sa⟩ := a
  have HQ := Lib.hid (fun g c W => gAre_one 2 ⟨ak, an, sa⟩ g c W)
  have HT := Lib.hid (fun W => gIsTrue_any ⟨ak, an, sa⟩ W)
  have HA := Lib.hid ha
  obtain ⟨X, hX⟩ : ∃ X, oneV 4 ⟨ak, an, sa⟩ = X := ⟨_, rfl⟩
  rw [hX]
  unfold oneV at hX
  rw [if_neg (by decide), show kindG 4 = 2 from rfl] at hX
  simp only [V.val] at HQ HT hX ⊢
  obtain ⟨q, hq⟩ : ∃ q, (ak == 2) = q := ⟨_, rfl⟩
  rw [hq] at HQ
  have HX0 := Lib.hid hX.symm
  have HK := Lib.hid hq
  clear hX hq ha
  have H3 := Lib.hid (Duo.new w ⟨ak, an, sa⟩)
  go_enter Tryz.func119, Tryz.ntmps119
  go_upto_region 1 with fail
  simp only [duo_def]
  obtain ⟨g, hg⟩ : ∃ g, w.heap.size = g := ⟨_, rfl⟩
  rw [hg] at H3
  obtain ⟨w3, hw3⟩ : ∃ y, duo w ⟨ak, an, sa⟩ = y := ⟨_, rfl⟩
  rw [hw3] at H3 ⊢
  simp only [hg]
  clear hw3 hg
  obtain ⟨a0, a1, a2⟩ := H3.out.a.cells
  simp only at a0 a1 a2
  obtain ⟨r0, r1, r2⟩ := H3.out.r.cells
  have f0 := H3.out.r.frozen 0
  have f1 := H3.out.r.frozen 1
  have f2 := H3.out.r.frozen 2
  go_wp2_with fail
  refine (HQ.out _ _ _ (by simp) (by simp) (by simp)).mono ?_
  rintro r w4 ⟨rfl, hb4⟩
  have H4 := Lib.hid ((H3.out.alloc _).below hb4)
  clear hb4 a0 a1 a2 r0 r1 r2 f0 f1 f2 H3
  have H3 := H4
  clear H4
  obtain ⟨a0, a1, a2⟩ := H3.out.a.cells
  simp only at a0 a1 a2
  obtain ⟨r0, r1, r2⟩ := H3.out.r.cells
  have f0 := H3.out.r.frozen 0
  have f1 := H3.out.r.frozen 1
  have f2 := H3.out.r.frozen 2
  cases q
  · have HX := Lib.hid (HX0.out.trans (if_pos (by have := HK.out; rw [beq_eq_false_iff_ne] at this; exact this)))
    obtain ⟨t0, t1, t2⟩ := (H3.out.r.set3' (0) (0) (⟨#[]⟩)).cells
    have HP := Lib.hid (H3.out.put3 (.int .i64 (0)) (.int .i64 (0)) (.string (⟨#[]⟩)))
    go_wp2
    refine bodyPost_ret (v := .tuple #[.agg #[.int .i64 (0), .int .i64 (0), .string (⟨#[]⟩)], .int .i64 40]) (by simp [results, Tryz.results119, go_sem, t0, t1, t2]) rfl ⟨?_, HP.out⟩
    rw [HX.out]
    rfl
  · have hk : ak = 2 := by have := HK.out; rwa [beq_iff_eq] at this
    have HX1 := Lib.hid (HX0.out.trans (if_neg (by rw [hk]; decide)))
    clear hk
    have HX2 := Lib.hid (HX1.out.trans (if_pos (by trivial)))
    obtain ⟨e, he⟩ : ∃ e, (an == 0) = e := ⟨_, rfl⟩
    rw [he] at HT
    have HX3 : Hid (X = (truthV e, 0)) := Lib.hid (by rw [HX2.out, ← he, b_d])
    clear HX1 HX2 he
    cases e
    · have HX := HX3
      have HV := Lib.hid (fun W => vBool_any false W)
      simp only [Bool.false_eq_true, if_false] at HV
      go_wp2_with fail
      refine (HT.out _).mono ?_
      rintro r w5 ⟨rfl, hb5⟩
      have H4 := Lib.hid (H3.out.below hb5)
      clear hb5 a0 a1 a2 r0 r1 r2 f0 f1 f2 H3
      have H3 := H4
      clear H4
      obtain ⟨a0, a1, a2⟩ := H3.out.a.cells
      simp only at a0 a1 a2
      obtain ⟨r0, r1, r2⟩ := H3.out.r.cells
      have f0 := H3.out.r.frozen 0
      have f1 := H3.out.r.frozen 1
      have f2 := H3.out.r.frozen 2
      go_wp2_with fail
      refine (HV.out _).mono ?_
      rintro r w6 ⟨rfl, hb6⟩
      have H4 := Lib.hid (H3.out.below hb6)
      clear hb6 a0 a1 a2 r0 r1 r2 f0 f1 f2 H3
      have H3 := H4
      clear H4
      obtain ⟨a0, a1, a2⟩ := H3.out.a.cells
      simp only at a0 a1 a2
      obtain ⟨r0, r1, r2⟩ := H3.out.r.cells
      have f0 := H3.out.r.frozen 0
      have f1 := H3.out.r.frozen 1
      have f2 := H3.out.r.frozen 2
      obtain ⟨t0, t1, t2⟩ := (H3.out.r.set3' (2) (0) (⟨#[]⟩)).cells
      have HP := Lib.hid (H3.out.put3 (.int .i64 (2)) (.int .i64 (0)) (.string (⟨#[]⟩)))
      go_wp2
      refine bodyPost_ret (v := .tuple #[.agg #[.int .i64 (2), .int .i64 (0), .string (⟨#[]⟩)], .int .i64 0]) (by simp [results, Tryz.results119, go_sem, t0, t1, t2]) rfl ⟨?_, HP.out⟩
      rw [HX.out]
      rfl
    · have HX := HX3
      have HV := Lib.hid (fun W => vBool_any true W)
      simp only [if_true] at HV
      go_wp2_with fail
      refine (HT.out _).mono ?_
      rintro r w5 ⟨rfl, hb5⟩
      have H4 := Lib.hid (H3.out.below hb5)
      clear hb5 a0 a1 a2 r0 r1 r2 f0 f1 f2 H3
      have H3 := H4
      clear H4
      obtain ⟨a0, a1, a2⟩ := H3.out.a.cells
      simp only at a0 a1 a2
      obtain ⟨r0, r1, r2⟩ := H3.out.r.cells
      have f0 := H3.out.r.frozen 0
      have f1 := H3.out.r.frozen 1
      have f2 := H3.out.r.frozen 2
      go_wp2_with fail
      refine (HV.out _).mono ?_
      rintro r w6 ⟨rfl, hb6⟩
      have H4 := Lib.hid (H3.out.below hb6)
      clear hb6 a0 a1 a2 r0 r1 r2 f0 f1 f2 H3
      have H3 := H4
      clear H4
      obtain ⟨a0, a1, a2⟩ := H3.out.a.cells
      simp only at a0 a1 a2
      obtain ⟨r0, r1, r2⟩ := H3.out.r.cells
      have f0 := H3.out.r.frozen 0
      have f1 := H3.out.r.frozen 1
      have f2 := H3.out.r.frozen 2
      obtain ⟨t0, t1, t2⟩ := (H3.out.r.set3' (2) (1) (⟨#[]⟩)).cells
      have HP := Lib.hid (H3.out.put3 (.int .i64 (2)) (.int .i64 (1)) (.string (⟨#[]⟩)))
      go_wp2
      refine bodyPost_ret (v := .tuple #[.agg #[.int .i64 (2), .int .i64 (1), .string (⟨#[]⟩)], .int .i64 0]) (by simp [results, Tryz.results119, go_sem, t0, t1, t2]) rfl ⟨?_, HP.out⟩
      rw [HX.out]
      rfl
set_option maxRecDepth 100000 in
set_option maxHeartbeats 4000000 in
theorem gOne5_any (a : V) (w : World) (ha : okV a) : Calls Tryz.prog 119 #[.int .i64 5, a.val] w (RetG (oneV 5 a) w) := by
  obtain ⟨ak, an, sa⟩ := a
  have HQ := Lib.hid (fun g c W => gAre_one 3 ⟨ak, an, sa⟩ g c W)
  have HT := Lib.hid (fun W => gIsTrue_any ⟨ak, an, sa⟩ W)
  have HA := Lib.hid ha
  obtain ⟨X, hX⟩ : ∃ X, oneV 5 ⟨ak, an, sa⟩ = X := ⟨_, rfl⟩
  rw [hX]
  unfold oneV at hX
  rw [if_neg (by decide), show kindG 5 = 3 from rfl] at hX
  simp only [V.val] at HQ HT hX ⊢
  obtain ⟨q, hq⟩ : ∃ q, (ak == 3) = q := ⟨_, rfl⟩
  rw [hq] at HQ
  have HX0 := Lib.hid hX.symm
  have HK := Lib.hid hq
  clear hX hq ha
  have H3 := Lib.hid (Duo.new w ⟨ak, an, sa⟩)
  go_enter Tryz.func119, Tryz.ntmps119
  go_upto_region 1 with fail
  simp only [duo_def]
  obtain ⟨g, hg⟩ : ∃ g, w.heap.size = g := ⟨_, rfl⟩
  rw [hg] at H3
  obtain ⟨w3, hw3⟩ : ∃ y, duo w ⟨ak, an, sa⟩ = y := ⟨_, rfl⟩
  rw [hw3] at H3 ⊢
  simp only [hg]
  clear hw3 hg
  obtain ⟨a0, a1, a2⟩ := H3.out.a.cells
  simp only at a0 a1 a2
  obtain ⟨r0, r1, r2⟩ := H3.out.r.cells
  have f0 := H3.out.r.frozen 0
  have f1 := H3.out.r.frozen 1
  have f2 := H3.out.r.frozen 2
  go_wp2_with fail
  refine (HQ.out _ _ _ (by simp) (by simp) (by simp)).mono ?_
  rintro r w4 ⟨rfl, hb4⟩
  have H4 := Lib.hid ((H3.out.alloc _).below hb4)
  clear hb4 a0 a1 a2 r0 r1 r2 f0 f1 f2 H3
  have H3 := H4
  clear H4
  obtain ⟨a0, a1, a2⟩ := H3.out.a.cells
  simp only at a0 a1 a2
  obtain ⟨r0, r1, r2⟩ := H3.out.r.cells
  have f0 := H3.out.r.frozen 0
  have f1 := H3.out.r.frozen 1
  have f2 := H3.out.r.frozen 2
  cases q
  · have HX := Lib.hid (HX0.out.trans (if_pos (by have := HK.out; rw [beq_eq_false_iff_ne] at this; exact this)))
    obtain ⟨t0, t1, t2⟩ := (H3.out.r.set3' (0) (0) (⟨#[]⟩)).cells
    have HP := Lib.hid (H3.out.put3 (.int .i64 (0)) (.int .i64 (0)) (.string (⟨#[]⟩)))
    go_wp2
    refine bodyPost_ret (v := .tuple #[.agg #[.int .i64 (0), .int .i64 (0), .string (⟨#[]⟩)], .int .i64 40]) (by simp [results, Tryz.results119, go_sem, t0, t1, t2]) rfl ⟨?_, HP.out⟩
    rw [HX.out]
    rfl
  · have hk : ak = 3 := by have := HK.out; rwa [beq_iff_eq] at this
    have HX1 := Lib.hid (HX0.out.trans (if_neg (by rw [hk]; decide)))
    clear hk
    have HX := Lib.hid ((HX1.out.trans (if_neg (by decide))).trans (if_pos (by trivial)))
    have hz : IntKind.i64.wrap (sa.size : Int) = (sa.size : Int) := wrap_in (by have := HA.out.2; simp only at this; unfold inI; omega)
    have HV := Lib.hid (fun W => vInt_all (sa.size : Int) W)
    go_wp2_with fail
    refine (HV.out _).mono ?_
    rintro r w5 ⟨rfl, hb5⟩
    have H4 := Lib.hid (H3.out.below hb5)
    clear hb5 a0 a1 a2 r0 r1 r2 f0 f1 f2 H3
    have H3 := H4
    clear H4
    obtain ⟨a0, a1, a2⟩ := H3.out.a.cells
    simp only at a0 a1 a2
    obtain ⟨r0, r1, r2⟩ := H3.out.r.cells
    have f0 := H3.out.r.frozen 0
    have f1 := H3.out.r.frozen 1
    have f2 := H3.out.r.frozen 2
    obtain ⟨t0, t1, t2⟩ := (H3.out.r.set3' (1) ((sa.size : Int)) (⟨#[]⟩)).cells
    have HP := Lib.hid (H3.out.put3 (.int .i64 (1)) (.int .i64 ((sa.size : Int))) (.string (⟨#[]⟩)))
    go_wp2
    refine bodyPost_ret (v := .tuple #[.agg #[.int .i64 (1), .int .i64 ((sa.size : Int)), .string (⟨#[]⟩)], .int .i64 0]) (by simp [results, Tryz.results119, go_sem, t0, t1, t2]) rfl ⟨?_, HP.out⟩
    rw [HX.out]
    rfl
set_option maxRecDepth 100000 in
set_option maxHeartbeats 4000000 in
theorem gOneX_any (op : Int) (hop : op ≠ 3 ∧ op ≠ 4 ∧ op ≠ 5) (a : V) (w : World) : Calls Tryz.prog 119 #[.int .i64 op, a.val] w (RetG (oneV op a) w) := by
  have hX : oneV op a = (V0, 1) := by
    unfold oneV
    rw [if_pos (by unfold kindG; rw [if_neg hop.1, if_neg hop.2.1, if_neg hop.2.2])]
  rw [hX]
  obtain ⟨ak, an, sa⟩ := a
  have d3 : (op == 3) = false := by rw [beq_eq_false_iff_ne]; omega
  have d4 : (op == 4) = false := by rw [beq_eq_false_iff_ne]; omega
  have d5 : (op == 5) = false := by rw [beq_eq_false_iff_ne]; omega
  have HX : Hid ((V0, (1 : Int)) = (V0, 1)) := Lib.hid rfl
  clear hX hop
  simp only [V.val]
  have H3 := Lib.hid (Duo.new w ⟨ak, an, sa⟩)
  go_enter Tryz.func119, Tryz.ntmps119
  go_upto_region 1 with fail
  simp only [duo_def]
  obtain ⟨g, hg⟩ : ∃ g, w.heap.size = g := ⟨_, rfl⟩
  rw [hg] at H3
  obtain ⟨w3, hw3⟩ : ∃ y, duo w ⟨ak, an, sa⟩ = y := ⟨_, rfl⟩
  rw [hw3] at H3 ⊢
  simp only [hg]
  clear hw3 hg
  obtain ⟨a0, a1, a2⟩ := H3.out.a.cells
  simp only at a0 a1 a2
  obtain ⟨r0, r1, r2⟩ := H3.out.r.cells
  have f0 := H3.out.r.frozen 0
  have f1 := H3.out.r.frozen 1
  have f2 := H3.out.r.frozen 2
  obtain ⟨t0, t1, t2⟩ := (H3.out.r.set3' (0) (0) (⟨#[]⟩)).cells
  have HP := Lib.hid (H3.out.put3 (.int .i64 (0)) (.int .i64 (0)) (.string (⟨#[]⟩)))
  go_wp2
  refine bodyPost_ret (v := .tuple #[.agg #[.int .i64 (0), .int .i64 (0), .string (⟨#[]⟩)], .int .i64 1]) (by simp [results, Tryz.results119, go_sem, t0, t1, t2]) rfl ⟨?_, HP.out⟩
  rfl
theorem gOne_any (op : Int) (a : V) (w : World) (ha : okV a) : Calls Tryz.prog 119 #[.int .i64 op, a.val] w (RetG (oneV op a) w) := by
  by_cases h : op ≠ 3 ∧ op ≠ 4 ∧ op ≠ 5
  · exact gOneX_any op h a w
  · have h : op = 3 ∨ op = 4 ∨ op = 5 := by omega
    rcases h with rfl | rfl | rfl
    · exact gOne3_any a w ha
    · exact gOne4_any a w ha
    · exact gOne5_any a w ha
end Go.Proofs.YtidomoibhjgkjaaGreatDoor

/-
  Package eval: what a term brings.
-/
namespace Go.Proofs.YtidomoibhjgkjaaGreatDoor
open Go.RowKit

/-- What bring gives. -/
def RetBn (x : V ⊕ Er) (b lo : Nat) (gv : Value) (st : List V) (w : World) (r : Ending) (w' : World) : Prop :=
  ∃ k n s u, r = .returned (.tuple #[.agg #[.int .i64 k, .int .i64 n, .string s], u]) ∧ Foot b lo w w' ∧ (match x with | .inl v => v = ⟨k, n, s⟩ ∧ u = .nilIface ∧ RunM w' b lo gv st | .inr e => ErrO w' (some e) u)

/-- A term's box and the answer's, as they stand. -/
structure TB (w : World) (g : Nat) (x : TM) : Prop where
  t : TermAt w g 0 x
  tl : g < w.heap.size
  r : Boxed w (g + 1) V0
theorem TBox.tb {w w1 : World} {g : Nat} {x : TM} (h : TBox w w1 g x) : TB w1 g x := ⟨h.t, h.tl, h.r⟩
theorem TB.below {w1 w2 : World} {g : Nat} {x : TM} (h : TB w1 g x) (hb : Below w1.heap.size w1 w2) : TB w2 g x := ⟨h.t.below hb h.tl, Nat.lt_of_lt_of_le h.tl hb.size, h.r.below hb⟩
theorem Foot.cell {b lo : Nat} {w w' : World} (h : Foot b lo w w') {k o : Nat} (hk : k < lo) (hb : k ≠ b) : w'.cell? ⟨k, o, none⟩ = w.cell? ⟨k, o, none⟩ := World.cell?_of_block (w := w) (h.block k hk hb)
theorem TB.foot {w1 w2 : World} {b g : Nat} {x : TM} (h : TB w1 g x) (hf : Foot b w1.heap.size w1 w2) (hg : b < g) : TB w2 g x := by
  have hr := h.r.lt
  refine ⟨⟨?_, ?_, ?_, ?_, ?_⟩, Nat.lt_of_lt_of_le h.tl hf.size, (hf.block _ hr (by omega)).trans h.r⟩
  · exact (hf.cell h.tl (by omega)).trans h.t.1
  · exact (hf.cell h.tl (by omega)).trans h.t.2.1
  · exact (hf.cell h.tl (by omega)).trans h.t.2.2.1
  · exact (hf.cell h.tl (by omega)).trans h.t.2.2.2.1
  · exact (hf.cell h.tl (by omega)).trans h.t.2.2.2.2

theorem lt_alloc (w : World) (o : Obj) : w.heap.size < (w.alloc o).heap.size := by simp
theorem oneR {op : Int} {a : V} (ha : okV a) {xk xn xc : Int} {xs : ByteArray} (h : oneV op a = (⟨xk, xn, xs⟩, xc)) (W : World) : Calls Tryz.prog 119 #[.int .i64 op, a.val] W fun r w' => r = .returned (.tuple #[.agg #[.int .i64 xk, .int .i64 xn, .string xs], .int .i64 xc]) ∧ Below W.heap.size W w' := by
  have h2 := gOne_any op a W ha
  rw [h] at h2
  exact h2
theorem twoR {op : Int} {a c : V} (ha : okV a) (hc : okV c) {xk xn xc : Int} {xs : ByteArray} (h : twoV op a c = (⟨xk, xn, xs⟩, xc)) (W : World) : Calls Tryz.prog 27 #[.int .i64 op, a.val, c.val] W fun r w' => r = .returned (.tuple #[.agg #[.int .i64 xk, .int .i64 xn, .string xs], .int .i64 xc]) ∧ Below W.heap.size W w' := by
  have h2 := gTwo_any op a c W ha hc
  rw [h] at h2
  exact h2
theorem TB.op0 {w : World} {g : Nat} {x : TM} (h : TB w g x) : w.cell? ⟨g, 0, none⟩ = some (.int .i64 x.op) := h.t.1
theorem Foot.behind {b lo : Nat} {x y z : World} (h : Below x.heap.size x y) (k : Foot b y.heap.size y z) (hl : lo ≤ x.heap.size) : Foot b lo x z := (Foot.of_below (b := b) h hl).trans (k.less (Nat.le_trans hl h.size))
theorem takeT (b lo g : Nat) (gv : Value) (a : V) (t : TM) (st : List V) (w0 w : World) (hM : RunM w0 b lo gv (a :: st)) (h0 : Below w0.heap.size w0 w) (hs : st.length ≤ 100000) (hT : TB w g t) (hbg : b < g) :
    ∀ W, Below w.heap.size w W → Calls Tryz.prog 54 #[.pointer (some ⟨b, 0, none⟩)] W fun r w' => r = .returned a.val ∧ Foot b w0.heap.size w0 w' ∧ TB w' g t ∧ W.heap.size ≤ w'.heap.size ∧
      (∀ k, k < W.heap.size → ¬ k = b → w'.heap[k]? = W.heap[k]?) ∧ ∃ sv, RunC w' b gv sv ∧ Runs w0 b lo gv st sv := fun W hb => by
  have h0W := h0.trans (hb.mono h0.size)
  obtain ⟨sv, hc, hR⟩ := hM.runs
  refine (gTake_any b lo gv a st w0 W sv hR (hc.keep (h0W.block _ hc.lt)) (Foot.of_below h0W (Nat.le_refl _)) hs).mono ?_
  rintro r w' ⟨sv, e, h1, h2, h3⟩
  exact ⟨e, Foot.behind h0W h2 (Nat.le_refl _), (hT.below hb).foot h2 hbg, h2.size, fun k hk hb => h2.block k hk hb, sv, h1, h3⟩

/-! ### behind a call that gives a value and a number -/
structure Ready (w w6 : World) (b g s6 : Nat) (gv sv : Value) (x : V) : Prop where
  box : Boxed w6 s6 x
  run : RunC w6 b gv sv
  foot : Foot b w.heap.size w w6
  res : Boxed w6 (g + 1) V0
section
variable {w w4 w5 : World} {b g s : Nat} {gv sv : Value} {t : TM}
theorem readyA (hf : Foot b w.heap.size w w4) (ht : TB w4 g t) (hc : RunC w4 b gv sv) (hb : Below w4.heap.size w4 w5) (k n : Int) (x : ByteArray) : Ready w (w5.alloc (.cells #[.int .i64 k, .int .i64 n, .string x] 27)) b g w5.heap.size gv sv ⟨k, n, x⟩ :=
  have f5 := hf.trans (Foot.of_below (b := b) hb hf.size)
  ⟨Boxed.new w5 k n x, (hc.keep (hb.block _ hc.lt)).alloc _, f5.alloc f5.size _, (ht.r.below hb).below (box_below _ _ _)⟩
theorem readyS (hf : Foot b w.heap.size w w5) (hr : Boxed w5 (g + 1) V0) (hc : RunC w5 b gv sv) (hx : Boxed w5 s V0) (hs : w.heap.size ≤ s) (hsb : s ≠ b) (hsg : s ≠ g + 1) (k n : Int) (x : ByteArray) :
    Ready w (((w5.setCell ⟨s, 0, none⟩ (.int .i64 k)).setCell ⟨s, 1, none⟩ (.int .i64 n)).setCell ⟨s, 2, none⟩ (.string x)) b g s gv sv ⟨k, n, x⟩ := by
  refine ⟨hx.set3' k n x, ((hc.other hsb).other hsb).other hsb, ((hf.setCell (p := ⟨s, 0, none⟩) (.inr hs) _).setCell (p := ⟨s, 1, none⟩) (.inr hs) _).setCell (p := ⟨s, 2, none⟩) (.inr hs) _, ?_⟩
  have ne : g + 1 ≠ s := fun e => hsg e.symm
  have e1 : ∀ (W : World) (o : Nat) (u : Value), (W.setCell ⟨s, o, none⟩ u).heap[g + 1]? = W.heap[g + 1]? := fun W o u => Below.heap_setCell _ _ _ _ ne
  unfold Boxed
  rw [e1, e1, e1]
  exact hr
theorem ofU (c : Int) : ∃ u, (∀ W, Calls Tryz.prog 45 #[.int .i64 c] W fun r w' => r = .returned u ∧ W = w') ∧ ((c = 0 ∧ u = .nilIface) ∨ (c ≠ 0 ∧ u = .iface 33 (.int .i64 c))) := by
  by_cases h : c = 0
  · subst h
    exact ⟨_, of_zero, .inl ⟨rfl, rfl⟩⟩
  · exact ⟨_, fun W => of_num c W h, .inr ⟨h, rfl⟩⟩
theorem bnEnd {lo : Nat} {st : List V} {wF : World} {c k n : Int} {x : ByteArray} {u : Value} (hu : (c = 0 ∧ u = .nilIface) ∨ (c ≠ 0 ∧ u = .iface 33 (.int .i64 c))) (hf : Foot b lo w wF) (hm : RunM wF b lo gv st) :
    RetBn (if c = 0 then .inl ⟨k, n, x⟩ else .inr (numE c [])) b lo gv st w (.returned (.tuple #[.agg #[.int .i64 k, .int .i64 n, .string x], u])) wF := by
  refine ⟨k, n, x, u, rfl, hf, ?_⟩
  rcases hu with ⟨rfl, rfl⟩ | ⟨h, rfl⟩
  · exact ⟨rfl, rfl, hm⟩
  · rw [if_neg h]
    exact ⟨rfl, .inr (by intro h; cases h)⟩
end

set_option maxRecDepth 100000 in
set_option maxHeartbeats 8000000 in
theorem gBring1_any (b lo : Nat) (gv : Value) (t : TM) (ht : t.op = 3 ∨ t.op = 4 ∨ t.op = 5) (a : V) (ha : okV a) (st : List V) (w : World) (hM : RunM w b lo gv (a :: st)) (hs : st.length ≤ 100000) :
    Calls Tryz.prog 86 #[.pointer (some ⟨b, 0, none⟩), termVal t] w (RetBn (if (oneV t.op a).2 = 0 then .inl (oneV t.op a).1 else .inr (numE (oneV t.op a).2 [])) b lo gv st w) := by
  have h3 := TBox.new w t
  have hlo := hM.lo2
  have hblo := hM.lo1
  obtain ⟨X, hX⟩ : ∃ X, oneV t.op a = X := ⟨_, rfl⟩
  rw [hX]
  have H3 := Lib.hid h3
  obtain ⟨op, ⟨vk, vn, vs⟩, nm⟩ := t
  obtain ⟨⟨xk, xn, xs⟩, xc⟩ := X
  have HO := Lib.hid (oneR ha hX)
  simp only [termVal] at *
  have d0 : (op == 0) = false := by rw [beq_eq_false_iff_ne]; omega
  have d1 : (op == 1) = false := by rw [beq_eq_false_iff_ne]; omega
  have d2 : (op == 2) = false := by rw [beq_eq_false_iff_ne]; omega
  have dd : (op == 3) = true ∨ ((op == 3) = false ∧ (op == 4) = true) ∨ ((op == 3) = false ∧ (op == 4) = false ∧ (op == 5) = true) := by
    rcases ht with rfl | rfl | rfl
    · exact .inl rfl
    · exact .inr (.inl ⟨rfl, rfl⟩)
    · exact .inr (.inr ⟨rfl, rfl, rfl⟩)
  clear hX h3 ht
  obtain ⟨u, hof, hu⟩ := ofU xc
  have HOf := Lib.hid hof
  obtain ⟨R, hR⟩ : ∃ R : Ending → World → Prop, (RetBn (if xc = 0 then .inl ⟨xk, xn, xs⟩ else .inr (numE xc [])) b lo gv st w) = R := ⟨_, rfl⟩
  rw [hR]
  have HEnd : Hid (∀ wF, Foot b w.heap.size w wF → RunM wF b lo gv st → R (.returned (.tuple #[.agg #[.int .i64 xk, .int .i64 xn, .string xs], u])) wF) := Lib.hid (fun wF hf hm => by rw [← hR]; exact bnEnd hu (hf.less hlo) hm)
  clear hR hof hu
  go_enter Tryz.func86, Tryz.ntmps86
  go_upto_region 1 with fail
  simp only [termBox_def]
  obtain ⟨g, hg⟩ : ∃ g, w.heap.size = g := ⟨_, rfl⟩
  have hbg : b < g := by omega
  rw [hg] at H3
  obtain ⟨w3, hw3⟩ : ∃ y, termBox w ⟨op, ⟨vk, vn, vs⟩, nm⟩ = y := ⟨_, rfl⟩
  rw [hw3] at H3 ⊢
  simp only [hg]
  have hg3 : w.heap.size < w3.heap.size := by have := H3.out.tl; omega
  have hg1 : g + 1 < w3.heap.size := H3.out.r.lt
  have hwg : w.heap.size ≤ g + 1 := by omega
  have HWG := Lib.hid hwg
  have HG31 := Lib.hid hg1
  have HG3 := Lib.hid hg3
  have HGG := Lib.hid hg
  clear hw3 hg hg3 hg1 hwg
  obtain ⟨c0, _, _, _, c4⟩ := H3.out.t
  simp only [Nat.zero_add] at c0 c4
  have HTB := Lib.hid H3.out.tb
  have hne : ¬ w3.heap.size = b := by have := HG31.out; omega
  have hne1 : ¬ g + 1 = b := by omega
  have c1 := (HTB.out.below (box_below w3 #[.int .i64 0, .int .i64 0, .string ⟨#[]⟩] 27)).op0
  have hl3 := lt_alloc w3 (.cells #[.int .i64 0, .int .i64 0, .string ⟨#[]⟩] 27)
  have hzz : Boxed (w3.alloc (.cells #[.int .i64 0, .int .i64 0, .string ⟨#[]⟩] 27)) w3.heap.size V0 := Boxed.new w3 0 0 ⟨#[]⟩
  have HTk := Lib.hid (takeT b lo g gv a ⟨op, ⟨vk, vn, vs⟩, nm⟩ st w w3 hM H3.out.hb hs HTB.out hbg)
  obtain ⟨ak, an, sa⟩ := a
  simp only [V.val] at HTk HO
  clear hM ha
  rcases dd with d3 | ⟨d3, d4⟩ | ⟨d3, d4, d5⟩
  all_goals
    go_upto_region 10 with fail
    go_cut [6, 7] (fun p e wx => ∃ s6 sv, p = .pointer (some ⟨s6, 0, none⟩) ∧ e = .int .i64 xc ∧ Ready w wx b g s6 gv sv ⟨xk, xn, xs⟩ ∧ Runs w b lo gv st sv)
    case first =>
      go_region_with ((first | (go_at_call 54; refine (HTk.out _ (by first | exact (Below.refl _ _).drew | exact ((Below.refl _ _).alloc (Nat.le_refl _) _).drew)).mono ?_; rintro r w4 ⟨rfl, hf4, ht4, hs4, hk4, sv, hc4, hm4⟩; have k0 := ht4.op0; have k1 := (ht4.below (box_below w4 #[.int .i64 0, .int .i64 0, .string ⟨#[]⟩] 27)).op0; (first | (have hzb : Boxed w4 w3.heap.size V0 := (hk4 _ hl3 hne).trans hzz; clear hs4 hk4) | clear hs4 hk4)) | (go_at_call 119; refine (HO.out _).mono ?_; rintro r w5 ⟨rfl, hb5⟩; (first | (have hxb := hzb.below hb5; obtain ⟨x0, x1, x2⟩ := hxb.cells; have v0 := hxb.frozen 0; have v1 := hxb.frozen 1; have v2 := hxb.frozen 2) | (have hxb : Boxed w5 w4.heap.size V0 := Boxed.below (v := V0) (Boxed.new w4 0 0 ⟨#[]⟩) hb5; obtain ⟨x0, x1, x2⟩ := hxb.cells; have v0 := hxb.frozen 0; have v1 := hxb.frozen 1; have v2 := hxb.frozen 2) | skip))))
      all_goals
        go_wp2_with fail
        go_meet
        case rel =>
          first
            | exact ⟨_, sv, rfl, rfl, readyA hf4 ht4 hc4 hb5 xk xn xs, hm4⟩
            | exact ⟨_, sv, rfl, rfl, readyS ((hf4.alloc hf4.size _).trans (Foot.of_below (b := b) hb5 (Nat.le_of_lt (Nat.lt_of_le_of_lt hf4.size (lt_alloc w4 _))))) ((ht4.r.below (box_below w4 _ _)).below hb5) ((hc4.alloc _).keep (hb5.block _ (hc4.alloc _).lt)) hxb hf4.size (by have := hc4.lt; omega) (by have := ht4.r.lt; omega) xk xn xs, hm4⟩
            | exact ⟨_, sv, rfl, rfl, readyS (hf4.trans (Foot.of_below (b := b) hb5 hf4.size)) (ht4.r.below hb5) (hc4.keep (hb5.block _ hc4.lt)) hxb (Nat.le_of_lt HG3.out) hne (by have := HG31.out; omega) xk xn xs, hm4⟩
    case rest =>
      obtain ⟨s6, sv, rfl, rfl, hrd, hm4⟩ := hcut
      have RD := Lib.hid hrd
      have HM4 := Lib.hid hm4
      clear hrd hm4
      obtain ⟨s0, s1, s2⟩ := RD.out.box.cells
      obtain ⟨r0, r1, r2⟩ := RD.out.res.cells
      simp only at s0 s1 s2
      have f0 := RD.out.res.frozen 0
      have f1 := RD.out.res.frozen 1
      have f2 := RD.out.res.frozen 2
      have res' : Boxed wc (g + 1) V0 := RD.out.res
      have run' : RunC wc b gv sv := RD.out.run
      obtain ⟨t0, t1, t2⟩ := (res'.set3' xk xn xs).cells
      have FF := Lib.hid ((((RD.out.foot.setCell (p := ⟨g + 1, 0, none⟩) (.inr HWG.out) (.int .i64 xk)).setCell (p := ⟨g + 1, 1, none⟩) (.inr HWG.out) (.int .i64 xn)).setCell (p := ⟨g + 1, 2, none⟩) (.inr HWG.out) (.string xs)).drew)
      have RF : Hid (RunC ((((wc.setCell ⟨g + 1, 0, none⟩ (.int .i64 xk)).setCell ⟨g + 1, 1, none⟩ (.int .i64 xn)).setCell ⟨g + 1, 2, none⟩ (.string xs)).drew) b gv sv) := Lib.hid (((run'.other (o := 0) (u := .int .i64 xk) hne1).other (o := 1) (u := .int .i64 xn) hne1).other (o := 2) (u := .string xs) hne1)
      clear RD res' run' c0 c1 c4 hzz hl3 hne hne1
      go_upto_region 11 with fail
      go_region_with ((go_at_call 45; refine (HOf.out _).mono ?_; rintro r w7 ⟨rfl, rfl⟩))
      all_goals
        go_wp2
        refine bodyPost_ret (v := .tuple #[.agg #[.int .i64 xk, .int .i64 xn, .string xs], u]) (by simp [results, Tryz.results86, go_sem, t0, t1, t2]) rfl ?_
        exact HEnd.out _ FF.out (HM4.out _ RF.out FF.out)
end Go.Proofs.YtidomoibhjgkjaaGreatDoor
