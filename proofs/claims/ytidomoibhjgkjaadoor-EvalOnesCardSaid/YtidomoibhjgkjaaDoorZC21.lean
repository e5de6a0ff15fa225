import Derived.Test.YtidomoibhjgkjaaDoorZC18
import Derived.Test.YtidomoibhjgkjaaDoorZC17
/-
  Package eval: One.
-/
namespace Go.Proofs.YtidomoibhjgkjaaDoor
open Go.RowKit

theorem b_d (n : Int) : (n == 0) = decide (n = 0) := by by_cases h : n = 0 <;> simp [h]

/-! ### a value and a place for the answer, boxed one behind the other -/
def duo (w : World) (a : V) : World := (w.alloc (.cells #[.int .i64 a.k, .int .i64 a.n, .string a.s] 23)).alloc (.cells #[.int .i64 0, .int .i64 0, .string ⟨#[]⟩] 23)
theorem duo_def (w : World) (ak an : Int) (sa : ByteArray) : (w.alloc (.cells #[.int .i64 ak, .int .i64 an, .string sa] 23)).alloc (.cells #[.int .i64 0, .int .i64 0, .string ⟨#[]⟩] 23) = duo w ⟨ak, an, sa⟩ := rfl
structure Duo (w w' : World) (g : Nat) (a : V) : Prop where
  a : Boxed w' g a
  r : Boxed w' (g + 1) V0
  hb : Below w.heap.size w w'
  hg : w.heap.size ≤ g
theorem Duo.new (w : World) (a : V) : Duo w (duo w a) w.heap.size a := by
  have h1 := Boxed.new w a.k a.n a.s
  have h2 := Boxed.new (w.alloc (.cells #[.int .i64 a.k, .int .i64 a.n, .string a.s] 23)) 0 0 ⟨#[]⟩
  have b2 := box_below (w.alloc (.cells #[.int .i64 a.k, .int .i64 a.n, .string a.s] 23)) #[.int .i64 0, .int .i64 0, .string ⟨#[]⟩] 23
  have e1 : (w.alloc (.cells #[.int .i64 a.k, .int .i64 a.n, .string a.s] 23)).heap.size = w.heap.size + 1 := by simp
  rw [e1] at h2
  exact ⟨h1.below b2, h2, ((Below.refl _ w).alloc (Nat.le_refl _) _).alloc (by simp) _, Nat.le_refl _⟩
theorem Duo.below {w w1 w2 : World} {g : Nat} {a : V} (h : Duo w w1 g a) (hb : Below w1.heap.size w1 w2) : Duo w w2 g a := ⟨h.a.below hb, h.r.below hb, h.hb.trans (hb.mono h.hb.size), h.hg⟩
theorem Duo.alloc {w w1 : World} {g : Nat} {a : V} (h : Duo w w1 g a) (o : Obj) : Duo w (w1.alloc o) g a := h.below ((Below.refl _ w1).alloc (Nat.le_refl _) o)
theorem Duo.put3 {w w1 : World} {g : Nat} {a : V} (h : Duo w w1 g a) (x y z : Value) : Below w.heap.size w (((w1.setCell ⟨g + 1, 0, none⟩ x).setCell ⟨g + 1, 1, none⟩ y).setCell ⟨g + 1, 2, none⟩ z) :=
  Below.set3' h.hb (by have := h.hg; omega) _ _ _

set_option maxRecDepth 100000 in
set_option maxHeartbeats 4000000 in
theorem gOne3_any (a : V) (w : World) (ha : okV a) : Calls Tryd.prog 7 #[.int .i64 3, a.val] w (RetG (oneV 3 a) w) := by
  obtain ⟨ak, an, sa⟩ := a
  have HQ := Lib.hid (fun g c W => gAre_one 1 ⟨ak, an, sa⟩ g c W)
  have HT := Lib.hid (fun W => gIsTrue_any ⟨ak, an, sa⟩ W)
  have HA := Lib.hid ha
  obtain ⟨X, hX⟩ : ∃ X, oneV 3 ⟨ak, an, sa⟩ = X := ⟨_, rfl⟩
  rw [hX]
  unfold oneV at hX
  rw [if_neg (by decide), show kindG 3 = 1 from rfl] at hX
  simp only [V.val] at HQ HT hX ⊢
  obtain ⟨q, hq⟩ : ∃ q, (ak == 1) = q := ⟨_, rfl⟩
  rw [hq] at HQ
  have HX0 := Lib.hid hX.symm
  have HK := Lib.hid hq
  clear hX hq ha
  have H3 := Lib.hid (Duo.new w ⟨ak, an, sa⟩)
  go_enter Tryd.func7, Tryd.ntmps7
  go_upto_region 1 with fail
  simp only [duo_def]
  obtain ⟨g, hg⟩ : ∃ g, w.heap.size = g := ⟨_, rfl⟩
  rw [hg] at H3
  obtain ⟨w3, hw3⟩ : ∃ y, duo w ⟨ak, an, sa⟩ = y := ⟨_, rfl⟩
  rw [hw3] at H3 ⊢
  simp only [hg]
  clear hw3 hg
  obtain ⟨a0, a1, a2⟩ := H3.out.a.cells
  simp only at a0 a1 a2
  obtain ⟨r0, r1, r2⟩ := H3.out.r.cells
  have f0 := H3.out.r.frozen 0
  have f1 := H3.out.r.frozen 1
  have f2 := H3.out.r.frozen 2
  go_wp2_with fail
  refine (HQ.out _ _ _ (by simp) (by simp) (by simp)).mono ?_
  rintro r w4 ⟨rfl, hb4⟩
  have H4 := Lib.hid ((H3.out.alloc _).below hb4)
  clear hb4 a0 a1 a2 r0 r1 r2 f0 f1 f2 H3
  have H3 := H4
  clear H4
  obtain ⟨a0, a1, a2⟩ := H3.out.a.cells
  simp only at a0 a1 a2
  obtain ⟨r0, r1, r2⟩ := H3.out.r.cells
  have f0 := H3.out.r.frozen 0
  have f1 := H3.out.r.frozen 1
  have f2 := H3.out.r.frozen 2
  cases q
  · have HX := Lib.hid (HX0.out.trans (if_pos (by have := HK.out; rw [beq_eq_false_iff_ne] at this; exact this)))
    obtain ⟨t0, t1, t2⟩ := (H3.out.r.set3' (0) (0) (⟨#[]⟩)).cells
    have HP := Lib.hid (H3.out.put3 (.int .i64 (0)) (.int .i64 (0)) (.string (⟨#[]⟩)))
    go_wp2
    refine bodyPost_ret (v := .tuple #[.agg #[.int .i64 (0), .int .i64 (0), .string (⟨#[]⟩)], .int .i64 40]) (by simp [results, Tryd.results7, go_sem, t0, t1, t2]) rfl ⟨?_, HP.out⟩
    rw [HX.out]
    rfl
  · have hk : ak = 1 := by have := HK.out; rwa [beq_iff_eq] at this
    have HX1 := Lib.hid (HX0.out.trans (if_neg (by rw [hk]; decide)))
    clear hk
    have HF := Lib.hid (fun W => gMinus_any 0 an (by unfold inI; decide) HA.out.1 W)
    have HZ := Lib.hid (fit_val (0 - an))
    have HN0 : Hid (fitV (0 - an) = if an = -9223372036854775808 then (V0, 9) else (numG (-an), 0)) := Lib.hid (by
      obtain ⟨b0, b1⟩ := HA.out.1
      simp only at b0 b1
      by_cases h : an = -9223372036854775808
      · rw [if_pos h, fitV_out (by unfold inI; omega)]
      · rw [if_neg h, fitV_in (by unfold inI; omega), Int.zero_sub])
    obtain ⟨z, hz⟩ : ∃ z, IntKind.i64.wrap (0 - an) = z := ⟨_, rfl⟩
    obtain ⟨F, hF⟩ : ∃ F, fitB (0 - an) = F := ⟨_, rfl⟩
    rw [hz, hF] at HF HZ
    have HX := Lib.hid (((HX1.out.trans (if_neg (by decide))).trans (if_neg (by decide))).trans (HN0.out.symm.trans HZ.out.symm))
    have HM := Lib.hid (fun W => gNumber_any z F W)
    clear hz hF HX1 HN0 HZ
    cases F
    · simp only [Bool.false_eq_true, if_false, V.val, V0] at HM
      go_wp2_with fail
      refine (HF.out _).mono ?_
      rintro r w5 ⟨rfl, rfl⟩
      go_wp2_with fail
      refine (HM.out _).mono ?_
      rintro r w6 ⟨rfl, hb6⟩
      have H4 := Lib.hid (H3.out.below hb6)
      clear hb6 a0 a1 a2 r0 r1 r2 f0 f1 f2 H3
      have H3 := H4
      clear H4
      obtain ⟨a0, a1, a2⟩ := H3.out.a.cells
      simp only at a0 a1 a2
      obtain ⟨r0, r1, r2⟩ := H3.out.r.cells
      have f0 := H3.out.r.frozen 0
      have f1 := H3.out.r.frozen 1
      have f2 := H3.out.r.frozen 2
      obtain ⟨t0, t1, t2⟩ := (H3.out.r.set3' (0) (0) (⟨#[]⟩)).cells
      have HP := Lib.hid (H3.out.put3 (.int .i64 (0)) (.int .i64 (0)) (.string (⟨#[]⟩)))
      go_wp2
      refine bodyPost_ret (v := .tuple #[.agg #[.int .i64 (0), .int .i64 (0), .string (⟨#[]⟩)], .int .i64 9]) (by simp [results, Tryd.results7, go_sem, t0, t1, t2]) rfl ⟨?_, HP.out⟩
      rw [HX.out]
      rfl
    · simp only [if_true, V.val, numG, mtS] at HM
      go_wp2_with fail
      refine (HF.out _).mono ?_
      rintro r w5 ⟨rfl, rfl⟩
      go_wp2_with fail
      refine (HM.out _).mono ?_
      rintro r w6 ⟨rfl, hb6⟩
      have H4 := Lib.hid (H3.out.below hb6)
      clear hb6 a0 a1 a2 r0 r1 r2 f0 f1 f2 H3
      have H3 := H4
      clear H4
      obtain ⟨a0, a1, a2⟩ := H3.out.a.cells
      simp only at a0 a1 a2
      obtain ⟨r0, r1, r2⟩ := H3.out.r.cells
      have f0 := H3.out.r.frozen 0
      have f1 := H3.out.r.frozen 1
      have f2 := H3.out.r.frozen 2
      obtain ⟨t0, t1, t2⟩ := (H3.out.r.set3' (1) (z) (⟨#[]⟩)).cells
      have HP := Lib.hid (H3.out.put3 (.int .i64 (1)) (.int .i64 (z)) (.string (⟨#[]⟩)))
      go_wp2
      refine bodyPost_ret (v := .tuple #[.agg #[.int .i64 (1), .int .i64 (z), .string (⟨#[]⟩)], .int .i64 0]) (by simp [results, Tryd.results7, go_sem, t0, t1, t2]) rfl ⟨?_, HP.out⟩
      rw [HX.out]
      rfl
set_option maxRecDepth 100000 in
set_option maxHeartbeats 4000000 in
theorem gOne4_any (a : V) (w : World) (ha : okV a) : Calls Tryd.prog 7 #[.int .i64 4, a.val] w (RetG (oneV 4 a) w) := by
  obtain ⟨ak, an, sa⟩ := a
  have HQ := Lib.hid (fun g c W => gAre_one 2 ⟨ak, an, sa⟩ g c W)
  have HT := Lib.hid (fun W => gIsTrue_any ⟨ak, an, sa⟩ W)
  have HA := Lib.hid ha
  obtain ⟨X, hX⟩ : ∃ X, oneV 4 ⟨ak, an, sa⟩ = X := ⟨_, rfl⟩
  rw [hX]
  unfold oneV at hX
  rw [if_neg (by decide), show kindG 4 = 2 from rfl] at hX
  simp only [V.val] at HQ HT hX ⊢
  obtain ⟨q, hq⟩ : ∃ q, (ak == 2) = q := ⟨_, rfl⟩
  rw [hq] at HQ
  have HX0 := Lib.hid hX.symm
  have HK := Lib.hid hq
  clear hX hq ha
  have H3 := Lib.hid (Duo.new w ⟨ak, an, sa⟩)
  go_enter Tryd.func7, Tryd.ntmps7
  go_upto_region 1 with fail
  simp only [duo_def]
  obtain ⟨g, hg⟩ : ∃ g, w.heap.size = g := ⟨_, rfl⟩
  rw [hg] at H3
  obtain ⟨w3, hw3⟩ : ∃ y, duo w ⟨ak, an, sa⟩ = y := ⟨_, rfl⟩
  rw [hw3] at H3 ⊢
  simp only [hg]
  clear hw3 hg
  obtain ⟨a0, a1, a2⟩ := H3.out.a.cells
  simp only at a0 a1 a2
  obtain ⟨r0, r1, r2⟩ := H3.out.r.cells
  have f0 := H3.out.r.frozen 0
  have f1 := H3.out.r.frozen 1
  have f2 := H3.out.r.frozen 2
  go_wp2_with fail
  refine (HQ.out _ _ _ (by simp) (by simp) (by simp)).mono ?_
  rintro r w4 ⟨rfl, hb4⟩
  have H4 := Lib.hid ((H3.out.alloc _).below hb4)
  clear hb4 a0 a1 a2 r0 r1 r2 f0 f1 f2 H3
  have H3 := H4
  clear H4
  obtain ⟨a0, a1, a2⟩ := H3.out.a.cells
  simp only at a0 a1 a2
  obtain ⟨r0, r1, r2⟩ := H3.out.r.cells
  have f0 := H3.out.r.frozen 0
  have f1 := H3.out.r.frozen 1
  have f2 := H3.out.r.frozen 2
  cases q
  · have HX := Lib.hid (HX0.out.trans (if_pos (by have := HK.out; rw [beq_eq_false_iff_ne] at this; exact this)))
    obtain ⟨t0, t1, t2⟩ := (H3.out.r.set3' (0) (0) (⟨#[]⟩)).cells
    have HP := Lib.hid (H3.out.put3 (.int .i64 (0)) (.int .i64 (0)) (.string (⟨#[]⟩)))
    go_wp2
    refine bodyPost_ret (v := .tuple #[.agg #[.int .i64 (0), .int .i64 (0), .string (⟨#[]⟩)], .int .i64 40]) (by simp [results, Tryd.results7, go_sem, t0, t1, t2]) rfl ⟨?_, HP.out⟩
    rw [HX.out]
    rfl
  · have hk : ak = 2 := by have := HK.out; rwa [beq_iff_eq] at this
    have HX1 := Lib.hid (HX0.out.trans (if_neg (by rw [hk]; decide)))
    clear hk
    have HX2 := Lib.hid (HX1.out.trans (if_pos (by trivial)))
    obtain ⟨e, he⟩ : ∃ e, (an == 0) = e := ⟨_, rfl⟩
    rw [he] at HT
    have HX3 : Hid (X = (truthV e, 0)) := Lib.hid (by rw [HX2.out, ← he, b_d])
    clear HX1 HX2 he
    cases e
    · have HX := HX3
      have HV := Lib.hid (fun W => vBool_any false W)
      simp only [Bool.false_eq_true, if_false] at HV
      go_wp2_with fail
      refine (HT.out _).mono ?_
      rintro r w5 ⟨rfl, hb5⟩
      have H4 := Lib.hid (H3.out.below hb5)
      clear hb5 a0 a1 a2 r0 r1 r2 f0 f1 f2 H3
      have H3 := H4
      clear H4
      obtain ⟨a0, a1, a2⟩ := H3.out.a.cells
      simp only at a0 a1 a2
      obtain ⟨r0, r1, r2⟩ := H3.out.r.cells
      have f0 := H3.out.r.frozen 0
      have f1 := H3.out.r.frozen 1
      have f2 := H3.out.r.frozen 2
      go_wp2_with fail
      refine (HV.out _).mono ?_
      rintro r w6 ⟨rfl, hb6⟩
      have H4 := Lib.hid (H3.out.below hb6)
      clear hb6 a0 a1 a2 r0 r1 r2 f0 f1 f2 H3
      have H3 := H4
      clear H4
      obtain ⟨a0, a1, a2⟩ := H3.out.a.cells
      simp only at a0 a1 a2
      obtain ⟨r0, r1, r2⟩ := H3.out.r.cells
      have f0 := H3.out.r.frozen 0
      have f1 := H3.out.r.frozen 1
      have f2 := H3.out.r.frozen 2
      obtain ⟨t0, t1, t2⟩ := (H3.out.r.set3' (2) (0) (⟨#[]⟩)).cells
      have HP := Lib.hid (H3.out.put3 (.int .i64 (2)) (.int .i64 (0)) (.string (⟨#[]⟩)))
      go_wp2
      refine bodyPost_ret (v := .tuple #[.agg #[.int .i64 (2), .int .i64 (0), .string (⟨#[]⟩)], .int .i64 0]) (by simp [results, Tryd.results7, go_sem, t0, t1, t2]) rfl ⟨?_, HP.out⟩
      rw [HX.out]
      rfl
    · have HX := HX3
      have HV := Lib.hid (fun W => vBool_any true W)
      simp only [if_true] at HV
      go_wp2_with fail
      refine (HT.out _).mono ?_
      rintro r w5 ⟨rfl, hb5⟩
      have H4 := Lib.hid (H3.out.below hb5)
      clear hb5 a0 a1 a2 r0 r1 r2 f0 f1 f2 H3
      have H3 := H4
      clear H4
      obtain ⟨a0, a1, a2⟩ := H3.out.a.cells
      simp only at a0 a1 a2
      obtain ⟨r0, r1, r2⟩ := H3.out.r.cells
      have f0 := H3.out.r.frozen 0
      have f1 := H3.out.r.frozen 1
      have f2 := H3.out.r.frozen 2
      go_wp2_with fail
      refine (HV.out _).mono ?_
      rintro r w6 ⟨rfl, hb6⟩
      have H4 := Lib.hid (H3.out.below hb6)
      clear hb6 a0 a1 a2 r0 r1 r2 f0 f1 f2 H3
      have H3 := H4
      clear H4
      obtain ⟨a0, a1, a2⟩ := H3.out.a.cells
      simp only at a0 a1 a2
      obtain ⟨r0, r1, r2⟩ := H3.out.r.cells
      have f0 := H3.out.r.frozen 0
      have f1 := H3.out.r.frozen 1
      have f2 := H3.out.r.frozen 2
      obtain ⟨t0, t1, t2⟩ := (H3.out.r.set3' (2) (1) (⟨#[]⟩)).cells
      have HP := Lib.hid (H3.out.put3 (.int .i64 (2)) (.int .i64 (1)) (.string (⟨#[]⟩)))
      go_wp2
      refine bodyPost_ret (v := .tuple #[.agg #[.int .i64 (2), .int .i64 (1), .string (⟨#[]⟩)], .int .i64 0]) (by simp [results, Tryd.results7, go_sem, t0, t1, t2]) rfl ⟨?_, HP.out⟩
      rw [HX.out]
      rfl
set_option maxRecDepth 100000 in
set_option maxHeartbeats 4000000 in
theorem gOne5_any (a : V) (w : World) (ha : okV a) : Calls Tryd.prog 7 #[.int .i64 5, a.val] w (RetG (oneV 5 a) w) := by
  obtain ⟨ak, an, sa⟩ := a
  have HQ := Lib.hid (fun g c W => gAre_one 3 ⟨ak, an, sa⟩ g c W)
  have HT := Lib.hid (fun W => gIsTrue_any ⟨ak, an, sa⟩ W)
  have HA := Lib.hid ha
  obtain ⟨X, hX⟩ : ∃ X, oneV 5 ⟨ak, an, sa⟩ = X := ⟨_, rfl⟩
  rw [hX]
  unfold oneV at hX
  rw [if_neg (by decide), show kindG 5 = 3 from rfl] at hX
  simp only [V.val] at HQ HT hX ⊢
  obtain ⟨q, hq⟩ : ∃ q, (ak == 3) = q := ⟨_, rfl⟩
  rw [hq] at HQ
  have HX0 := Lib.hid hX.symm
  have HK := Lib.hid hq
  clear hX hq ha
  have H3 := Lib.hid (Duo.new w ⟨ak, an, sa⟩)
  go_enter Tryd.func7, Tryd.ntmps7
  go_upto_region 1 with fail
  simp only [duo_def]
  obtain ⟨g, hg⟩ : ∃ g, w.heap.size = g := ⟨_, rfl⟩
  rw [hg] at H3
  obtain ⟨w3, hw3⟩ : ∃ y, duo w ⟨ak, an, sa⟩ = y := ⟨_, rfl⟩
  rw [hw3] at H3 ⊢
  simp only [hg]
  clear hw3 hg
  obtain ⟨a0, a1, a2⟩ := H3.out.a.cells
  simp only at a0 a1 a2
  obtain ⟨r0, r1, r2⟩ := H3.out.r.cells
  have f0 := H3.out.r.frozen 0
  have f1 := H3.out.r.frozen 1
  have f2 := H3.out.r.frozen 2
  go_wp2_with fail
  refine (HQ.out _ _ _ (by simp) (by simp) (by simp)).mono ?_
  rintro r w4 ⟨rfl, hb4⟩
  have H4 := Lib.hid ((H3.out.alloc _).below hb4)
  clear hb4 a0 a1 a2 r0 r1 r2 f0 f1 f2 H3
  have H3 := H4
  clear H4
  obtain ⟨a0, a1, a2⟩ := H3.out.a.cells
  simp only at a0 a1 a2
  obtain ⟨r0, r1, r2⟩ := H3.out.r.cells
  have f0 := H3.out.r.frozen 0
  have f1 := H3.out.r.frozen 1
  have f2 := H3.out.r.frozen 2
  cases q
  · have HX := Lib.hid (HX0.out.trans (if_pos (by have := HK.out; rw [beq_eq_false_iff_ne] at this; exact this)))
    obtain ⟨t0, t1, t2⟩ := (H3.out.r.set3' (0) (0) (⟨#[]⟩)).cells
    have HP := Lib.hid (H3.out.put3 (.int .i64 (0)) (.int .i64 (0)) (.string (⟨#[]⟩)))
    go_wp2
    refine bodyPost_ret (v := .tuple #[.agg #[.int .i64 (0), .int .i64 (0), .string (⟨#[]⟩)], .int .i64 40]) (by simp [results, Tryd.results7, go_sem, t0, t1, t2]) rfl ⟨?_, HP.out⟩
    rw [HX.out]
    rfl
  · have hk : ak = 3 := by have := HK.out; rwa [beq_iff_eq] at this
    have HX1 := Lib.hid (HX0.out.trans (if_neg (by rw [hk]; decide)))
    clear hk
    have HX := Lib.hid ((HX1.out.trans (if_neg (by decide))).trans (if_pos (by trivial)))
    have hz : IntKind.i64.wrap (sa.size : Int) = (sa.size : Int) := wrap_in (by have := HA.out.2; simp only at this; unfold inI; omega)
    have HV := Lib.hid (fun W => vInt_all (sa.size : Int) W)
    go_wp2_with fail
    refine (HV.out _).mono ?_
    rintro r w5 ⟨rfl, hb5⟩
    have H4 := Lib.hid (H3.out.below hb5)
    clear hb5 a0 a1 a2 r0 r1 r2 f0 f1 f2 H3
    have H3 := H4
    clear H4
    obtain ⟨a0, a1, a2⟩ := H3.out.a.cells
    simp only at a0 a1 a2
    obtain ⟨r0, r1, r2⟩ := H3.out.r.cells
    have f0 := H3.out.r.frozen 0
    have f1 := H3.out.r.frozen 1
    have f2 := H3.out.r.frozen 2
    obtain ⟨t0, t1, t2⟩ := (H3.out.r.set3' (1) ((sa.size : Int)) (⟨#[]⟩)).cells
    have HP := Lib.hid (H3.out.put3 (.int .i64 (1)) (.int .i64 ((sa.size : Int))) (.string (⟨#[]⟩)))
    go_wp2
    refine bodyPost_ret (v := .tuple #[.agg #[.int .i64 (1), .int .i64 ((sa.size : Int)), .string (⟨#[]⟩)], .int .i64 0]) (by simp [results, Tryd.results7, go_sem, t0, t1, t2]) rfl ⟨?_, HP.out⟩
    rw [HX.out]
    rfl
set_option maxRecDepth 100000 in
set_option maxHeartbeats 4000000 in
theorem gOneX_any (op : Int) (hop : op ≠ 3 ∧ op ≠ 4 ∧ op ≠ 5) (a : V) (w : World) : Calls Tryd.prog 7 #[.int .i64 op, a.val] w (RetG (oneV op a) w) := by
  have hX : oneV op a = (V0, 1) := by
    unfold oneV
    rw [if_pos (by unfold kindG; rw [if_neg hop.1, if_neg hop.2.1, if_neg hop.2.2])]
  rw [hX]
  obtain ⟨ak, an, sa⟩ := a
  have d3 : (op == 3) = false := by rw [beq_eq_false_iff_ne]; omega
  have d4 : (op == 4) = false := by rw [beq_eq_false_iff_ne]; omega
  have d5 : (op == 5) = false := by rw [beq_eq_false_iff_ne]; omega
  have HX : Hid ((V0, (1 : Int)) = (V0, 1)) := Lib.hid rfl
  clear hX hop
  simp only [V.val]
  have H3 := Lib.hid (Duo.new w ⟨ak, an, sa⟩)
  go_enter Tryd.func7, Tryd.ntmps7
  go_upto_region 1 with fail
  simp only [duo_def]
  obtain ⟨g, hg⟩ : ∃ g, w.heap.size = g := ⟨_, rfl⟩
  rw [hg] at H3
  obtain ⟨w3, hw3⟩ : ∃ y, duo w ⟨ak, an, sa⟩ = y := ⟨_, rfl⟩
  rw [hw3] at H3 ⊢
  simp only [hg]
  clear hw3 hg
  obtain ⟨a0, a1, a2⟩ := H3.out.a.cells
  simp only at a0 a1 a2
  obtain ⟨r0, r1, r2⟩ := H3.out.r.cells
  have f0 := H3.out.r.frozen 0
  have f1 := H3.out.r.frozen 1
  have f2 := H3.out.r.frozen 2
  obtain ⟨t0, t1, t2⟩ := (H3.out.r.set3' (0) (0) (⟨#[]⟩)).cells
  have HP := Lib.hid (H3.out.put3 (.int .i64 (0)) (.int .i64 (0)) (.string (⟨#[]⟩)))
  go_wp2
  refine bodyPost_ret (v := .tuple #[.agg #[.int .i64 (0), .int .i64 (0), .string (⟨#[]⟩)], .int .i64 1]) (by simp [results, Tryd.results7, go_sem, t0, t1, t2]) rfl ⟨?_, HP.out⟩
  rfl
theorem gOne_any (op : Int) (a : V) (w : World) (ha : okV a) : Calls Tryd.prog 7 #[.int .i64 op, a.val] w (RetG (oneV op a) w) := by
  by_cases h : op ≠ 3 ∧ op ≠ 4 ∧ op ≠ 5
  · exact gOneX_any op h a w
  · have h : op = 3 ∨ op = 4 ∨ op = 5 := by omega
    rcases h with rfl | rfl | rfl
    · exact gOne3_any a w ha
    · exact gOne4_any a w ha
    · exact gOne5_any a w ha
end Go.Proofs.YtidomoibhjgkjaaDoor
