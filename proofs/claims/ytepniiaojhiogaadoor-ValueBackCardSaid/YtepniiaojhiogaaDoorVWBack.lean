/-
  The walk of ValueBack.
-/
import Derived.Test.YtepniiaojhiogaaDoorVEq
import Derived.Test.YtepniiaojhiogaaDoorArgs
namespace Go.Proofs.YtepniiaojhiogaaDoor.valueBack
open Go.RowKit

theorem retTake_agg (k n : Int) (s : ByteArray) (m : Nat) (e : Int) : retTake (⟨k, n, s⟩, m, e) = .returned (.tuple #[.agg #[.int .i64 k, .int .i64 n, .string s], .int .i64 m, .int .i64 e]) := rfl
theorem below_drewN (w : World) (n : Nat) : Below w.heap.size w (w.drewN n) := by
  induction n with
  | zero => exact Below.refl _ _
  | succ n ih => exact ih.drew

theorem take_bounds {b : List UInt8} {tk tn : Int} {ts : ByteArray} {tm : Nat} {te : Int} (h : takeV b = (⟨tk, tn, ts⟩, tm, te)) : -9223372036854775808 ≤ tn ∧ tn ≤ 9223372036854775807 := by
  have hz : ∀ t : List UInt8, -9223372036854775808 ≤ zag (uintOf t 0 maxU).1 ∧ zag (uintOf t 0 maxU).1 ≤ 9223372036854775807 := fun t => by
    have h : (uintOf t 0 maxU).1 ≤ 18446744073709551615 := uintOf_le t 0 maxU
    generalize (uintOf t 0 maxU).1 = u at h
    unfold zag
    split <;> omega
  have he : ∀ (v : V) (e m : Nat), -9223372036854775808 ≤ v.n → v.n ≤ 9223372036854775807 → endV v e m = (⟨tk, tn, ts⟩, tm, te) → -9223372036854775808 ≤ tn ∧ tn ≤ 9223372036854775807 := fun v e m a c hh => by
    unfold endV V0 at hh
    split at hh
    · injection hh with hh; injection hh with _ hh; omega
    · split at hh
      · injection hh with hh; injection hh with _ hh; omega
      · injection hh with hh
        rw [hh] at a c
        exact ⟨a, c⟩
  cases b with
  | nil =>
    unfold takeV V0 at h
    injection h with h; injection h with _ h; omega
  | cons c t =>
    rw [takeV_cons] at h
    split at h
    · exact he _ _ _ (hz t).1 (hz t).2 h
    · split at h
      · exact he _ _ _ (by simp) (by simp) h
      · unfold V0 at h
        injection h with h; injection h with _ h; omega

theorem put_len {v : V} (h : rightV v = 0) (h0 : -9223372036854775808 ≤ v.n) (h1 : v.n ≤ 9223372036854775807) : (putV v).length ≤ 1000 := by
  rw [put_right h]
  split
  · next hk =>
    have hs := (right_text h hk).1
    have hl : v.s.data.toList.length = v.s.size := rfl
    have := un_ten (n := v.s.size) (by omega)
    rw [List.length_cons, unText, List.length_append, hl]
    omega
  · have := unInt_len v.n h0 h1
    rw [List.length_cons]
    omega

set_option maxRecDepth 100000 in
set_option maxHeartbeats 4000000 in
theorem walk_long (K : ValueC) (k n : Int) (s : ByteArray) (m b : List UInt8) (A1 A2 : Option Addr) (c1 c2 : Nat) (w : World) (hm : m.length ≤ 9223372036854775807) (hbl : b.length ≤ 9223372036854775807) (hlong : 1000 < s.size ∨ 1000 < m.length ∨ 1000 < b.length) :
    Calls Tryd.prog 5 #[.agg #[.int .i64 k, .int .i64 n, .string s], .slice A1 m.length c1, .slice A2 b.length c2] w fun r w' => r = .returned (.bool true) ∧ Below w.heap.size w w' := by
  have HL := Lib.hid (fun (W wx : World) (hb : Below W.heap.size W wx) => call_from hb (liveV_any K wx))
  have hb0 : Below w.heap.size w (w.alloc (.cells #[.int .i64 k, .int .i64 n, .string s] 23)) := box_below _ _ _
  have hx0 := Boxed.new w k n s
  generalize hw0 : w.alloc (.cells #[.int .i64 k, .int .i64 n, .string s] 23) = w0 at hb0 hx0
  have HB0 := Lib.hid hb0
  have HX0 := Lib.hid hx0
  have HW0 := Lib.hid hw0
  have hd : decide ((1000 : Int) < (s.size : Int)) = true ∨ (decide ((1000 : Int) < (s.size : Int)) = false ∧ decide ((1000 : Int) < (m.length : Int)) = true) ∨ (decide ((1000 : Int) < (s.size : Int)) = false ∧ decide ((1000 : Int) < (m.length : Int)) = false ∧ decide ((1000 : Int) < (b.length : Int)) = true) := by
    simp only [decide_eq_true_iff, decide_eq_false_iff_not]
    omega
  clear hlong K hb0 hx0 hw0
  rcases hd with d1 | ⟨d1, d2⟩ | ⟨d1, d2, d3⟩
  all_goals
    go_enter Tryd.func5, Tryd.ntmps5
    go_wp2_with fail
    rw [HW0.out]
    refine (HL.out w0 _ (Below.refl _ _)).mono ?_
    rintro r w1 ⟨rfl, hb⟩
    have HB1 := Lib.hid hb
    obtain ⟨b0, b1, b2⟩ := (HX0.out.below hb).cells
    clear hb
    go_wp2_with fail
    refine (HL.out w0 _ HB1.out).mono ?_
    rintro r w2 ⟨rfl, hb⟩
    have HB2 := Lib.hid hb
    clear hb
    go_wp2_with fail
    go_ret
    exact ⟨rfl, HB0.out.trans (HB2.out.mono HB0.out.size)⟩

set_option maxRecDepth 100000 in
set_option maxHeartbeats 4000000 in
theorem walk_short (K : ValueC) (k n : Int) (s : ByteArray) (m b : List UInt8) (A1 A2 : Option Addr) (c1 c2 : Nat) (w : World) (h0 : -9223372036854775808 ≤ n) (h1 : n ≤ 9223372036854775807) (hs : s.size ≤ 1000) (hm : m.length ≤ 1000) (hbl : b.length ≤ 1000)
    (hl1 : m.length ≤ c1) (hcm1 : c1 ≤ maxLen) (hz1 : A1 = none → c1 = 0) (hr1 : Rd w 0 w.heap.size A1 m) (hl2 : b.length ≤ c2) (hcm2 : c2 ≤ maxLen) (hz2 : A2 = none → c2 = 0) (hr2 : Rd w 0 w.heap.size A2 b) :
    Calls Tryd.prog 5 #[.agg #[.int .i64 k, .int .i64 n, .string s], .slice A1 m.length c1, .slice A2 b.length c2] w fun r w' => r = .returned (.bool true) ∧ Below w.heap.size w w' := by
  have d1 : decide ((1000 : Int) < (s.size : Int)) = false := by rw [decide_eq_false_iff_not]; omega
  have d2 : decide ((1000 : Int) < (m.length : Int)) = false := by rw [decide_eq_false_iff_not]; omega
  have d3 : decide ((1000 : Int) < (b.length : Int)) = false := by rw [decide_eq_false_iff_not]; omega
  have HL := Lib.hid (fun (W wx : World) (hb : Below W.heap.size W wx) => call_from hb (liveV_any K wx))
  have hb0 : Below w.heap.size w (w.alloc (.cells #[.int .i64 k, .int .i64 n, .string s] 23)) := box_below _ _ _
  have hx0 := Boxed.new w k n s
  generalize hw0 : w.alloc (.cells #[.int .i64 k, .int .i64 n, .string s] 23) = w0 at hb0 hx0
  have HB0 := Lib.hid hb0
  have HX0 := Lib.hid hx0
  have HW0 := Lib.hid hw0
  have HR1 := Lib.hid (hr1.below hb0 (Nat.le_refl _))
  have HR2 := Lib.hid (hr2.below hb0 (Nat.le_refl _))
  clear hb0 hx0 hw0 hr1 hr2
  obtain ⟨tk, tn, ts, tm, te, hq⟩ : ∃ tk tn ts tm te, takeV b = (⟨tk, tn, ts⟩, tm, te) := ⟨_, _, _, _, _, rfl⟩
  have htake : ∀ wx, Below w0.heap.size w0 wx → Calls Tryd.prog 11 #[.slice A2 b.length c2] wx fun r w' => r = .returned (.tuple #[.agg #[.int .i64 tk, .int .i64 tn, .string ts], .int .i64 tm, .int .i64 te]) ∧ Below wx.heap.size wx w' := fun wx hb => by
    have h := K.take b A2 c2 wx hl2 (by omega) hcm2 hz2 ((HR2.out.below hb HB0.out.size).wide (Nat.le_refl _) (Nat.le_trans HB0.out.size hb.size))
    rw [hq, retTake_agg] at h
    exact h
  have HT := Lib.hid htake
  have HPutV : Hid (∀ wx : World, Calls Tryd.prog 16 #[.agg #[.int .i64 k, .int .i64 n, .string s]] wx (Ret (putV ⟨k, n, s⟩) wx)) := Lib.hid fun wx => K.put ⟨k, n, s⟩ wx h0 h1
  have HRiV : Hid (∀ W wx : World, Below W.heap.size W wx → Calls Tryd.prog 13 #[.agg #[.int .i64 k, .int .i64 n, .string s]] wx fun r w' => r = .returned (.int .i64 (rightV ⟨k, n, s⟩)) ∧ Below W.heap.size W w') := Lib.hid fun W wx hb => call_from hb (K.right ⟨k, n, s⟩ wx)
  have hcm2' : c2 ≤ 9223372036854775807 := by unfold maxLen at hcm2; omega
  have hcm1' : c1 ≤ 9223372036854775807 := by unfold maxLen at hcm1; omega
  by_cases hte : te = 0
  · subst hte
    obtain ⟨hf1, hf2, hf3⟩ := take_form hq
    obtain ⟨tb0, tb1⟩ := take_bounds hq
    have HPutT : Hid (∀ wx : World, Calls Tryd.prog 16 #[.agg #[.int .i64 tk, .int .i64 tn, .string ts]] wx (Ret (b.take tm) wx)) := Lib.hid fun wx => by
      have h := K.put ⟨tk, tn, ts⟩ wx tb0 tb1
      rw [hf3] at h
      exact h
    have HRiT : Hid (∀ W wx : World, Below W.heap.size W wx → Calls Tryd.prog 13 #[.agg #[.int .i64 tk, .int .i64 tn, .string ts]] wx fun r w' => r = .returned (.int .i64 0) ∧ Below W.heap.size W w') := Lib.hid fun W wx hb => by
      have h := call_from hb (K.right ⟨tk, tn, ts⟩ wx)
      rw [hf1] at h
      exact h
    have hgt : decide ((b.length : Int) < (tm : Int)) = false := by rw [decide_eq_false_iff_not]; omega
    have hgt2 : decide (b.length < tm) = false := by rw [decide_eq_false_iff_not]; omega
    have hlo : (0 : Int) ≤ (tm : Int) := by omega
    have hhi : (tm : Int) ≤ (c2 : Int) := by omega
    have htl : (b.take tm).length = tm := by rw [List.length_take]; omega
    have HTL := Lib.hid htl
    clear hq htake hf3 hf1 htl
    go_enter Tryd.func5, Tryd.ntmps5
    go_wp2_with fail
    rw [HW0.out]
    refine (HL.out w0 _ (Below.refl _ _)).mono ?_
    rintro r w1 ⟨rfl, hb⟩
    have HB1 := Lib.hid hb
    obtain ⟨b0, b1, b2⟩ := (HX0.out.below hb).cells
    clear hb
    go_wp2_with fail
    refine (HT.out _ HB1.out).mono ?_
    rintro r w2 ⟨rfl, hb⟩
    have HB2 := Lib.hid (HB1.out.trans (hb.mono HB1.out.size))
    clear hb b0 b1 b2 HB1
    go_upto_region 4 with fail
    have hx := Boxed.new w2 tk tn ts
    have hb3 := HB2.out.alloc HB2.out.size (.cells #[.int .i64 tk, .int .i64 tn, .string ts] 23)
    generalize hg1 : w2.heap.size = g1 at *
    generalize hw3 : w2.alloc (.cells #[.int .i64 tk, .int .i64 tn, .string ts] 23) = w3 at *
    have HX := Lib.hid hx
    have HB3 := Lib.hid hb3
    have HZ := Lib.hid (HX0.out.below hb3)
    have HR3 := Lib.hid ((HR2.out.below hb3 HB0.out.size).wide (Nat.le_refl _) (Nat.le_trans HB0.out.size hb3.size))
    clear hx hb3 hg1 hw3 HB2
    have keep : ∀ w', Below w3.heap.size w3 w' → w'.cell? ⟨w.heap.size, 0, none⟩ = some (.int .i64 k) ∧ w'.cell? ⟨w.heap.size, 1, none⟩ = some (.int .i64 n) ∧ w'.cell? ⟨w.heap.size, 2, none⟩ = some (.string s) ∧ w'.cell? ⟨g1, 0, none⟩ = some (.int .i64 tk) ∧ w'.cell? ⟨g1, 1, none⟩ = some (.int .i64 tn) ∧ w'.cell? ⟨g1, 2, none⟩ = some (.string ts) ∧ Below w3.heap.size w3 w' := fun w' h =>
      have m1 := (HZ.out.below h).cells
      have m2 := (HX.out.below h).cells
      ⟨m1.1, m1.2.1, m1.2.2, m2.1, m2.2.1, m2.2.2, h⟩
    have KEEP := Lib.hid keep
    obtain ⟨e0, e1, e2, e3, e4, e5, _⟩ := keep _ (Below.refl _ _)
    clear keep
    go_region_held3 (fun w' => w'.cell? ⟨w.heap.size, 0, none⟩ = some (.int .i64 k) ∧ w'.cell? ⟨w.heap.size, 1, none⟩ = some (.int .i64 n) ∧ w'.cell? ⟨w.heap.size, 2, none⟩ = some (.string s) ∧ w'.cell? ⟨g1, 0, none⟩ = some (.int .i64 tk) ∧ w'.cell? ⟨g1, 1, none⟩ = some (.int .i64 tn) ∧ w'.cell? ⟨g1, 2, none⟩ = some (.string ts) ∧ Below w3.heap.size w3 w')
      (first | with_reducible exact KEEP.out _ hb6 | with_reducible exact KEEP.out _ (Below.refl _ _).drew)
      (first
        | (go_at_call 13; (with_reducible refine (HRiT.out w3 _ (by go_split_ands; assumption)).mono ?_); rintro r w' ⟨rfl, hb6⟩)
        | (go_at_call 16; (with_reducible refine (HPutT.out _).mono ?_); rintro r w' ⟨A5, c5, rfl, hc5, hm5, z5, hr5, hb7⟩; have hb6 := Below.trans hb6 (hb7.mono (Below.size hb6)))
        | (go_at_call 15; (with_reducible refine (equal_same A5 A2 c5 c2 tm tm _ _ _ _ (b.take tm) _ HTL.out.symm HTL.out.symm hr5 (Rd.take (Rd.below HR3.out hb6 (Nat.le_refl _)) tm)).mono ?_); rintro r w' ⟨rfl, rfl⟩))
    have HB4 := Lib.hid (HB3.out.trans (hb6.mono HB3.out.size))
    clear hb6
    have HZ4 := Lib.hid (HX0.out.below HB4.out)
    obtain ⟨e0, e1, e2⟩ := HZ4.out.cells
    by_cases hr : rightV ⟨k, n, s⟩ = 0
    · have HTP := Lib.hid (take_put hr h0 h1 m)
      have hpl : (putV ⟨k, n, s⟩ ++ m).length ≤ 1000000 := by
        have hk := put_len hr h0 h1
        rw [List.length_append]
        omega
      have HPL := Lib.hid hpl
      rw [hr] at HRiV
      have heq : ∀ w, (Op.equalIn 10000 23 (.agg #[.int .i64 k, .int .i64 n, .string s]) (.agg #[.int .i64 k, .int .i64 n, .string s])).run Tryd.prog w = .ok true w := fun w => by rw [eq_in, eqV_self]
      have HEQ := Lib.hid heq
      generalize putV ⟨k, n, s⟩ = pl at *
      obtain ⟨L, hL⟩ : ∃ L, L = pl ++ m := ⟨_, rfl⟩
      rw [← hL] at HTP HPL
      have HLL := Lib.hid hL
      clear hr hpl heq hL
      go_wp2_with fail
      refine (HPutV.out _).mono ?_
      rintro r w5 ⟨A5, c5, rfl, hc5, hm5, z5, hr5, hb⟩
      have HB5 := Lib.hid (HB4.out.trans (hb.mono HB4.out.size))
      have HR5 := Lib.hid (hr5.wide (Nat.zero_le _) (Nat.le_refl _))
      have HX5 := Lib.hid (HZ4.out.below hb)
      clear hb hr5 e0 e1 e2
      obtain ⟨e0, e1, e2⟩ := HX5.out.cells
      go_wp2_with fail
      refine (HRiV.out w5 _ (Below.refl _ _)).mono ?_
      rintro r w6 ⟨rfl, hb⟩
      have HB6 := Lib.hid (HB5.out.trans (hb.mono HB5.out.size))
      have HR6 := Lib.hid ((HR5.out.below hb (Nat.le_refl _)).wide (Nat.le_refl _) hb.size)
      have HX6 := Lib.hid (HX5.out.below hb)
      clear hb e0 e1 e2
      have HM6 := Lib.hid ((HR1.out.below HB6.out HB0.out.size).wide (Nat.le_refl _) (Nat.le_trans HB0.out.size HB6.out.size))
      go_wp2_with fail
      refine (fJoin_pair w6 A5 A1 c5 c1 pl m L HLL.out z5 hz1 HR6.out HM6.out (by have := HPL.out; omega)).mono ?_
      rintro r w7 ⟨A7, c7, rfl, hc7, hm7, z7, hr7, hb⟩
      have HB7 := Lib.hid (HB6.out.trans (hb.mono HB6.out.size))
      have HX7 := Lib.hid (HX6.out.below hb)
      have ht := K.take L A7 c7 w7 hc7 HPL.out hm7 z7 (hr7.wide (Nat.zero_le _) (Nat.le_refl _))
      rw [HTP.out, retTake_agg] at ht
      have HTake := Lib.hid ht
      clear hb hr7 ht
      go_wp2_with fail
      refine (HTake.out).mono ?_
      rintro r w8 ⟨rfl, hb⟩
      have HB8 := Lib.hid (HB7.out.trans (hb.mono HB7.out.size))
      have HX8 := Lib.hid (HX7.out.below hb)
      have hlt := HX8.out.lt
      clear hb
      obtain ⟨e0, e1, e2⟩ := HX8.out.cells
      have hq := HEQ.out
      go_wp2_with fail
      go_ret
      exact ⟨rfl, HB0.out.trans ((HB8.out.alloc HB8.out.size _).mono HB0.out.size)⟩
    · have hrb : (rightV ⟨k, n, s⟩ != 0) = true := by simpa using hr
      rw [put_wrong hr] at HPutV
      generalize rightV ⟨k, n, s⟩ = er at *
      clear hr
      go_wp2_with fail
      refine (HPutV.out _).mono ?_
      rintro r w5 ⟨A5, c5, rfl, hc5, hm5, z5, hr5, hb⟩
      have HB5 := Lib.hid (HB4.out.trans (hb.mono HB4.out.size))
      have HX5 := Lib.hid (HZ4.out.below hb)
      clear hb hr5 e0 e1 e2
      obtain ⟨e0, e1, e2⟩ := HX5.out.cells
      go_wp2_with fail
      refine (HRiV.out w5 _ (Below.refl _ _)).mono ?_
      rintro r w6 ⟨rfl, hb⟩
      have HB6 := Lib.hid (HB5.out.trans (hb.mono HB5.out.size))
      clear hb e0 e1 e2
      go_wp2_with fail
      go_ret
      exact ⟨rfl, HB0.out.trans (HB6.out.mono HB0.out.size)⟩
  · have hne : (te == 0) = false := by simpa using hte
    clear hq htake hte
    go_enter Tryd.func5, Tryd.ntmps5
    go_wp2_with fail
    rw [HW0.out]
    refine (HL.out w0 _ (Below.refl _ _)).mono ?_
    rintro r w1 ⟨rfl, hb⟩
    have HB1 := Lib.hid hb
    obtain ⟨b0, b1, b2⟩ := (HX0.out.below hb).cells
    clear hb
    go_wp2_with fail
    refine (HT.out _ HB1.out).mono ?_
    rintro r w2 ⟨rfl, hb⟩
    have HB2 := Lib.hid (HB1.out.trans (hb.mono HB1.out.size))
    clear hb b0 b1 b2 HB1
    go_upto_region 4 with fail
    have hb3 := HB2.out.alloc HB2.out.size (.cells #[.int .i64 tk, .int .i64 tn, .string ts] 23)
    generalize hw3 : w2.alloc (.cells #[.int .i64 tk, .int .i64 tn, .string ts] 23) = w3 at *
    have HB3 := Lib.hid hb3
    clear hb3 hw3 HB2
    go_quiet (fail)
    have HB4 := Lib.hid (HB3.out.trans ((below_drewN w3 nq).mono HB3.out.size))
    generalize w3.drewN nq = w4 at *
    have HZ4 := Lib.hid (HX0.out.below HB4.out)
    obtain ⟨e0, e1, e2⟩ := HZ4.out.cells
    by_cases hr : rightV ⟨k, n, s⟩ = 0
    · have HTP := Lib.hid (take_put hr h0 h1 m)
      have hpl : (putV ⟨k, n, s⟩ ++ m).length ≤ 1000000 := by
        have hk := put_len hr h0 h1
        rw [List.length_append]
        omega
      have HPL := Lib.hid hpl
      rw [hr] at HRiV
      have heq : ∀ w, (Op.equalIn 10000 23 (.agg #[.int .i64 k, .int .i64 n, .string s]) (.agg #[.int .i64 k, .int .i64 n, .string s])).run Tryd.prog w = .ok true w := fun w => by rw [eq_in, eqV_self]
      have HEQ := Lib.hid heq
      generalize putV ⟨k, n, s⟩ = pl at *
      obtain ⟨L, hL⟩ : ∃ L, L = pl ++ m := ⟨_, rfl⟩
      rw [← hL] at HTP HPL
      have HLL := Lib.hid hL
      clear hr hpl heq hL
      go_wp2_with fail
      refine (HPutV.out _).mono ?_
      rintro r w5 ⟨A5, c5, rfl, hc5, hm5, z5, hr5, hb⟩
      have HB5 := Lib.hid (HB4.out.trans (hb.mono HB4.out.size))
      have HR5 := Lib.hid (hr5.wide (Nat.zero_le _) (Nat.le_refl _))
      have HX5 := Lib.hid (HZ4.out.below hb)
      clear hb hr5 e0 e1 e2
      obtain ⟨e0, e1, e2⟩ := HX5.out.cells
      go_wp2_with fail
      refine (HRiV.out w5 _ (Below.refl _ _)).mono ?_
      rintro r w6 ⟨rfl, hb⟩
      have HB6 := Lib.hid (HB5.out.trans (hb.mono HB5.out.size))
      have HR6 := Lib.hid ((HR5.out.below hb (Nat.le_refl _)).wide (Nat.le_refl _) hb.size)
      have HX6 := Lib.hid (HX5.out.below hb)
      clear hb e0 e1 e2
      have HM6 := Lib.hid ((HR1.out.below HB6.out HB0.out.size).wide (Nat.le_refl _) (Nat.le_trans HB0.out.size HB6.out.size))
      go_wp2_with fail
      refine (fJoin_pair w6 A5 A1 c5 c1 pl m L HLL.out z5 hz1 HR6.out HM6.out (by have := HPL.out; omega)).mono ?_
      rintro r w7 ⟨A7, c7, rfl, hc7, hm7, z7, hr7, hb⟩
      have HB7 := Lib.hid (HB6.out.trans (hb.mono HB6.out.size))
      have HX7 := Lib.hid (HX6.out.below hb)
      have ht := K.take L A7 c7 w7 hc7 HPL.out hm7 z7 (hr7.wide (Nat.zero_le _) (Nat.le_refl _))
      rw [HTP.out, retTake_agg] at ht
      have HTake := Lib.hid ht
      clear hb hr7 ht
      go_wp2_with fail
      refine (HTake.out).mono ?_
      rintro r w8 ⟨rfl, hb⟩
      have HB8 := Lib.hid (HB7.out.trans (hb.mono HB7.out.size))
      have HX8 := Lib.hid (HX7.out.below hb)
      have hlt := HX8.out.lt
      clear hb
      obtain ⟨e0, e1, e2⟩ := HX8.out.cells
      have hq := HEQ.out
      go_wp2_with fail
      go_ret
      exact ⟨rfl, HB0.out.trans ((HB8.out.alloc HB8.out.size _).mono HB0.out.size)⟩
    · have hrb : (rightV ⟨k, n, s⟩ != 0) = true := by simpa using hr
      rw [put_wrong hr] at HPutV
      generalize rightV ⟨k, n, s⟩ = er at *
      clear hr
      go_wp2_with fail
      refine (HPutV.out _).mono ?_
      rintro r w5 ⟨A5, c5, rfl, hc5, hm5, z5, hr5, hb⟩
      have HB5 := Lib.hid (HB4.out.trans (hb.mono HB4.out.size))
      have HX5 := Lib.hid (HZ4.out.below hb)
      clear hb hr5 e0 e1 e2
      obtain ⟨e0, e1, e2⟩ := HX5.out.cells
      go_wp2_with fail
      refine (HRiV.out w5 _ (Below.refl _ _)).mono ?_
      rintro r w6 ⟨rfl, hb⟩
      have HB6 := Lib.hid (HB5.out.trans (hb.mono HB5.out.size))
      clear hb e0 e1 e2
      go_wp2_with fail
      go_ret
      exact ⟨rfl, HB0.out.trans (HB6.out.mono HB0.out.size)⟩

theorem walk (K : ValueC) (v : V) (m b : List UInt8) (A1 A2 : Option Addr) (c1 c2 : Nat) (w : World) (h0 : -9223372036854775808 ≤ v.n) (h1 : v.n ≤ 9223372036854775807)
    (hl1 : m.length ≤ c1) (hcm1 : c1 ≤ maxLen) (hz1 : A1 = none → c1 = 0) (hr1 : Rd w 0 w.heap.size A1 m) (hl2 : b.length ≤ c2) (hcm2 : c2 ≤ maxLen) (hz2 : A2 = none → c2 = 0) (hr2 : Rd w 0 w.heap.size A2 b) :
    Calls Tryd.prog 5 #[v.val, .slice A1 m.length c1, .slice A2 b.length c2] w fun r w' => r = .returned (.bool true) ∧ Below w.heap.size w w' := by
  obtain ⟨k, n, s⟩ := v
  simp only at h0 h1
  by_cases h : s.size ≤ 1000 ∧ m.length ≤ 1000 ∧ b.length ≤ 1000
  · exact walk_short K k n s m b A1 A2 c1 c2 w h0 h1 h.1 h.2.1 h.2.2 hl1 hcm1 hz1 hr1 hl2 hcm2 hz2 hr2
  · unfold maxLen at hcm1 hcm2
    exact walk_long K k n s m b A1 A2 c1 c2 w (by omega) (by omega) (by omega)
end Go.Proofs.YtepniiaojhiogaaDoor.valueBack
