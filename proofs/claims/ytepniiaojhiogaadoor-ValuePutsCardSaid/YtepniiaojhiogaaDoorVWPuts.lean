/-
  The walk of ValuePuts.
-/
import Derived.Test.YtepniiaojhiogaaDoorVEq
import Derived.Test.YtepniiaojhiogaaDoorArgs
namespace Go.Proofs.YtepniiaojhiogaaDoor.valuePuts
open Go.RowKit

theorem retTake_agg (k n : Int) (s : ByteArray) (m : Nat) (e : Int) : retTake (⟨k, n, s⟩, m, e) = .returned (.tuple #[.agg #[.int .i64 k, .int .i64 n, .string s], .int .i64 m, .int .i64 e]) := rfl

set_option maxRecDepth 100000 in
set_option maxHeartbeats 4000000 in
theorem walk (K : ValueC) (v : V) (b : List UInt8) (A : Option Addr) (c : Nat) (w : World) (h0 : -9223372036854775808 ≤ v.n) (h1 : v.n ≤ 9223372036854775807) (hl : b.length ≤ c) (hcm : c ≤ maxLen) (hz : A = none → c = 0) (hr : Rd w 0 w.heap.size A b) :
    Calls Tryd.prog 3 #[v.val, .slice A b.length c] w fun r w' => r = .returned (.bool true) ∧ Below w.heap.size w w' := by
  have hbl : b.length ≤ 9223372036854775807 := by unfold maxLen at hcm; omega
  obtain ⟨k, n, s⟩ := v
  simp only at h0 h1
  have HL := Lib.hid (fun (W wx : World) (hb : Below W.heap.size W wx) => call_from hb (liveV_any K wx))
  show Calls Tryd.prog 3 #[.agg #[.int .i64 k, .int .i64 n, .string s], .slice A b.length c] w _
  have hb0 : Below w.heap.size w (w.alloc (.cells #[.int .i64 k, .int .i64 n, .string s] 23)) := box_below _ _ _
  have hx0 := Boxed.new w k n s
  generalize hw0 : w.alloc (.cells #[.int .i64 k, .int .i64 n, .string s] 23) = w0 at hb0 hx0
  have HB0 := Lib.hid hb0
  have HX0 := Lib.hid hx0
  have HW0 := Lib.hid hw0
  have HR := Lib.hid (hr.below hb0 (Nat.le_refl _))
  clear hb0 hx0 hw0 hr
  by_cases hlong : 1000 < s.size ∨ 1000 < b.length
  · have hd : decide ((1000 : Int) < (s.size : Int)) = true ∨ (decide ((1000 : Int) < (s.size : Int)) = false ∧ decide ((1000 : Int) < (b.length : Int)) = true) := by
      simp only [decide_eq_true_iff, decide_eq_false_iff_not]
      omega
    clear hlong K
    rcases hd with d1 | ⟨d1, d2⟩
    all_goals
      go_enter Tryd.func3, Tryd.ntmps3
      go_wp2_with fail
      rw [HW0.out]
      refine (HL.out w0 _ (Below.refl _ _)).mono ?_
      rintro r w1 ⟨rfl, hb⟩
      have HB1 := Lib.hid hb
      obtain ⟨b0, b1, b2⟩ := (HX0.out.below hb).cells
      clear hb
      go_wp2_with fail
      refine (HL.out w0 _ HB1.out).mono ?_
      rintro r w2 ⟨rfl, hb⟩
      have HB2 := Lib.hid hb
      clear hb
      go_wp2_with fail
      go_ret
      exact ⟨rfl, HB0.out.trans (HB2.out.mono HB0.out.size)⟩
  · have d1 : decide ((1000 : Int) < (s.size : Int)) = false := by rw [decide_eq_false_iff_not]; omega
    have d2 : decide ((1000 : Int) < (b.length : Int)) = false := by rw [decide_eq_false_iff_not]; omega
    have hb1000 : b.length ≤ 1000 := by omega
    clear hlong
    obtain ⟨tk, tn, ts, tm, te, hq⟩ : ∃ tk tn ts tm te, takeV b = (⟨tk, tn, ts⟩, tm, te) := ⟨_, _, _, _, _, rfl⟩
    have htake : ∀ wx, Below w0.heap.size w0 wx → Calls Tryd.prog 11 #[.slice A b.length c] wx fun r w' => r = .returned (.tuple #[.agg #[.int .i64 tk, .int .i64 tn, .string ts], .int .i64 tm, .int .i64 te]) ∧ Below wx.heap.size wx w' := fun wx hb => by
      have h := K.take b A c wx hl (by omega) hcm hz ((HR.out.below hb HB0.out.size).wide (Nat.le_refl _) (Nat.le_trans HB0.out.size hb.size))
      rw [hq, retTake_agg] at h
      exact h
    have hftake : ∀ wx, Below w0.heap.size w0 wx → Calls Tryd.prog 12 #[.slice A b.length c] wx fun r w' => r = .returned (.tuple #[.agg #[.int .i64 tk, .int .i64 tn, .string ts], .int .i64 tm, .int .i64 te]) ∧ Below wx.heap.size wx w' := fun wx hb => by
      have h := fTake_any b A c wx hl (by omega) hcm ((HR.out.below hb HB0.out.size).wide (Nat.le_refl _) (Nat.le_trans HB0.out.size hb.size))
      rw [hq, retTake_agg] at h
      exact h
    have HT := Lib.hid htake
    have HFT := Lib.hid hftake
    have HPut : Hid (∀ wx : World, Calls Tryd.prog 16 #[.agg #[.int .i64 k, .int .i64 n, .string s]] wx (Ret (putV ⟨k, n, s⟩) wx)) := Lib.hid fun wx => K.put ⟨k, n, s⟩ wx h0 h1
    have HFPut : Hid (∀ wx : World, Calls Tryd.prog 17 #[.agg #[.int .i64 k, .int .i64 n, .string s]] wx (Ret (putV ⟨k, n, s⟩) wx)) := Lib.hid fun wx => fPut_any ⟨k, n, s⟩ wx h0 h1
    have HRi : Hid (∀ W wx : World, Below W.heap.size W wx → Calls Tryd.prog 13 #[.agg #[.int .i64 k, .int .i64 n, .string s]] wx fun r w' => r = .returned (.int .i64 (rightV ⟨k, n, s⟩)) ∧ Below W.heap.size W w') := Lib.hid fun W wx hb => call_from hb (K.right ⟨k, n, s⟩ wx)
    have HFRi : Hid (∀ W wx : World, Below W.heap.size W wx → Calls Tryd.prog 14 #[.agg #[.int .i64 k, .int .i64 n, .string s]] wx fun r w' => r = .returned (.int .i64 (rightV ⟨k, n, s⟩)) ∧ Below W.heap.size W w') := Lib.hid fun W wx hb => call_from hb (fRight_any ⟨k, n, s⟩ wx)
    have heq : ∀ w, (Op.equalIn 10000 23 (.agg #[.int .i64 tk, .int .i64 tn, .string ts]) (.agg #[.int .i64 tk, .int .i64 tn, .string ts])).run Tryd.prog w = .ok true w := fun w => by rw [eq_in, eqV_self]
    have HEQ := Lib.hid heq
    generalize rightV ⟨k, n, s⟩ = er at HRi HFRi
    generalize putV ⟨k, n, s⟩ = pl at HPut HFPut
    clear K hq htake hftake heq
    go_enter Tryd.func3, Tryd.ntmps3
    go_wp2_with fail
    rw [HW0.out]
    refine (HL.out w0 _ (Below.refl _ _)).mono ?_
    rintro r w1 ⟨rfl, hb⟩
    have HB1 := Lib.hid hb
    obtain ⟨b0, b1, b2⟩ := (HX0.out.below hb).cells
    clear hb
    go_wp2_with fail
    refine (HT.out _ HB1.out).mono ?_
    rintro r w2 ⟨rfl, hb⟩
    have HB2 := Lib.hid (HB1.out.trans (hb.mono HB1.out.size))
    clear hb b0 b1 b2 HB1
    go_upto_region 4 with fail
    have hx := Boxed.new w2 tk tn ts
    have hb3 := HB2.out.alloc HB2.out.size (.cells #[.int .i64 tk, .int .i64 tn, .string ts] 23)
    generalize hg1 : w2.heap.size = g1 at *
    generalize hw3 : w2.alloc (.cells #[.int .i64 tk, .int .i64 tn, .string ts] 23) = w3 at *
    have HX := Lib.hid hx
    have HB3 := Lib.hid hb3
    clear hx hb3 hg1 hw3 HB2
    go_wp2_with fail
    refine (HFT.out _ HB3.out).mono ?_
    rintro r w4 ⟨rfl, hb⟩
    have hx1 := HX.out.below hb
    have hb4 := HB3.out.trans (hb.mono HB3.out.size)
    clear hb
    go_upto_region 5 with fail
    have hy := Boxed.new w4 tk tn ts
    have hx2 := hx1.below ((Below.refl _ _).alloc (Nat.le_refl _) (.cells #[.int .i64 tk, .int .i64 tn, .string ts] 23))
    have hb5 := hb4.alloc hb4.size (.cells #[.int .i64 tk, .int .i64 tn, .string ts] 23)
    generalize hg2 : w4.heap.size = g2 at *
    generalize hw5 : w4.alloc (.cells #[.int .i64 tk, .int .i64 tn, .string ts] 23) = w5 at *
    have HX2 := Lib.hid hx2
    have HY := Lib.hid hy
    have HZ := Lib.hid (HX0.out.below hb5)
    have HB5 := Lib.hid hb5
    clear hx1 hx2 hy hb4 hb5 hg2 hw5 HX HB3
    have keep : ∀ w', Below w5.heap.size w5 w' → w'.cell? ⟨w.heap.size, 0, none⟩ = some (.int .i64 k) ∧ w'.cell? ⟨w.heap.size, 1, none⟩ = some (.int .i64 n) ∧ w'.cell? ⟨w.heap.size, 2, none⟩ = some (.string s) ∧ w'.cell? ⟨g1, 0, none⟩ = some (.int .i64 tk) ∧ w'.cell? ⟨g1, 1, none⟩ = some (.int .i64 tn) ∧ w'.cell? ⟨g1, 2, none⟩ = some (.string ts) ∧ w'.cell? ⟨g2, 0, none⟩ = some (.int .i64 tk) ∧ w'.cell? ⟨g2, 1, none⟩ = some (.int .i64 tn) ∧ w'.cell? ⟨g2, 2, none⟩ = some (.string ts) ∧ Below w5.heap.size w5 w' := fun w' h =>
      have m1 := (HZ.out.below h).cells
      have m2 := (HX2.out.below h).cells
      have m3 := (HY.out.below h).cells
      ⟨m1.1, m1.2.1, m1.2.2, m2.1, m2.2.1, m2.2.2, m3.1, m3.2.1, m3.2.2, h⟩
    have KEEP := Lib.hid keep
    obtain ⟨c0, c1, c2, c3, c4, c5, c6, c7, c8, _⟩ := keep _ (Below.refl _ _)
    have hq := HEQ.out
    clear keep
    go_region_held3 (fun w' => w'.cell? ⟨w.heap.size, 0, none⟩ = some (.int .i64 k) ∧ w'.cell? ⟨w.heap.size, 1, none⟩ = some (.int .i64 n) ∧ w'.cell? ⟨w.heap.size, 2, none⟩ = some (.string s) ∧ w'.cell? ⟨g1, 0, none⟩ = some (.int .i64 tk) ∧ w'.cell? ⟨g1, 1, none⟩ = some (.int .i64 tn) ∧ w'.cell? ⟨g1, 2, none⟩ = some (.string ts) ∧ w'.cell? ⟨g2, 0, none⟩ = some (.int .i64 tk) ∧ w'.cell? ⟨g2, 1, none⟩ = some (.int .i64 tn) ∧ w'.cell? ⟨g2, 2, none⟩ = some (.string ts) ∧ Below w5.heap.size w5 w')
      (first | with_reducible exact KEEP.out _ hb6 | with_reducible exact KEEP.out _ (Below.refl _ _).drew)
      (first
        | (go_at_call 13; (with_reducible refine (HRi.out w5 _ (by go_split_ands; assumption)).mono ?_); rintro r w' ⟨rfl, hb6⟩)
        | (go_at_call 14; (with_reducible refine (HFRi.out w5 _ (by go_split_ands; assumption)).mono ?_); rintro r w' ⟨rfl, hb6⟩)
        | (go_at_call 16; (with_reducible refine (HPut.out _).mono ?_); rintro r w' ⟨A3, c3, rfl, hc3, hm3, z3, hr3, hb7⟩; have hb6 := Below.trans hb6 (hb7.mono (Below.size hb6)); have hr3 := hr3.wide (Nat.zero_le _) (Nat.le_refl _); (try have hr4 := Rd.wide (Rd.below hr4 hb7 (Nat.le_refl _)) (Nat.le_refl _) hb7.size))
        | (go_at_call 17; (with_reducible refine (HFPut.out _).mono ?_); rintro r w' ⟨A4, c4, rfl, hc4, hm4, z4, hr4, hb7⟩; have hb6 := Below.trans hb6 (hb7.mono (Below.size hb6)); have hr4 := hr4.wide (Nat.zero_le _) (Nat.le_refl _); (try have hr3 := Rd.wide (Rd.below hr3 hb7 (Nat.le_refl _)) (Nat.le_refl _) hb7.size))
        | (go_at_call 15; (with_reducible refine (equal_same A3 A4 c3 c4 _ _ _ _ _ _ pl _ rfl rfl hr3 hr4).mono ?_); rintro r w' ⟨rfl, rfl⟩))
    all_goals
      clear hq
      go_wp2
      go_ret
      exact ⟨rfl, HB0.out.trans ((HB5.out.trans (hb6.mono HB5.out.size)).mono HB0.out.size)⟩
end Go.Proofs.YtepniiaojhiogaaDoor.valuePuts
