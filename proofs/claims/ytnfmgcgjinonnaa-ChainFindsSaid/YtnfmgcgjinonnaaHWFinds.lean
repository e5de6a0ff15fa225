/-
  The walk of ChainFinds.
-/
import Derived.Test.YtnfmgcgjinonnaaHLaw
namespace Go.Proofs.Ytnfmgcgjinonnaa.chainFinds
open Go.RowKit

set_option maxRecDepth 100000 in
set_option maxHeartbeats 4000000 in
theorem walk (K : ChainC) (l : List Ver) (A : Option Addr) (c t : Nat) (w : World) (ht : t < 18446744073709551616) (hl : ChH w w.heap.size A c l) :
    Calls Try.prog 4 #[.slice A l.length c, .int .u64 t] w fun r w' => r = .returned (.bool true) ∧ Below w.heap.size w w' := by
  have F := fromH K w
  have HL := Lib.hid F.live
  have HFA := Lib.hid (F.few l A c hl)
  have hb6 := Below.refl w.heap.size w
  by_cases fa : fewH l = true
  · have la := fewH_len fa
    have HR := Lib.hid (F.right2 l A c la hl)
    rw [fa] at HFA
    by_cases hr : rightC l = true
    · rw [hr] at HR
      obtain ⟨⟨tm, gone, dat⟩, hv⟩ : ∃ v, optH (findH l t) = v := ⟨_, rfl⟩
      obtain ⟨is, his⟩ : ∃ v, (findH l t).isSome = v := ⟨_, rfl⟩
      obtain ⟨g, hg⟩ : ∃ v, (getH l t).getD [] = v := ⟨_, rfl⟩
      obtain ⟨has, hhas⟩ : ∃ v, (getH l t).isSome = v := ⟨_, rfl⟩
      have H1 : Hid (∀ wx, Below w.heap.size w wx → Calls Try.prog 18 #[.slice A l.length c, .int .u64 t] wx fun r w' => ∃ B d, r = .returned (.tuple #[.agg #[.int .u64 tm, .bool gone, .slice B dat.length d], .bool is]) ∧ Sl w' w'.heap.size B d dat ∧ Below w.heap.size w w' ∧ Below wx.heap.size wx w') := Lib.hid (by
        have h := F.find l A c t la hl hr ht
        rw [hv, his] at h
        exact h)
      have H2 : Hid (∀ wx, Below w.heap.size w wx → Calls Try.prog 19 #[.slice A l.length c, .int .u64 t] wx fun r w' => ∃ B d, r = .returned (.tuple #[.agg #[.int .u64 tm, .bool gone, .slice B dat.length d], .bool is]) ∧ Sl w' w'.heap.size B d dat ∧ Below w.heap.size w w' ∧ Below wx.heap.size wx w') := Lib.hid (by
        have h := F.find2 l A c t la hl
        rw [hv, his] at h
        exact h)
      have H3 := Lib.hid (fun (wx : World) (hb : Below w.heap.size w wx) => F.get l A c t la hr ht wx (hl.below hb (Nat.le_refl _) hb.size) hb)
      have H4 := Lib.hid (F.get2 l A c t la hl)
      rw [hg, hhas] at H3 H4
      have H5 := Lib.hid (F.last l A c la hl hr)
      have H6 := Lib.hid (F.last2 l A c la hl)
      generalize lastH l = last at *
      clear F K hl fa la hr hv his hg hhas
      go_enter Try.func4, Try.ntmps4
      go_wp2_with (first
        | (go_at_call 10; (with_reducible refine (HL.out _ (by assumption)).mono ?_); rintro r w' ⟨rfl, hb6⟩)
        | (go_at_call 11; (with_reducible refine (HFA.out _ (by assumption)).mono ?_); rintro r w' ⟨rfl, hb6⟩)
        | (go_at_call 13; (with_reducible refine (HR.out _ (by assumption)).mono ?_); rintro r w' ⟨rfl, hb6⟩))
      have HC1 := Lib.hid (H1.out _ hb6)
      clear hb6 H1 HL HFA HR
      refine HC1.out.mono ?_
      rintro r w1 ⟨B1, d1, rfl, s1, k1, _⟩
      have HC2 := Lib.hid (H2.out _ (k1.alloc k1.size (.cells #[.int .u64 tm, .bool gone, .slice B1 dat.length d1] 30)))
      have X1 := Lib.hid (heap_alloc_new w1 (.cells #[.int .u64 tm, .bool gone, .slice B1 dat.length d1] 30))
      have S1 := Lib.hid (s1.below ((Below.refl _ w1).alloc (Nat.le_refl _) (.cells #[.int .u64 tm, .bool gone, .slice B1 dat.length d1] 30)) (Nat.le_refl _) (by simp : w1.heap.size ≤ (w1.alloc (.cells #[.int .u64 tm, .bool gone, .slice B1 dat.length d1] 30)).heap.size))
      clear HC1 H2 s1 k1
      go_wp2_with fail
      refine HC2.out.mono ?_
      rintro r w2 ⟨B2, d2, rfl, s2, k2, k21⟩
      have HB2 := Lib.hid ((Below.refl _ w2).alloc (Nat.le_refl _) (.cells #[.int .u64 tm, .bool gone, .slice B2 dat.length d2] 30))
      have hb3 := k2.alloc k2.size (.cells #[.int .u64 tm, .bool gone, .slice B2 dat.length d2] 30)
      have HX1 := Lib.hid (heap_below X1.out k21 (by simp))
      have HS1 := Lib.hid (S1.out.below k21 (Nat.le_refl _) k21.size)
      have HX1' := Lib.hid (heap_below HX1.out HB2.out (lt_of_heap HX1.out))
      have HX2 := Lib.hid (heap_alloc_new w2 (.cells #[.int .u64 tm, .bool gone, .slice B2 dat.length d2] 30))
      have HS1' := Lib.hid (HS1.out.below HB2.out (Nat.le_refl _) HB2.out.size)
      have HS2' := Lib.hid (s2.below HB2.out (Nat.le_refl _) HB2.out.size)
      have HC3 := Lib.hid (H3.out _ hb3)
      clear HC2 H3 s2 k2 k21 hb3 HX1 HS1 X1 S1
      go_wp2_with fail
      refine HC3.out.mono ?_
      rintro r w3 ⟨B3, d3, rfl, s3, k3, k31⟩
      have HC4 := Lib.hid (H4.out _ k3)
      have HX13 := Lib.hid (heap_below HX1'.out k31 (lt_of_heap HX1'.out))
      have HX23 := Lib.hid (heap_below HX2.out k31 (lt_of_heap HX2.out))
      have HS13 := Lib.hid (HS1'.out.below k31 (Nat.le_refl _) k31.size)
      have HS23 := Lib.hid (HS2'.out.below k31 (Nat.le_refl _) k31.size)
      have HS33 := Lib.hid s3
      clear HC3 H4 s3 k3 k31 HX1' HX2 HS1' HS2' HB2
      go_wp2_with fail
      refine HC4.out.mono ?_
      rintro r w4 ⟨B4, d4, rfl, s4, k4, k41⟩
      have hx1 := heap_below HX13.out k41 (lt_of_heap HX13.out)
      have hx2 := heap_below HX23.out k41 (lt_of_heap HX23.out)
      have a0 := cell_of_row w4 _ 0 _ _ _ hx1
      have a1 := cell_of_row w4 _ 1 _ _ _ hx1
      have a2 := cell_of_row w4 _ 2 _ _ _ hx1
      have e0 := cell_of_row w4 _ 0 _ _ _ hx2
      have e1 := cell_of_row w4 _ 1 _ _ _ hx2
      have e2 := cell_of_row w4 _ 2 _ _ _ hx2
      have HS14 := Lib.hid (HS13.out.below k41 (Nat.le_refl _) k41.size)
      have HS24 := Lib.hid (HS23.out.below k41 (Nat.le_refl _) k41.size)
      have HS34 := Lib.hid (HS33.out.below k41 (Nat.le_refl _) k41.size)
      have HS44 := Lib.hid s4
      have HK4 := Lib.hid k4
      have HC5 : Hid (Calls Try.prog 22 #[.agg #[.int .u64 tm, .bool gone, .slice B1 dat.length d1], .agg #[.int .u64 tm, .bool gone, .slice B2 dat.length d2]] w4 fun r w' => r = .returned (.bool true) ∧ Below w4.heap.size w4 w') := Lib.hid (by
        have h := refSameOne_any ⟨tm, gone, dat⟩ ⟨tm, gone, dat⟩ B1 B2 d1 d2 w4 HS14.out HS24.out
        rw [decide_eq_true rfl] at h
        exact h)
      clear HC4 s4 k4 k41 hx1 hx2 HX13 HX23 HS13 HS23 HS33
      cases is <;> cases has <;>
      · go_wp2_with fail
        refine HC5.out.mono ?_
        rintro r w5 ⟨rfl, k5⟩
        have hb7 := HK4.out.trans (k5.mono HK4.out.size)
        have HE := Lib.hid (equal_same B3 B4 d3 d4 g.length g.length _ _ _ _ g w5 rfl rfl ((HS34.out.below k5 (Nat.le_refl _) (Nat.le_refl _)).2.2.2) ((HS44.out.below k5 (Nat.le_refl _) (Nat.le_refl _)).2.2.2))
        clear k5 a0 a1 a2 e0 e1 e2
        go_wp2_with (first
          | (go_at_call 23; (with_reducible refine HE.out.mono ?_); rintro r w' ⟨rfl, hw⟩; subst hw)
          | (go_at_call 24; (with_reducible refine (H5.out _ (by assumption)).mono ?_); rintro r w' ⟨rfl, hb7⟩)
          | (go_at_call 25; (with_reducible refine (H6.out _ (by assumption)).mono ?_); rintro r w' ⟨rfl, hb7⟩))
        go_ret
        exact ⟨rfl, hb7⟩
    · have hr' : rightC l = false := by simpa using hr
      rw [hr'] at HR
      clear F K hl fa la hr hr'
      go_enter Try.func4, Try.ntmps4
      go_wp2_with (first
        | (go_at_call 10; (with_reducible refine (HL.out _ (by assumption)).mono ?_); rintro r w' ⟨rfl, hb6⟩)
        | (go_at_call 11; (with_reducible refine (HFA.out _ (by assumption)).mono ?_); rintro r w' ⟨rfl, hb6⟩)
        | (go_at_call 13; (with_reducible refine (HR.out _ (by assumption)).mono ?_); rintro r w' ⟨rfl, hb6⟩))
      go_ret
      exact ⟨rfl, hb6⟩
  · have fa' : fewH l = false := by simpa using fa
    rw [fa'] at HFA
    clear F K hl fa fa'
    go_enter Try.func4, Try.ntmps4
    go_wp2_with (first
      | (go_at_call 10; (with_reducible refine (HL.out _ (by assumption)).mono ?_); rintro r w' ⟨rfl, hb6⟩)
      | (go_at_call 11; (with_reducible refine (HFA.out _ (by assumption)).mono ?_); rintro r w' ⟨rfl, hb6⟩))
    go_ret
    exact ⟨rfl, hb6⟩
end Go.Proofs.Ytnfmgcgjinonnaa.chainFinds
