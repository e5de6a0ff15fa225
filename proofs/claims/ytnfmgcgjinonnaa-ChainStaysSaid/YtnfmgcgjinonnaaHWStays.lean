/-
  The walk of ChainStays.
-/
import Derived.Test.YtnfmgcgjinonnaaHWPuts
import Derived.Test.YtnfmgcgjinonnaaHWReads
namespace Go.Proofs.Ytnfmgcgjinonnaa
open Go.RowKit

theorem getH_put (l : List Ver) (v : Ver) (t : Nat) : getH (l ++ [v]) t = if v.tm ≤ t then getOf (some v) else getH l t := by
  unfold getH
  rw [find_put]
  split <;> rfl
theorem putH_yes {l : List Ver} {v : Ver} (h : (rightC l && rightC [v]) = true) (h2 : ¬ v.tm ≤ lastH l) : putH l v = (l ++ [v], 0) := by
  unfold putH
  rw [if_pos h, if_neg h2]
theorem putH_order {l : List Ver} {v : Ver} (h : (rightC l && rightC [v]) = true) (h2 : v.tm ≤ lastH l) : putH l v = ([], 70) := by
  unfold putH
  rw [if_pos h, if_pos h2]
theorem putH_arg {l : List Ver} {v : Ver} (h : ¬ (rightC l && rightC [v]) = true) : putH l v = ([], 1) := by
  unfold putH
  rw [if_neg h]
theorem putH_or (l : List Ver) (v : Ver) : ((rightC l && rightC [v]) = true ∧ ¬ v.tm ≤ lastH l) ∨ ∃ e : Int, putH l v = ([], e) ∧ (e == 0) = false := by
  by_cases h : (rightC l && rightC [v]) = true
  · by_cases h2 : v.tm ≤ lastH l
    · exact .inr ⟨70, putH_order h h2, rfl⟩
    · exact .inl ⟨h, h2⟩
  · exact .inr ⟨1, putH_arg h, rfl⟩
theorem rightC_one {v : Ver} (h : rightC [v] = true) : okVer v = true := ((right_iff [v] 0).1 h).1 v (List.mem_cons_self ..) |>.2

namespace chainStays
set_option maxRecDepth 100000 in
set_option maxHeartbeats 4000000 in
theorem walk (K : ChainC) (l : List Ver) (A : Option Addr) (c : Nat) (v : Ver) (B : Option Addr) (d t : Nat) (w : World) (hl : ChH w w.heap.size A c l) (hv : v.tm < 18446744073709551616) (hs : Sl w w.heap.size B d v.dat) (ht : t < 18446744073709551616) :
    Calls Try.prog 9 #[.slice A l.length c, verVal v B d, .int .u64 t] w fun r w' => r = .returned (.bool true) ∧ Below w.heap.size w w' := by
  obtain ⟨tm, gone, dat⟩ := v
  simp only at hv hs
  unfold verVal
  simp only
  obtain ⟨w0, hw0⟩ : ∃ y, w.alloc (.cells #[.int .u64 tm, .bool gone, .slice B dat.length d] 30) = y := ⟨_, rfl⟩
  have s0 : w0.heap.size = w.heap.size + 1 := by rw [← hw0]; simp
  have b0 : Below w.heap.size w w0 := by rw [← hw0]; exact (Below.refl _ w).alloc (Nat.le_refl _) _
  have h0 : w0.heap[w.heap.size]? = some (.cells #[.int .u64 tm, .bool gone, .slice B dat.length d] 30 (0, 0)) := by rw [← hw0]; exact heap_alloc_new w _
  have hl0 := hl.below b0 (Nat.le_refl _) (hi' := w0.heap.size) (by omega)
  have hs0 := hs.below b0 (Nat.le_refl _) (hi' := w0.heap.size) (by omega)
  have F := fromH K w0
  have HL := Lib.hid F.live
  have HFA := Lib.hid (F.few l A c hl0)
  have hb6 := Below.refl w0.heap.size w0
  have HX : Hid (∀ wx, Below w0.heap.size w0 wx → wx.heap[w.heap.size]? = some (.cells #[.int .u64 tm, .bool gone, .slice B dat.length d] 30 (0, 0))) := Lib.hid fun wx hb => heap_below h0 hb (by omega)
  have HB0 := Lib.hid b0
  have HW0 := Lib.hid hw0
  have HDL := Lib.hid (Nat.le_trans hs0.1 hs0.2.1)
  by_cases fa : fewH l = true
  · rw [fa] at HFA
    by_cases fd : dat.length ≤ 1000
    · have d1 : decide ((1000 : Int) < (dat.length : Int)) = false := by rw [decide_eq_false_iff_not]; omega
      have la := fewH_len fa
      have H1 := F.put l A c ⟨tm, gone, dat⟩ B d la hl0 hv (by simp only; omega) hs0
      rcases putH_or l ⟨tm, gone, dat⟩ with ⟨hyes, hlast⟩ | ⟨e, he, he0⟩
      · have lp := put_ok (v := ⟨tm, gone, dat⟩) fa fd
        have hp := putH_yes hyes hlast
        rw [hp] at H1 lp
        rw [Bool.and_eq_true] at hyes
        obtain ⟨hr, hr1⟩ := hyes
        have hrp : rightC (l ++ [⟨tm, gone, dat⟩]) = true := right_put hr (rightC_one hr1) (by simp only at hlast ⊢; omega)
        have H1' : Hid (∀ wx, Below w0.heap.size w0 wx → Calls Try.prog 26 #[.slice A l.length c, .agg #[.int .u64 tm, .bool gone, .slice B dat.length d]] wx fun r w' => ∃ C q, r = .returned (.tuple #[.slice C (l ++ [(⟨tm, gone, dat⟩ : Ver)]).length q, .int .i64 0]) ∧ ChH w' w'.heap.size C q (l ++ [⟨tm, gone, dat⟩]) ∧ Below w0.heap.size w0 w' ∧ Below wx.heap.size wx w') := Lib.hid H1
        have H2 := Lib.hid (F.get l A c t la hr ht)
        have H3 := Lib.hid (fun C q => F.get (l ++ [⟨tm, gone, dat⟩]) C q t lp hrp ht)
        rw [getH_put] at H3
        obtain ⟨g, hg⟩ : ∃ v, (getH l t).getD [] = v := ⟨_, rfl⟩
        obtain ⟨has, hhas⟩ : ∃ v, (getH l t).isSome = v := ⟨_, rfl⟩
        rw [hg, hhas] at H2
        have HG := Lib.hid hg
        have HHAS := Lib.hid hhas
        have HOKV := Lib.hid (rightC_one hr1)
        have HC := Lib.hid hl0
        have HS0 := Lib.hid hs0
        generalize hm : l ++ [(⟨tm, gone, dat⟩ : Ver)] = m at *
        clear F K hl hl0 hs hs0 fa la lp h0 hv b0 s0 hw0 fd hp hr hr1 hrp hlast H1 hg hhas hm
        simp only at H3
        by_cases hle : tm ≤ t
        · have d2 : decide ((tm : Int) ≤ (t : Int)) = true := by rw [decide_eq_true_iff]; omega
          have d3 : decide (tm ≤ t) = true := by rw [decide_eq_true_iff]; omega
          rw [if_pos hle] at H3
          clear hle
          cases gone
          · rw [getOf_here (v := ⟨tm, false, dat⟩) rfl] at H3
            go_enter Try.func9, Try.ntmps9
            go_upto_region 1 with fail
            rw [HW0.out]
            clear HW0
            go_upto_region 3 with (first
              | (go_at_call 10; (with_reducible refine (HL.out _ (by assumption)).mono ?_); rintro r w' ⟨rfl, hb6⟩)
              | (go_at_call 11; (with_reducible refine (HFA.out _ (by assumption)).mono ?_); rintro r w' ⟨rfl, hb6⟩; have x2 := cell_of_row w' _ 2 _ _ _ (HX.out _ hb6)))
            have x0 := cell_of_row w' _ 0 _ _ _ (HX.out _ hb6)
            have x1 := cell_of_row w' _ 1 _ _ _ (HX.out _ hb6)
            have HX1 := Lib.hid (H1'.out _ hb6)
            clear HL HFA hb6 H1'
            go_wp2_with fail
            refine HX1.out.mono ?_
            rintro r w1 ⟨B1, d1, rfl, s1, k1, _⟩
            have HX2 := Lib.hid (H2.out w1 (HC.out.below k1 (Nat.le_refl _) k1.size) k1)
            have HS1 := Lib.hid s1
            clear HX1 s1 k1 H2 x0 x1 x2
            go_wp2_with fail
            refine HX2.out.mono ?_
            rintro r w2 ⟨B2, d2, rfl, s2, k2, k21⟩
            have HX3 := Lib.hid (H3.out B1 d1 w2 (HS1.out.below k21 (Nat.le_refl _) k21.size) k2)
            clear HX2 s2 k2 k21 H3
            go_wp2_with fail
            refine HX3.out.mono ?_
            rintro r w3 ⟨B3, d3, rfl, s3, k3, k31⟩
            have x0 := cell_of_row w3 _ 0 _ _ _ (HX.out _ k3)
            have x1 := cell_of_row w3 _ 1 _ _ _ (HX.out _ k3)
            have x2 := cell_of_row w3 _ 2 _ _ _ (HX.out _ k3)
            have HE := Lib.hid (equal_same B3 B d3 d dat.length dat.length _ _ _ _ dat w3 rfl rfl s3.2.2.2 ((HS0.out.below k3 (Nat.le_refl _) (Nat.le_refl _)).2.2.2))
            have HK3 := Lib.hid k3
            have e9 : ((some dat).getD []).length = dat.length := rfl
            have e8 : (some dat).isSome = true := rfl
            rw [e9, e8]
            clear HX3 s3 k3 k31 e9 e8
            go_wp2_with (go_at_call 23; (with_reducible refine HE.out.mono ?_); rintro r w' ⟨rfl, hw⟩; subst hw)
            go_ret
            exact ⟨rfl, HB0.out.trans (HK3.out.mono HB0.out.size)⟩
          · rw [of_gone (v := ⟨tm, true, dat⟩) rfl] at H3
            go_enter Try.func9, Try.ntmps9
            go_upto_region 1 with fail
            rw [HW0.out]
            clear HW0
            go_upto_region 3 with (first
              | (go_at_call 10; (with_reducible refine (HL.out _ (by assumption)).mono ?_); rintro r w' ⟨rfl, hb6⟩)
              | (go_at_call 11; (with_reducible refine (HFA.out _ (by assumption)).mono ?_); rintro r w' ⟨rfl, hb6⟩; have x2 := cell_of_row w' _ 2 _ _ _ (HX.out _ hb6)))
            have x0 := cell_of_row w' _ 0 _ _ _ (HX.out _ hb6)
            have x1 := cell_of_row w' _ 1 _ _ _ (HX.out _ hb6)
            have HX1 := Lib.hid (H1'.out _ hb6)
            clear HL HFA hb6 H1'
            go_wp2_with fail
            refine HX1.out.mono ?_
            rintro r w1 ⟨B1, d1, rfl, s1, k1, _⟩
            have HX2 := Lib.hid (H2.out w1 (HC.out.below k1 (Nat.le_refl _) k1.size) k1)
            have HS1 := Lib.hid s1
            clear HX1 s1 k1 H2 x0 x1 x2
            go_wp2_with fail
            refine HX2.out.mono ?_
            rintro r w2 ⟨B2, d2, rfl, s2, k2, k21⟩
            have HX3 := Lib.hid (H3.out B1 d1 w2 (HS1.out.below k21 (Nat.le_refl _) k21.size) k2)
            clear HX2 s2 k2 k21 H3
            go_wp2_with fail
            refine HX3.out.mono ?_
            rintro r w3 ⟨B3, d3, rfl, s3, k3, k31⟩
            have x0 := cell_of_row w3 _ 0 _ _ _ (HX.out _ k3)
            have x1 := cell_of_row w3 _ 1 _ _ _ (HX.out _ k3)
            have x2 := cell_of_row w3 _ 2 _ _ _ (HX.out _ k3)
            have HK3 := Lib.hid k3
            have e9 : ((none : Option (List UInt8)).getD []).length = 0 := rfl
            have e8 : (none : Option (List UInt8)).isSome = false := rfl
            rw [e9, e8]
            clear HX3 s3 k3 k31 e9 e8
            go_wp2_with fail
            go_ret
            exact ⟨rfl, HB0.out.trans (HK3.out.mono HB0.out.size)⟩
        · have d2 : decide ((tm : Int) ≤ (t : Int)) = false := by rw [decide_eq_false_iff_not]; omega
          have d3 : decide (tm ≤ t) = false := by rw [decide_eq_false_iff_not]; omega
          rw [if_neg hle, HG.out, HHAS.out] at H3
          clear hle
          go_enter Try.func9, Try.ntmps9
          go_upto_region 1 with fail
          rw [HW0.out]
          clear HW0
          go_upto_region 3 with (first
            | (go_at_call 10; (with_reducible refine (HL.out _ (by assumption)).mono ?_); rintro r w' ⟨rfl, hb6⟩)
            | (go_at_call 11; (with_reducible refine (HFA.out _ (by assumption)).mono ?_); rintro r w' ⟨rfl, hb6⟩; have x2 := cell_of_row w' _ 2 _ _ _ (HX.out _ hb6)))
          have x0 := cell_of_row w' _ 0 _ _ _ (HX.out _ hb6)
          have x1 := cell_of_row w' _ 1 _ _ _ (HX.out _ hb6)
          have HX1 := Lib.hid (H1'.out _ hb6)
          clear HL HFA hb6 H1'
          go_wp2_with fail
          refine HX1.out.mono ?_
          rintro r w1 ⟨B1, d1, rfl, s1, k1, _⟩
          have HX2 := Lib.hid (H2.out w1 (HC.out.below k1 (Nat.le_refl _) k1.size) k1)
          have HS1 := Lib.hid s1
          clear HX1 s1 k1 H2 x0 x1 x2
          go_wp2_with fail
          refine HX2.out.mono ?_
          rintro r w2 ⟨B2, d2, rfl, s2, k2, k21⟩
          have HX3 := Lib.hid (H3.out B1 d1 w2 (HS1.out.below k21 (Nat.le_refl _) k21.size) k2)
          have HS2 := Lib.hid s2
          clear HX2 s2 k2 k21 H3
          go_wp2_with fail
          refine HX3.out.mono ?_
          rintro r w3 ⟨B3, d3, rfl, s3, k3, k31⟩
          have x0 := cell_of_row w3 _ 0 _ _ _ (HX.out _ k3)
          have HE := Lib.hid (equal_same B2 B3 d2 d3 g.length g.length _ _ _ _ g w3 rfl rfl ((HS2.out.below k31 (Nat.le_refl _) k31.size).2.2.2) s3.2.2.2)
          have HK3 := Lib.hid k3
          clear HX3 s3 k3 k31
          cases has <;>
          · go_wp2_with (go_at_call 23; (with_reducible refine HE.out.mono ?_); rintro r w' ⟨rfl, hw⟩; subst hw)
            go_ret
            exact ⟨rfl, HB0.out.trans (HK3.out.mono HB0.out.size)⟩
      · have H1' : Hid (∀ wx, Below w0.heap.size w0 wx → Calls Try.prog 26 #[.slice A l.length c, .agg #[.int .u64 tm, .bool gone, .slice B dat.length d]] wx fun r w' => ∃ C q, r = .returned (.tuple #[.slice C 0 q, .int .i64 e]) ∧ Below w0.heap.size w0 w') := Lib.hid (fun wx hb => (H1 wx hb).mono fun _ _ ⟨C, q, k, _, k2, _⟩ => ⟨C, q, by rw [he] at k; exact k, k2⟩)
        have he1 : (e != 0) = true := by rw [bne, he0]; rfl
        have he2 : ¬ e = 0 := by intro h; rw [h] at he0; cases he0
        clear F K hl hl0 hs hs0 fa la h0 hv b0 s0 hw0 fd he H1
        go_enter Try.func9, Try.ntmps9
        go_upto_region 1 with fail
        rw [HW0.out]
        clear HW0
        go_upto_region 3 with (first
          | (go_at_call 10; (with_reducible refine (HL.out _ (by assumption)).mono ?_); rintro r w' ⟨rfl, hb6⟩)
          | (go_at_call 11; (with_reducible refine (HFA.out _ (by assumption)).mono ?_); rintro r w' ⟨rfl, hb6⟩; have x2 := cell_of_row w' _ 2 _ _ _ (HX.out _ hb6)))
        have x0 := cell_of_row w' _ 0 _ _ _ (HX.out _ hb6)
        have x1 := cell_of_row w' _ 1 _ _ _ (HX.out _ hb6)
        have HX1 := Lib.hid (H1'.out _ hb6)
        clear HL HFA hb6 H1'
        go_wp2_with fail
        refine HX1.out.mono ?_
        rintro r w1 ⟨B1, d1, rfl, k1⟩
        go_wp2_with fail
        go_ret
        exact ⟨rfl, HB0.out.trans (k1.mono HB0.out.size)⟩
    · have d1 : decide ((1000 : Int) < (dat.length : Int)) = true := by rw [decide_eq_true_iff]; omega
      clear F K hl hl0 hs hs0 fa h0 hv b0 s0 hw0 fd
      go_enter Try.func9, Try.ntmps9
      go_upto_region 1 with fail
      rw [HW0.out]
      clear HW0
      go_wp2_with (first
        | (go_at_call 10; (with_reducible refine (HL.out _ (by assumption)).mono ?_); rintro r w' ⟨rfl, hb6⟩)
        | (go_at_call 11; (with_reducible refine (HFA.out _ (by assumption)).mono ?_); rintro r w' ⟨rfl, hb6⟩; have x2 := cell_of_row w' _ 2 _ _ _ (HX.out _ hb6)))
      go_ret
      exact ⟨rfl, HB0.out.trans (hb6.mono HB0.out.size)⟩
  · have fa' : fewH l = false := by simpa using fa
    rw [fa'] at HFA
    clear F K hl hl0 hs hs0 fa fa' h0 hv b0 s0 hw0
    go_enter Try.func9, Try.ntmps9
    go_upto_region 1 with fail
    rw [HW0.out]
    clear HW0
    go_wp2_with (first
      | (go_at_call 10; (with_reducible refine (HL.out _ (by assumption)).mono ?_); rintro r w' ⟨rfl, hb6⟩)
      | (go_at_call 11; (with_reducible refine (HFA.out _ (by assumption)).mono ?_); rintro r w' ⟨rfl, hb6⟩))
    go_ret
    exact ⟨rfl, HB0.out.trans (hb6.mono HB0.out.size)⟩
end chainStays
end Go.Proofs.Ytnfmgcgjinonnaa
