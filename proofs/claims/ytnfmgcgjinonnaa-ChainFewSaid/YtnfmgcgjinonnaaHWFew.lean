/-
  The walk of ChainFew.
-/
import Derived.Test.YtnfmgcgjinonnaaHWReads
namespace Go.Proofs.Ytnfmgcgjinonnaa
open Go.RowKit

theorem few_le {l : List Ver} {low : Nat} : ((trimH l low).filter fun v => decide (v.tm ≤ low)).length ≤ 1 := by
  rw [trim_low]
  exact keep_few _
theorem few_gone {l : List Ver} {low : Nat} : ∀ v ∈ trimH l low, v.tm ≤ low → v.gone = false := fun v hv h => by
  have hm : v ∈ (trimH l low).filter fun v => decide (v.tm ≤ low) := List.mem_filter.2 ⟨hv, by rw [decide_eq_true_iff]; exact h⟩
  rw [trim_low] at hm
  exact (keep_le v hm).2.1

namespace chainFew
set_option maxRecDepth 100000 in
set_option maxHeartbeats 4000000 in
theorem walk (K : ChainC) (l : List Ver) (A : Option Addr) (c low less : Nat) (w : World) (hlow : low < 18446744073709551616) (hless : less < 18446744073709551616) (hl : ChH w w.heap.size A c l) :
    Calls Try.prog 8 #[.slice A l.length c, .int .u64 low, .int .u64 less] w fun r w' => r = .returned (.bool true) ∧ Below w.heap.size w w' := by
  have F := fromH K w
  have HL := Lib.hid F.live
  have HFA := Lib.hid (F.few l A c hl)
  have hb6 := Below.refl w.heap.size w
  by_cases fa : fewH l = true
  · have la := fewH_len fa
    have HR := Lib.hid (F.right l A c la hl)
    rw [fa] at HFA
    by_cases hr : rightC l = true
    · rw [hr] at HR
      by_cases hlt : low < less
      · have d1 : decide ((low : Int) < (less : Int)) = true := by rw [decide_eq_true_iff]; omega
        have d2 : decide (low < less) = true := by rw [decide_eq_true_iff]; omega
        clear F K hl fa la hr hlt
        go_enter Try.func8, Try.ntmps8
        go_wp2_with (first
          | (go_at_call 10; (with_reducible refine (HL.out _ (by assumption)).mono ?_); rintro r w' ⟨rfl, hb6⟩)
          | (go_at_call 11; (with_reducible refine (HFA.out _ (by assumption)).mono ?_); rintro r w' ⟨rfl, hb6⟩)
          | (go_at_call 12; (with_reducible refine (HR.out _ (by assumption)).mono ?_); rintro r w' ⟨rfl, hb6⟩))
        go_ret
        exact ⟨rfl, hb6⟩
      · have d1 : decide ((low : Int) < (less : Int)) = false := by rw [decide_eq_false_iff_not]; omega
        have d2 : decide (low < less) = false := by rw [decide_eq_false_iff_not]; omega
        have lm := trim_ok fa low
        have lt := trim_ok fa less
        have hrm := right_trim hr low
        have hrt := right_trim hr less
        have htt : trimH (trimH l less) low = trimH l low := trim_trim (right_pair hr) (by omega)
        have htl : trimH (trimH l low) low = trimH l low := trim_trim (right_pair hr) (Nat.le_refl _)
        have hsz := size_trim l low
        have hml : (trimH l low).length ≤ 101 := by have := trimH_len l low; have := (fewH_yes fa).2; omega
        have HGone := Lib.hid (few_gone (l := l) (low := low))
        have HOne := Lib.hid (few_le (l := l) (low := low))
        have H1 := Lib.hid (fun (wx : World) (hb : Below w.heap.size w wx) => F.trim l A c low la hr hlow wx (hl.below hb (Nat.le_refl _) hb.size) hb)
        have H2 := Lib.hid (fun (wx : World) (hb : Below w.heap.size w wx) => F.trim l A c less la hr hless wx (hl.below hb (Nat.le_refl _) hb.size) hb)
        have H3 := Lib.hid (fun B d => F.trim (trimH l less) B d low lt hrt hlow)
        have H4 := Lib.hid (fun B d => F.trim (trimH l low) B d low lm hrm hlow)
        have H5 := Lib.hid (fun (B : Option Addr) (d : Nat) (wx : World) (h : ChH wx wx.heap.size B d (trimH l low)) (hb : Below w.heap.size w wx) => (K.size (trimH l low) B d wx lm h).mono fun _ _ q => (⟨q.1, hb.trans (q.2.mono hb.size)⟩ : _ ∧ Below w.heap.size w _))
        have H6 := Lib.hid (F.size l A c la hl)
        rw [htt] at H3
        rw [htl] at H4
        have LM := Lib.hid lm
        generalize trimH l less = t at *
        generalize hm : trimH l low = m at *
        have d4 : decide ((sizeH m : Int) ≤ (sizeH l : Int)) = true := by rw [decide_eq_true_iff]; omega
        have d5 : decide (sizeH m ≤ sizeH l) = true := by rw [decide_eq_true_iff]; omega
        generalize sizeH m = zm at *
        generalize sizeH l = zl at *
        clear F K hl fa la hr hm lm lt hrm hrt htt htl hlt hsz
        go_enter Try.func8, Try.ntmps8
        go_upto_region 3 with (first
          | (go_at_call 10; (with_reducible refine (HL.out _ (by assumption)).mono ?_); rintro r w' ⟨rfl, hb6⟩)
          | (go_at_call 11; (with_reducible refine (HFA.out _ (by assumption)).mono ?_); rintro r w' ⟨rfl, hb6⟩)
          | (go_at_call 12; (with_reducible refine (HR.out _ (by assumption)).mono ?_); rintro r w' ⟨rfl, hb6⟩))
        have HX1 := Lib.hid (H1.out _ hb6)
        clear HL HFA HR hb6 H1
        go_wp2_with fail
        refine HX1.out.mono ?_
        rintro r w1 ⟨B1, d1', rfl, s1, k1, _⟩
        have HM := Lib.hid s1
        have HK1 := Lib.hid k1
        clear HX1 s1 k1
        go_wp2_with fail
        go_loopg [8, 34] m.length (fun q v i wr => ∃ j n : Nat, j + q = m.length ∧ v = .int .i64 n ∧ i = .int .i64 j ∧ n = ((m.take j).filter fun v => decide (v.tm ≤ low)).length ∧ Below w1.heap.size w1 wr)
        case atStart => exact ⟨0, 0, by omega, rfl, rfl, rfl, Below.refl _ _⟩
        case round =>
          obtain ⟨j, n, hk, rfl, rfl, hn, hb⟩ := hrel
          have HK := Lib.hid hk
          have HN := Lib.hid hn
          have HB := Lib.hid hb
          clear hk hn hb
          by_cases hj : j < m.length
          · have hlt : decide ((j : Int) < (m.length : Int)) = true := by simpa using hj
            have hlt2 : decide (j < m.length) = true := by simpa using hj
            obtain ⟨b, o, A2, c2', rfl, _, c0, c1, c2, _, htm⟩ := (HM.out.2.2.2.below HB.out (Nat.le_refl _) (Nat.le_refl _)).at_ hj
            have HT := Lib.hid (show m.take (j + 1) = m.take j ++ [m[j]] from by rw [List.take_succ_eq_append_getElem hj])
            have HGj := Lib.hid (HGone.out _ (List.getElem_mem hj))
            have hnj : n ≤ j := by
              rw [HN.out]
              exact Nat.le_trans (List.length_filter_le _ _) (by rw [List.length_take]; omega)
            clear htm
            generalize m[j] = x at *
            obtain ⟨tm, gone, dat⟩ := x
            simp only at c0 c1 c2 HGj
            have hbn := HB.out.alloc HB.out.size (.cells #[.int .u64 tm, .bool gone, .slice A2 dat.length c2'] 30)
            have HBN := Lib.hid hbn
            clear hbn
            by_cases h1 : tm ≤ low
            · have d6 : decide ((tm : Int) ≤ (low : Int)) = true := by rw [decide_eq_true_iff]; omega
              have d7 : decide (tm ≤ low) = true := by rw [decide_eq_true_iff]; omega
              obtain rfl := HGj.out h1
              clear HGj
              have HF := Lib.hid (show n + 1 = ((m.take (j + 1)).filter fun v => decide (v.tm ≤ low)).length by
                rw [HT.out, List.filter_append, List.length_append, ← HN.out]
                simp [List.filter, d7])
              clear h1
              go_wp2
              go_roundg (gk - 1)
              case measure => have := HK.out; omega
              case rel => exact ⟨j + 1, n + 1, by have := HK.out; omega, by go_num, by go_num, HF.out, HBN.out⟩
            · have d6 : decide ((tm : Int) ≤ (low : Int)) = false := by rw [decide_eq_false_iff_not]; omega
              have d7 : decide (tm ≤ low) = false := by rw [decide_eq_false_iff_not]; omega
              have HF := Lib.hid (show n = ((m.take (j + 1)).filter fun v => decide (v.tm ≤ low)).length by
                rw [HT.out, List.filter_append, List.length_append, ← HN.out]
                simp [List.filter, d7])
              clear h1 HGj
              go_wp2
              go_roundg (gk - 1)
              case measure => have := HK.out; omega
              case rel => exact ⟨j + 1, n, by have := HK.out; omega, rfl, by go_num, HF.out, HBN.out⟩
          · have hj' : j = m.length := by have := HK.out; omega
            have hlt : decide ((j : Int) < (m.length : Int)) = false := by simpa using hj
            have hn1 : n ≤ 1 := by
              rw [HN.out, hj', List.take_length]
              exact HOne.out
            have d6 : decide ((n : Int) ≤ 1) = true := by rw [decide_eq_true_iff]; omega
            have d7 : decide (n ≤ 1) = true := by rw [decide_eq_true_iff]; omega
            have hbw := HK1.out.trans (HB.out.mono HK1.out.size)
            have HX2 := Lib.hid (H2.out _ hbw)
            have HMr := Lib.hid (HM.out.below HB.out (Nat.le_refl _) HB.out.size)
            clear hj' hn1 H2 hbw
            go_wp2_with fail
            refine HX2.out.mono ?_
            rintro r w2 ⟨B2, d2', rfl, s2, k2, k21⟩
            have HX3 := Lib.hid (H3.out B2 d2' w2 s2 k2)
            have HM2 := Lib.hid (HMr.out.below k21 (Nat.le_refl _) k21.size)
            clear HX2 s2 k2 k21 H3 HMr
            go_wp2_with fail
            refine HX3.out.mono ?_
            rintro r w3 ⟨B3, d3', rfl, s3, k3, k31⟩
            have HM3 := Lib.hid (HM2.out.below k31 (Nat.le_refl _) k31.size)
            have HX4 := Lib.hid (same_both LM.out s3 HM3.out k3)
            clear HX3 s3 k3 k31 HM2
            go_wp2_with fail
            refine HX4.out.mono ?_
            rintro r w4 ⟨rfl, k4, k41⟩
            have HM4 := Lib.hid (HM3.out.below k41 (Nat.le_refl _) k41.size)
            have HX5 := Lib.hid (H4.out B1 d1' w4 HM4.out k4)
            clear HX4 k4 k41 HM3 H4
            go_wp2_with fail
            refine HX5.out.mono ?_
            rintro r w5 ⟨B5, d5', rfl, s5, k5, k51⟩
            have HM5 := Lib.hid (HM4.out.below k51 (Nat.le_refl _) k51.size)
            have HX6 := Lib.hid (same_both LM.out s5 HM5.out k5)
            clear HX5 s5 k5 k51 HM4
            go_wp2_with fail
            refine HX6.out.mono ?_
            rintro r w6 ⟨rfl, k6, k61⟩
            have HX7 := Lib.hid (H5.out B1 d1' w6 (HM5.out.below k61 (Nat.le_refl _) k61.size) k6)
            clear HX6 k6 k61 HM5 H5
            go_wp2_with fail
            refine HX7.out.mono ?_
            rintro r w7 ⟨rfl, k7⟩
            have HX8 := Lib.hid (H6.out _ k7)
            clear HX7 k7 H6
            go_wp2_with fail
            refine HX8.out.mono ?_
            rintro r w8 ⟨rfl, k8⟩
            go_wp2_with fail
            go_ret
            exact ⟨rfl, k8⟩
    · have hr' : rightC l = false := by simpa using hr
      rw [hr'] at HR
      clear F K hl fa la hr hr'
      go_enter Try.func8, Try.ntmps8
      go_wp2_with (first
        | (go_at_call 10; (with_reducible refine (HL.out _ (by assumption)).mono ?_); rintro r w' ⟨rfl, hb6⟩)
        | (go_at_call 11; (with_reducible refine (HFA.out _ (by assumption)).mono ?_); rintro r w' ⟨rfl, hb6⟩)
        | (go_at_call 12; (with_reducible refine (HR.out _ (by assumption)).mono ?_); rintro r w' ⟨rfl, hb6⟩))
      go_ret
      exact ⟨rfl, hb6⟩
  · have fa' : fewH l = false := by simpa using fa
    rw [fa'] at HFA
    clear F K hl fa fa'
    go_enter Try.func8, Try.ntmps8
    go_wp2_with (first
      | (go_at_call 10; (with_reducible refine (HL.out _ (by assumption)).mono ?_); rintro r w' ⟨rfl, hb6⟩)
      | (go_at_call 11; (with_reducible refine (HFA.out _ (by assumption)).mono ?_); rintro r w' ⟨rfl, hb6⟩))
    go_ret
    exact ⟨rfl, hb6⟩
end chainFew
end Go.Proofs.Ytnfmgcgjinonnaa
