/-
  The walk of SpanMeets: two lists meet just if something lies in both: the greatest of two Los, where they meet.
-/
import Derived.Test.YtooegjdppeiccaaILaw
import Derived.Deep.DeepCutAuto
import Derived.Deep.RegionHeld3
namespace Go.Proofs.Ytooegjdppeiccaa.spanMeets
open Go.RowKit

set_option maxRecDepth 100000 in
set_option maxHeartbeats 8000000 in
theorem walk (K : SpanC) (a b : List Sp) (A B : Option Addr) (c d : Nat) (k : List UInt8) (w : World) (ha : ChI w w.heap.size A c a) (hb : ChI w w.heap.size B d b) :
    Calls Try.prog 9 #[.slice A a.length c, .slice B b.length d, .string (bs k)] w fun r w' => r = .returned (.bool true) ∧ Below w.heap.size w w' := by
  have HK := Lib.hid K
  have HLa := Lib.hid ha
  have HLb := Lib.hid hb
  have HB := Lib.hid (Below.refl w.heap.size w)
  clear K ha hb
  cases hf : fewI a with
  | false =>
    have f := Lib.hid hf
    clear hf
    go_enter Try.func9, Try.ntmps9
    have HT := Lib.hid (liveI_any HK.out w)
    go_wp2_with fail
    refine HT.out.mono ?_
    rintro r w1 ⟨rfl, hb1⟩
    clear HT
    have HLa := Lib.hid (HLa.out.below hb1 (Nat.le_refl _) hb1.size)
    have HLb := Lib.hid (HLb.out.below hb1 (Nat.le_refl _) hb1.size)
    have HB := Lib.hid (HB.out.trans (hb1.mono HB.out.size))
    clear hb1
    have HT := Lib.hid (fewNo f.out HLa.out)
    go_wp2_with fail
    refine HT.out.mono ?_
    rintro r w2 ⟨rfl, hb2⟩
    clear HT
    have HLa := Lib.hid (HLa.out.below hb2 (Nat.le_refl _) hb2.size)
    have HLb := Lib.hid (HLb.out.below hb2 (Nat.le_refl _) hb2.size)
    have HB := Lib.hid (HB.out.trans (hb2.mono HB.out.size))
    clear hb2
    have HT := Lib.hid (liveI_any HK.out w2)
    go_wp2_with fail
    refine HT.out.mono ?_
    rintro r w3 ⟨rfl, hb3⟩
    clear HT
    have HLa := Lib.hid (HLa.out.below hb3 (Nat.le_refl _) hb3.size)
    have HLb := Lib.hid (HLb.out.below hb3 (Nat.le_refl _) hb3.size)
    have HB := Lib.hid (HB.out.trans (hb3.mono HB.out.size))
    clear hb3
    go_wp2_with fail
    go_ret
    exact ⟨rfl, HB.out⟩
  | true =>
    cases hg : fewI b with
    | false =>
      have f := Lib.hid hf
      have g := Lib.hid hg
      clear hf hg
      go_enter Try.func9, Try.ntmps9
      have HT := Lib.hid (liveI_any HK.out w)
      go_wp2_with fail
      refine HT.out.mono ?_
      rintro r w1 ⟨rfl, hb1⟩
      clear HT
      have HLa := Lib.hid (HLa.out.below hb1 (Nat.le_refl _) hb1.size)
      have HLb := Lib.hid (HLb.out.below hb1 (Nat.le_refl _) hb1.size)
      have HB := Lib.hid (HB.out.trans (hb1.mono HB.out.size))
      clear hb1
      have HT := Lib.hid (fewYes f.out HLa.out)
      go_wp2_with fail
      refine HT.out.mono ?_
      rintro r w2 ⟨rfl, hb2⟩
      clear HT
      have HLa := Lib.hid (HLa.out.below hb2 (Nat.le_refl _) hb2.size)
      have HLb := Lib.hid (HLb.out.below hb2 (Nat.le_refl _) hb2.size)
      have HB := Lib.hid (HB.out.trans (hb2.mono HB.out.size))
      clear hb2
      have HT := Lib.hid (fewNo g.out HLb.out)
      go_wp2_with fail
      refine HT.out.mono ?_
      rintro r w3 ⟨rfl, hb3⟩
      clear HT
      have HLa := Lib.hid (HLa.out.below hb3 (Nat.le_refl _) hb3.size)
      have HLb := Lib.hid (HLb.out.below hb3 (Nat.le_refl _) hb3.size)
      have HB := Lib.hid (HB.out.trans (hb3.mono HB.out.size))
      clear hb3
      have HT := Lib.hid (liveI_any HK.out w3)
      go_wp2_with fail
      refine HT.out.mono ?_
      rintro r w4 ⟨rfl, hb4⟩
      clear HT
      have HLa := Lib.hid (HLa.out.below hb4 (Nat.le_refl _) hb4.size)
      have HLb := Lib.hid (HLb.out.below hb4 (Nat.le_refl _) hb4.size)
      have HB := Lib.hid (HB.out.trans (hb4.mono HB.out.size))
      clear hb4
      go_wp2_with fail
      go_ret
      exact ⟨rfl, HB.out⟩
    | true =>
      by_cases h3 : k.length ≤ 300
      · skip
        have f := Lib.hid hf
        have g := Lib.hid hg
        have hqa := fewI_ok hf
        have hqb := fewI_ok hg
        have la : a.length ≤ 1000 := hqa
        have lb : b.length ≤ 1000 := hqb
        clear hf hg
        have d1 : decide ((300 : Int) < (k.length : Int)) = false := by rw [decide_eq_false_iff_not]; omega
        have d1x : decide (300 < k.length) = false := by rw [decide_eq_false_iff_not]; omega
        have kz : ((bs k).size : Int) = (k.length : Int) := by rw [bs_size]
        clear h3
        have HIA := Lib.hid (fun (W : World) (h : ChI W W.heap.size A c a) => HK.out.has_in a A c k W hqa h)
        have HIB := Lib.hid (fun (W : World) (h : ChI W W.heap.size B d b) => HK.out.has_in b B d k W hqb h)
        have HM1 := Lib.hid (fun (W : World) (h : ChI W W.heap.size A c a) (g : ChI W W.heap.size B d b) => HK.out.meet a b A B c d W hqa hqb h g)
        have HM2 := Lib.hid (fun (W : World) (h : ChI W W.heap.size A c a) (g : ChI W W.heap.size B d b) => HK.out.meet b a B A d c W hqb hqa g h)
        have hmc := meet_comm b a
        rw [hmc] at HM2
        have hboth := fun (h1 : inS a k = true) (h2 : inS b k = true) => (meetB_iff a b).2 ⟨k, h1, h2⟩
        have HBoth := Lib.hid hboth
        have HHas := Lib.hid (fun (s : Sp) (m : List UInt8) (W : World) => HK.out.has s m W)
        clear hmc hboth hqa hqb
        go_enter Try.func9, Try.ntmps9
        have HT := Lib.hid (liveI_any HK.out w)
        go_wp2_with fail
        refine HT.out.mono ?_
        rintro r w1 ⟨rfl, hb1⟩
        clear HT
        have HLa := Lib.hid (HLa.out.below hb1 (Nat.le_refl _) hb1.size)
        have HLb := Lib.hid (HLb.out.below hb1 (Nat.le_refl _) hb1.size)
        have HB := Lib.hid (HB.out.trans (hb1.mono HB.out.size))
        clear hb1
        have HT := Lib.hid (fewYes f.out HLa.out)
        go_wp2_with fail
        refine HT.out.mono ?_
        rintro r w2 ⟨rfl, hb2⟩
        clear HT
        have HLa := Lib.hid (HLa.out.below hb2 (Nat.le_refl _) hb2.size)
        have HLb := Lib.hid (HLb.out.below hb2 (Nat.le_refl _) hb2.size)
        have HB := Lib.hid (HB.out.trans (hb2.mono HB.out.size))
        clear hb2
        have HT := Lib.hid (fewYes g.out HLb.out)
        go_wp2_with fail
        refine HT.out.mono ?_
        rintro r w3 ⟨rfl, hb3⟩
        clear HT
        have HLa := Lib.hid (HLa.out.below hb3 (Nat.le_refl _) hb3.size)
        have HLb := Lib.hid (HLb.out.below hb3 (Nat.le_refl _) hb3.size)
        have HB := Lib.hid (HB.out.trans (hb3.mono HB.out.size))
        clear hb3
        go_wp2_with fail
        go_loopg [7, 12, 33] a.length (fun q v _ i wr => ∃ j : Nat, j + q = a.length ∧ i = .int .i64 j ∧ v = .bool (meetB (a.take j) b) ∧ Below w3.heap.size w3 wr)
        case atStart => exact ⟨0, by omega, rfl, rfl, Below.refl _ _⟩
        case round =>
          obtain ⟨j, hk, rfl, rfl, hb⟩ := hrel
          obtain ⟨wo, hwo⟩ : ∃ y, y = wr := ⟨_, rfl⟩
          subst hwo
          obtain ⟨g0, hg0⟩ : ∃ y, y = gk := ⟨_, rfl⟩
          subst hg0
          have HKj := Lib.hid hk
          have HBj := Lib.hid hb
          clear hb hk
          by_cases hj : j < a.length
          · have hlt : decide ((j : Int) < (a.length : Int)) = true := by simpa using hj
            have hlt3 : decide (j < a.length) = true := by simpa using hj
            obtain ⟨bb, o, rfl, hbl0, c0, c1⟩ := (HLa.out.below HBj.out (Nat.le_refl _) (Nat.le_refl _)).at_ hj
            have HT := Lib.hid (show meetB (a.take (j + 1)) b = (meetB (a.take j) b || b.any fun y => meetsS a[j] y) by unfold meetB; rw [List.take_succ_eq_append_getElem hj, List.any_append]; simp)
            generalize a[j] = x at *
            generalize meetB (a.take j) b = v at *
            obtain ⟨xl, xh⟩ := x
            simp only at c0 c1
            obtain ⟨wt, hwt⟩ : ∃ y, wo.alloc (.cells #[.string (bs xl), .string (bs xh)] 60) = y := ⟨_, rfl⟩
            have hbt : Below w3.heap.size w3 wt := by rw [← hwt]; exact HBj.out.alloc HBj.out.size _
            have hnt : wt.heap[wo.heap.size]? = some (.cells #[.string (bs xl), .string (bs xh)] 60 (0, 0)) := by rw [← hwt]; exact heap_alloc_new wo _
            have HBt := Lib.hid hbt
            have HNt := Lib.hid hnt
            have HWt := Lib.hid hwt
            clear hbt hnt hwt hbl0
            go_upto_region 8 with fail
            rw [HWt.out]
            clear HWt c0 c1
            go_loopg [7, 12, 39] b.length (fun q u _ i wr => ∃ n : Nat, n + q = b.length ∧ i = .int .i64 n ∧ u = .bool (v || (b.take n).any fun y => meetsS ⟨xl, xh⟩ y) ∧ Below wt.heap.size wt wr)
            case atStart => exact ⟨0, by omega, rfl, by simp, Below.refl _ _⟩
            case round =>
              obtain ⟨n, hk, rfl, rfl, hb⟩ := hrel
              have HK2 := Lib.hid hk
              have HB2 := Lib.hid hb
              clear hb hk
              by_cases hn : n < b.length
              · have hlt4 : decide ((n : Int) < (b.length : Int)) = true := by simpa using hn
                have hlt5 : decide (n < b.length) = true := by simpa using hn
                obtain ⟨bc, oc, rfl, hbl1, d0, d1y⟩ := (HLb.out.below (HBt.out.trans (HB2.out.mono HBt.out.size)) (Nat.le_refl _) (Nat.le_refl _)).at_ hn
                have HT2 := Lib.hid (show (v || (b.take (n + 1)).any fun y => meetsS ⟨xl, xh⟩ y) = ((v || (b.take n).any fun y => meetsS ⟨xl, xh⟩ y) || meetsS ⟨xl, xh⟩ b[n]) by rw [List.take_succ_eq_append_getElem hn, List.any_append, Bool.or_assoc]; simp)
                clear hbl1
                generalize b[n] = y at *
                generalize (v || (b.take n).any fun y => meetsS ⟨xl, xh⟩ y) = u at *
                obtain ⟨yl, yh⟩ := y
                simp only at d0 d1y
                obtain ⟨ws, hws⟩ : ∃ y, wr.alloc (.cells #[.string (bs yl), .string (bs yh)] 60) = y := ⟨_, rfl⟩
                have hbs : Below wt.heap.size wt ws := by rw [← hws]; exact HB2.out.alloc HB2.out.size _
                have hns : ws.heap[wr.heap.size]? = some (.cells #[.string (bs yl), .string (bs yh)] 60 (0, 0)) := by rw [← hws]; exact heap_alloc_new wr _
                have BXx := Lib.hid (box_at HNt.out hbs)
                have BXy := Lib.hid hns
                have HBs := Lib.hid hbs
                have HWs := Lib.hid hws
                have HMx := run_max_sp (P := Try.prog) ws #[9, 9] 9 xl yl
                have hms : meetsS ⟨xl, xh⟩ ⟨yl, yh⟩ = (hasS ⟨xl, xh⟩ (maxS xl yl) && hasS ⟨yl, yh⟩ (maxS xl yl)) := rfl
                rw [hms] at HT2
                generalize maxS xl yl = m at *
                have H1 := Lib.hid (fun W => HHas.out ⟨xl, xh⟩ m W)
                have H2 := Lib.hid (fun W => HHas.out ⟨yl, yh⟩ m W)
                unfold spVal at H1 H2
                simp only at H1 H2
                clear hbs hns hws hms
                generalize hasS ⟨xl, xh⟩ m = p at *
                generalize hasS ⟨yl, yh⟩ m = q at *
                go_upto_region 10 with fail
                rw [HWs.out]
                clear HWs d0 d1y
                obtain ⟨x0, x1⟩ := box_read BXx.out
                obtain ⟨y0, y1⟩ := box_read BXy.out
                cases u with
                | true =>
                  rw [Bool.true_or] at HT2
                  clear H1 H2
                  go_wp2_with fail
                  go_roundg (gk - 1)
                  case measure => have := HK2.out; omega
                  case rel => exact ⟨n + 1, by have := HK2.out; omega, by go_num, by rw [HT2.out], HBs.out⟩
                | false =>
                  rw [Bool.false_or] at HT2
                  cases p with
                  | false =>
                    rw [Bool.false_and] at HT2
                    clear H2
                    go_wp2_with fail
                    refine (H1.out ws).mono ?_
                    rintro r w8 ⟨rfl, hb8⟩
                    have HB8 := Lib.hid (HBs.out.trans (hb8.mono HBs.out.size))
                    clear hb8 x0 x1 y0 y1
                    go_wp2_with fail
                    go_roundg (gk - 1)
                    case measure => have := HK2.out; omega
                    case rel => exact ⟨n + 1, by have := HK2.out; omega, by go_num, by rw [HT2.out], HB8.out⟩
                  | true =>
                    rw [Bool.true_and] at HT2
                    go_wp2_with fail
                    refine (H1.out ws).mono ?_
                    rintro r w8 ⟨rfl, hb8⟩
                    have HB8 := Lib.hid (HBs.out.trans (hb8.mono HBs.out.size))
                    clear x0 x1 y0 y1
                    obtain ⟨y0, y1⟩ := box_read (box_at BXy.out hb8)
                    clear hb8
                    go_wp2_with fail
                    refine (H2.out w8).mono ?_
                    rintro r w9 ⟨rfl, hb9⟩
                    have HB9 := Lib.hid (HB8.out.trans (hb9.mono HB8.out.size))
                    clear hb9 y0 y1
                    go_wp2_with fail
                    go_roundg (gk - 1)
                    case measure => have := HK2.out; omega
                    case rel => exact ⟨n + 1, by have := HK2.out; omega, by go_num, by rw [HT2.out], HB9.out⟩
              · have hn' : n = b.length := by have := HK2.out; omega
                have hlt4 : decide ((n : Int) < (b.length : Int)) = false := by simpa using hn
                have hlt5 : decide (n < b.length) = false := by simpa using hn
                have HF := Lib.hid (show (v || (b.take n).any fun y => meetsS ⟨xl, xh⟩ y) = meetB (a.take (j + 1)) b by rw [HT.out, hn', List.take_length])
                have HB1 := Lib.hid (HBt.out.trans (HB2.out.mono HBt.out.size))
                clear hn' HT
                generalize (v || (b.take n).any fun y => meetsS ⟨xl, xh⟩ y) = u at *
                go_wp2_with fail
                go_roundg (g0 - 1)
                case measure => have := HKj.out; omega
                case rel => exact ⟨j + 1, by have := HKj.out; omega, by go_num, by rw [HF.out], HB1.out⟩
          · have hj' : j = a.length := by have := HKj.out; omega
            have hlt : decide ((j : Int) < (a.length : Int)) = false := by simpa using hj
            have hlt2 : decide (j < a.length) = false := by simpa using hj
            have hv : meetB (a.take j) b = meetB a b := by rw [hj', List.take_length]
            clear hj hj'
            rw [hv]
            clear hv
            have hbz := HBj.out
            have HLa := Lib.hid (HLa.out.below hbz (Nat.le_refl _) hbz.size)
            have HLb := Lib.hid (HLb.out.below hbz (Nat.le_refl _) hbz.size)
            have HB := Lib.hid (HB.out.trans (hbz.mono HB.out.size))
            clear hbz
            generalize meetB a b = z at *
            cases hx : inS a k with
            | false =>
              rw [hx] at HIA
              clear hx HBoth
              have HT := Lib.hid (HIA.out wo HLa.out)
              go_wp2_with fail
              refine HT.out.mono ?_
              rintro r w21 ⟨rfl, hb21⟩
              clear HT
              have HLa := Lib.hid (HLa.out.below hb21 (Nat.le_refl _) hb21.size)
              have HLb := Lib.hid (HLb.out.below hb21 (Nat.le_refl _) hb21.size)
              have HB := Lib.hid (HB.out.trans (hb21.mono HB.out.size))
              clear hb21
              cases z
              all_goals
                have HT := Lib.hid (HM1.out w21 HLa.out HLb.out)
                go_wp2_with fail
                refine HT.out.mono ?_
                rintro r w22 ⟨rfl, hb22⟩
                clear HT
                have HLa := Lib.hid (HLa.out.below hb22 (Nat.le_refl _) hb22.size)
                have HLb := Lib.hid (HLb.out.below hb22 (Nat.le_refl _) hb22.size)
                have HB := Lib.hid (HB.out.trans (hb22.mono HB.out.size))
                clear hb22
                have HT := Lib.hid (HM2.out w22 HLa.out HLb.out)
                go_wp2_with fail
                refine HT.out.mono ?_
                rintro r w23 ⟨rfl, hb23⟩
                clear HT
                have HLa := Lib.hid (HLa.out.below hb23 (Nat.le_refl _) hb23.size)
                have HLb := Lib.hid (HLb.out.below hb23 (Nat.le_refl _) hb23.size)
                have HB := Lib.hid (HB.out.trans (hb23.mono HB.out.size))
                clear hb23
                go_wp2_with fail
                go_ret
                exact ⟨rfl, HB.out⟩
            | true =>
              cases hy : inS b k with
              | false =>
                rw [hx] at HIA
                rw [hy] at HIB
                clear hy
                clear hx HBoth
                have HT := Lib.hid (HIA.out wo HLa.out)
                go_wp2_with fail
                refine HT.out.mono ?_
                rintro r w21 ⟨rfl, hb21⟩
                clear HT
                have HLa := Lib.hid (HLa.out.below hb21 (Nat.le_refl _) hb21.size)
                have HLb := Lib.hid (HLb.out.below hb21 (Nat.le_refl _) hb21.size)
                have HB := Lib.hid (HB.out.trans (hb21.mono HB.out.size))
                clear hb21
                have HT := Lib.hid (HIB.out w21 HLb.out)
                go_wp2_with fail
                refine HT.out.mono ?_
                rintro r w22 ⟨rfl, hb22⟩
                clear HT
                have HLa := Lib.hid (HLa.out.below hb22 (Nat.le_refl _) hb22.size)
                have HLb := Lib.hid (HLb.out.below hb22 (Nat.le_refl _) hb22.size)
                have HB := Lib.hid (HB.out.trans (hb22.mono HB.out.size))
                clear hb22
                cases z
                all_goals
                  have HT := Lib.hid (HM1.out w22 HLa.out HLb.out)
                  go_wp2_with fail
                  refine HT.out.mono ?_
                  rintro r w23 ⟨rfl, hb23⟩
                  clear HT
                  have HLa := Lib.hid (HLa.out.below hb23 (Nat.le_refl _) hb23.size)
                  have HLb := Lib.hid (HLb.out.below hb23 (Nat.le_refl _) hb23.size)
                  have HB := Lib.hid (HB.out.trans (hb23.mono HB.out.size))
                  clear hb23
                  have HT := Lib.hid (HM2.out w23 HLa.out HLb.out)
                  go_wp2_with fail
                  refine HT.out.mono ?_
                  rintro r w24 ⟨rfl, hb24⟩
                  clear HT
                  have HLa := Lib.hid (HLa.out.below hb24 (Nat.le_refl _) hb24.size)
                  have HLb := Lib.hid (HLb.out.below hb24 (Nat.le_refl _) hb24.size)
                  have HB := Lib.hid (HB.out.trans (hb24.mono HB.out.size))
                  clear hb24
                  go_wp2_with fail
                  go_ret
                  exact ⟨rfl, HB.out⟩
              | true =>
                rw [hx] at HIA
                rw [hy] at HIB
                obtain rfl := HBoth.out hx hy
                clear hy
                clear hx HBoth
                have HT := Lib.hid (HIA.out wo HLa.out)
                go_wp2_with fail
                refine HT.out.mono ?_
                rintro r w21 ⟨rfl, hb21⟩
                clear HT
                have HLa := Lib.hid (HLa.out.below hb21 (Nat.le_refl _) hb21.size)
                have HLb := Lib.hid (HLb.out.below hb21 (Nat.le_refl _) hb21.size)
                have HB := Lib.hid (HB.out.trans (hb21.mono HB.out.size))
                clear hb21
                have HT := Lib.hid (HIB.out w21 HLb.out)
                go_wp2_with fail
                refine HT.out.mono ?_
                rintro r w22 ⟨rfl, hb22⟩
                clear HT
                have HLa := Lib.hid (HLa.out.below hb22 (Nat.le_refl _) hb22.size)
                have HLb := Lib.hid (HLb.out.below hb22 (Nat.le_refl _) hb22.size)
                have HB := Lib.hid (HB.out.trans (hb22.mono HB.out.size))
                clear hb22
                have HT := Lib.hid (HM1.out w22 HLa.out HLb.out)
                go_wp2_with fail
                refine HT.out.mono ?_
                rintro r w23 ⟨rfl, hb23⟩
                clear HT
                have HLa := Lib.hid (HLa.out.below hb23 (Nat.le_refl _) hb23.size)
                have HLb := Lib.hid (HLb.out.below hb23 (Nat.le_refl _) hb23.size)
                have HB := Lib.hid (HB.out.trans (hb23.mono HB.out.size))
                clear hb23
                have HT := Lib.hid (HM2.out w23 HLa.out HLb.out)
                go_wp2_with fail
                refine HT.out.mono ?_
                rintro r w24 ⟨rfl, hb24⟩
                clear HT
                have HLa := Lib.hid (HLa.out.below hb24 (Nat.le_refl _) hb24.size)
                have HLb := Lib.hid (HLb.out.below hb24 (Nat.le_refl _) hb24.size)
                have HB := Lib.hid (HB.out.trans (hb24.mono HB.out.size))
                clear hb24
                go_wp2_with fail
                go_ret
                exact ⟨rfl, HB.out⟩
      · skip
        have f := Lib.hid hf
        have g := Lib.hid hg
        clear hf hg
        have d1 : decide ((300 : Int) < (k.length : Int)) = true := by rw [decide_eq_true_iff]; omega
        have d1x : decide (300 < k.length) = true := by rw [decide_eq_true_iff]; omega
        have kz : ((bs k).size : Int) = (k.length : Int) := by rw [bs_size]
        clear h3
        go_enter Try.func9, Try.ntmps9
        have HT := Lib.hid (liveI_any HK.out w)
        go_wp2_with fail
        refine HT.out.mono ?_
        rintro r w1 ⟨rfl, hb1⟩
        clear HT
        have HLa := Lib.hid (HLa.out.below hb1 (Nat.le_refl _) hb1.size)
        have HLb := Lib.hid (HLb.out.below hb1 (Nat.le_refl _) hb1.size)
        have HB := Lib.hid (HB.out.trans (hb1.mono HB.out.size))
        clear hb1
        have HT := Lib.hid (fewYes f.out HLa.out)
        go_wp2_with fail
        refine HT.out.mono ?_
        rintro r w2 ⟨rfl, hb2⟩
        clear HT
        have HLa := Lib.hid (HLa.out.below hb2 (Nat.le_refl _) hb2.size)
        have HLb := Lib.hid (HLb.out.below hb2 (Nat.le_refl _) hb2.size)
        have HB := Lib.hid (HB.out.trans (hb2.mono HB.out.size))
        clear hb2
        have HT := Lib.hid (fewYes g.out HLb.out)
        go_wp2_with fail
        refine HT.out.mono ?_
        rintro r w3 ⟨rfl, hb3⟩
        clear HT
        have HLa := Lib.hid (HLa.out.below hb3 (Nat.le_refl _) hb3.size)
        have HLb := Lib.hid (HLb.out.below hb3 (Nat.le_refl _) hb3.size)
        have HB := Lib.hid (HB.out.trans (hb3.mono HB.out.size))
        clear hb3
        have HT := Lib.hid (liveI_any HK.out w3)
        go_wp2_with fail
        refine HT.out.mono ?_
        rintro r w4 ⟨rfl, hb4⟩
        clear HT
        have HLa := Lib.hid (HLa.out.below hb4 (Nat.le_refl _) hb4.size)
        have HLb := Lib.hid (HLb.out.below hb4 (Nat.le_refl _) hb4.size)
        have HB := Lib.hid (HB.out.trans (hb4.mono HB.out.size))
        clear hb4
        go_wp2_with fail
        go_ret
        exact ⟨rfl, HB.out⟩
end Go.Proofs.Ytooegjdppeiccaa.spanMeets
