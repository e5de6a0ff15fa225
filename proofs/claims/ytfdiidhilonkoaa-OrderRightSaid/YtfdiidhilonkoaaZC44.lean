import Derived.Test.YtfdiidhilonkoaaZC43
set_option linter.unusedVariables false
/-
  Package span, as it landed: united, its loop.
-/
namespace Go.Proofs.Ytfdiidhilonkoaa
open Go.RowKit

set_option maxRecDepth 100000 in
theorem dDelete_nil (w : World) : Calls Try.prog 54 #[.slice none 0 0, .int .i64 0, .int .i64 0] w fun e w' => e = .returned (.slice none 0 0) ∧ w = w' := by
  have e1 : ((0 : Int) == (0 : Int)) = true := rfl
  go_enter Try.func54, Try.ntmps54
  go_wp2
  go_ret
  exact ⟨rfl, rfl⟩
set_option maxRecDepth 100000 in
set_option maxHeartbeats 8000000 in
theorem dUnited_any (ms : List ML) (A : Option Addr) (c : Nat) (w : World) (hm : ms.length ≤ 100) (hl : (allL ms).length ≤ 100000) (hr : ChL w w.heap.size A ms) :
    Calls Try.prog 47 #[.slice A ms.length c] w fun e w' => ∃ v, e = .returned v ∧ OwnG 52 2 spCells w' w.heap.size v (joinSp (allL ms)) ∧ Below w.heap.size w w' := by
  have HC := Lib.hid (dConcat_any ms A c w hm (by omega) hr)
  clear hr
  go_enter Try.func47, Try.ntmps47
  go_wp2_with fail
  refine HC.out.mono ?_
  rintro r w1 ⟨v1, rfl, ho1, hb1⟩
  have HD := Lib.hid (dLaidO_any (allL ms) w.heap.size v1 w1 (by omega) ho1 hb1.size)
  have HB1 := Lib.hid hb1
  clear ho1 hb1 HC
  go_wp2_with fail
  refine HD.out.mono ?_
  rintro r w2 ⟨l, v2, hmem, hrise, hlen, rfl, ho2, hb2⟩
  have HJ := Lib.hid (united_eq hmem hrise)
  have HB2 := Lib.hid (HB1.out.trans hb2)
  have hll : l.length ≤ 100000 := by omega
  clear hmem hrise hlen HD hb2
  rcases ho2.blk with ⟨rfl, rfl⟩ | ⟨b, cap, rfl, hbl⟩
  · clear ho2
    have HN := Lib.hid (fun w => dDelete_nil w)
    have HE := Lib.hid (show joinSp (allL ms) = [] from HJ.out.symm)
    have hlt : decide ((0 : Int) < 0) = false := rfl
    have hlt2 : decide (0 < 0) = false := rfl
    go_wp2_with fail
    go_loopg [4, 12] 0 (fun q n i wr => n = .int .i64 0 ∧ i = .int .i64 0 ∧ w2 = wr)
    case atStart => exact ⟨rfl, rfl, rfl⟩
    case round =>
      obtain ⟨rfl, rfl, rfl⟩ := hrel
      go_wp2_with fail
      refine (HN.out w2).mono ?_
      rintro r w3 ⟨rfl, rfl⟩
      go_wp2_with fail
      go_ret
      exact ⟨_, rfl, by rw [HE.out]; exact OwnG.none_ _ _ _ _ _, HB2.out⟩
  · clear ho2
    have HLO := Lib.hid hbl.lt
    have HBl := Lib.hid hbl
    have HCap := Lib.hid hbl.len
    clear hbl
    go_wp2_with fail
    go_loopg [4, 6, 12] l.length (fun q vn _ vi wr => ∃ (j n : Nat) (L : List Sp), j + q = l.length ∧ vi = .int .i64 j ∧ vn = .int .i64 n ∧ UniI l L j n ∧ BlkI wr w.heap.size b cap L ∧ Below w.heap.size w wr)
    case atStart => exact ⟨0, 0, l, by omega, rfl, rfl, UniI.start l, HBl.out, HB2.out⟩
    case round =>
      obtain ⟨j, n, L, hk, rfl, rfl, hu, hbl, hbw⟩ := hrel
      have HK := Lib.hid hk
      have HU := Lib.hid hu
      have HBlr := Lib.hid hbl
      have HBw := Lib.hid hbw
      have hnj := hu.le
      clear hk hu hbl hbw
      by_cases hj : j < l.length
      · have hlt : decide ((j : Int) < (l.length : Int)) = true := by simpa using hj
        have hlt2 : decide (j < l.length) = true := by simpa using hj
        have hjL : j < L.length := by rw [HU.out.len]; exact hj
        have hnL : n < L.length := by omega
        have hnl : n < l.length := by omega
        have hnl2 : (n : Int) < (l.length : Int) := by omega
        have hcl := HBlr.out.at_ hjL
        rw [HU.out.at_ hj hjL] at hcl
        obtain ⟨c0, c1⟩ := hcl
        have HMore := Lib.hid (fun hs => HU.out.more hj hs)
        have HStore := Lib.hid (fun (W : World) (h : BlkI W w.heap.size b cap L) => h.store n (l[j]'hj) hnL)
        have HLess := Lib.hid (fun (q : Nat) (e : n = q + 1) (hq : q < L.length) (hg : gapB (L[q]'hq) (l[j]'hj) = false) => (show UniI l (L.set q ⟨(L[q]'hq).lo, laterS (L[q]'hq).hi (l[j]'hj).hi⟩) (j + 1) n by
          subst e
          exact HU.out.less hj hq hg))
        generalize l[j]'hj = x at *
        obtain ⟨xl, xh⟩ := x
        simp only at c0 c1
        obtain ⟨wt, hwt⟩ : ∃ y, wr.alloc (.cells #[.string (bs xl), .string (bs xh)] 52) = y := ⟨_, rfl⟩
        have hx := heap_alloc_new wr (.cells #[.string (bs xl), .string (bs xh)] 52)
        have hbt := HBlr.out.allocs (.cells #[.string (bs xl), .string (bs xh)] 52)
        have hwb : Below w.heap.size w wt := by rw [← hwt]; exact HBw.out.alloc HBw.out.size _
        rw [hwt] at hx hbt
        have HBx := Lib.hid (fun (W : World) (h : Below wt.heap.size wt W) => And.intro (cell_of_row W wr.heap.size 0 _ _ _ (heap_below hx h (lt_of_heap hx))) (cell_of_row W wr.heap.size 1 _ _ _ (heap_below hx h (lt_of_heap hx))))
        have HBt := Lib.hid hbt
        have HWt := Lib.hid hwb
        have HLt := Lib.hid hwb.size
        have HWw := Lib.hid hwt
        clear hx hbt hwb hwt HU
        by_cases h0 : n = 0
        · subst h0
          have HMo := Lib.hid (HMore.out (.inl rfl))
          have HSt := HStore
          have HCl := HBx
          have e0 : ((0 : Int) == 0) = true := rfl
          clear HMore HStore HLess
          go_upto_region 6 with fail
          rw [HWw.out]
          clear HWw c0 c1
          refine wp_region_classJ (C := fun W => Below wt.heap.size wt W) (by kernel_rfl) (by kernel_rfl) ((Below.refl _ _).drew) ?_
          repeat (
            refine no_implicit_lambda% (wpQuiet_step ?_)
            intro K hK
            go_simp
            first
            | (refine no_implicit_lambda% (hK _ ?_); clear hK K)
            | (apply Exists.intro
               refine ⟨fun _ => ?_, hK _ ?_⟩
               (first
                 | (intro hw; obtain ⟨z0, z1⟩ := HCl.out _ hw; go_simp; with_reducible exact ⟨rfl, rfl⟩)
                 | (intro hw; obtain ⟨z0, z1⟩ := HCl.out _ hw; go_simp; with_reducible rfl)
                 | (intro _; with_reducible rfl)
                 | (intro hw; go_simp; with_reducible exact ⟨rfl, rfl⟩))
               clear hK K))
          refine wpQuiet_nil ?_
          intro w8 hb8
          have hbl8 := HBt.out.below hb8
          obtain ⟨x0, x1⟩ := HBx.out w8 hb8
          obtain ⟨b0, b1⟩ := hbl8.at_ hnL
          have f0 := hbl8.frozen (0 * 2)
          have f1 := hbl8.frozen (0 * 2 + 1)
          simp only [Nat.zero_mul] at b0 b1 f0 f1
          have HBl8 := Lib.hid hbl8
          have HW8 := Lib.hid (HWt.out.trans (hb8.mono HLt.out))
          clear hb8 hbl8
          go_wp2_with fail
          go_roundg (gk - 1)
          case measure => have := HK.out; omega
          case rel => exact ⟨j + 1, 0 + 1, _, by have := HK.out; omega, by go_num, by go_num, HMo.out, (by have h := HSt.out _ HBl8.out; simpa only [Nat.zero_mul] using h), ((HW8.out.setCell HLO.out.1 _).setCell HLO.out.1 _)⟩
        · obtain ⟨q, hq⟩ : ∃ q, n = q + 1 := ⟨n - 1, by omega⟩
          have hpL : q < L.length := by omega
          have hpl : q < l.length := by omega
          have hql : (q : Int) < (l.length : Int) := by omega
          have g0 : ((n : Int) == 0) = false := by rw [beq_eq_false_iff_ne]; omega
          have e1 : IntKind.i64.wrap ((n : Int) - 1) = (q : Int) := by simp [IntKind.wrap, IntKind.bits, IntKind.signed]; omega
          have g2 : ¬ ((n : Int) = 0) := by omega
          have HCl := Lib.hid (fun (W : World) (h : Below wt.heap.size wt W) => And.intro (HBx.out W h).1 (And.intro (HBx.out W h).2 ((HBt.out.below h).at_ hpL)))
          have hLe := HLess.out q hq hpL
          have hMo : gapB (L[q]'hpL) ⟨xl, xh⟩ = true → UniI l (L.set n ⟨xl, xh⟩) (j + 1) (n + 1) := fun hg => HMore.out (.inr ⟨show n - 1 < L.length by omega, by
            have e9 : n - 1 = q := by omega
            simp only [e9]
            exact hg⟩)
          have HSh0 := Lib.hid (fun (W : World) (h : BlkI W w.heap.size b cap L) => h.store_hi q (laterS (L[q]'hpL).hi xh) hpL)
          have HAtq := Lib.hid (fun (W : World) (h : BlkI W w.heap.size b cap L) => h.at_ hpL)
          have HSt := HStore
          clear HMore HStore HLess h0 hq
          generalize L[q]'hpL = y at *
          obtain ⟨yl, yh⟩ := y
          simp only at HSh0 hLe HAtq HCl hMo
          have hAp := fun (W : World) (h : Below wt.heap.size wt W) => (dApart_any ⟨yl, yh⟩ ⟨xl, xh⟩ W).mono fun r w' (q : r = .returned (.bool (gapB ⟨yl, yh⟩ ⟨xl, xh⟩)) ∧ Below W.heap.size W w') => (⟨q.1, h.trans (q.2.mono h.size)⟩ : r = .returned (.bool (gapB ⟨yl, yh⟩ ⟨xl, xh⟩)) ∧ Below wt.heap.size wt w')
          unfold spVal at hAp
          simp only at hAp
          cases hg : gapB ⟨yl, yh⟩ ⟨xl, xh⟩ with
          | true =>
            rw [hg] at hAp
            have HAp := Lib.hid hAp
            have HMo := Lib.hid (hMo hg)
            clear hg hAp hMo hLe HSh0
            go_upto_region 6 with fail
            rw [HWw.out]
            clear HWw c0 c1
            refine wp_region_classJ (C := fun W => Below wt.heap.size wt W) (by kernel_rfl) (by kernel_rfl) ((Below.refl _ _).drew) ?_
            repeat (
              refine no_implicit_lambda% (wpQuiet_step ?_)
              intro K hK
              go_simp
              first
              | (refine no_implicit_lambda% (hK _ ?_); clear hK K)
              | (apply Exists.intro
                 refine ⟨fun _ => ?_, hK _ ?_⟩
                 (first
                   | (intro hw; with_reducible exact HAp.out _ hw)
                   | (intro hw; obtain ⟨z0, z1, z2, z3⟩ := HCl.out _ hw; go_simp; with_reducible exact ⟨rfl, rfl⟩)
                   | (intro hw; obtain ⟨z0, z1, z2, z3⟩ := HCl.out _ hw; go_simp; with_reducible rfl)
                   | (intro hw; simp only [go_sem, e1]; with_reducible exact ⟨rfl, rfl⟩)
                   | (intro _; with_reducible rfl)
                   | (intro hw; go_simp; with_reducible exact ⟨rfl, rfl⟩))
                 clear hK K))
            refine wpQuiet_nil ?_
            intro w8 hb8
            have hbl8 := HBt.out.below hb8
            obtain ⟨x0, x1⟩ := HBx.out w8 hb8
            obtain ⟨b0, b1⟩ := hbl8.at_ hnL
            have f0 := hbl8.frozen (n * 2)
            have f1 := hbl8.frozen (n * 2 + 1)
            have HBl8 := Lib.hid hbl8
            have HW8 := Lib.hid (HWt.out.trans (hb8.mono HLt.out))
            clear hb8 hbl8
            go_wp2_with fail
            go_roundg (gk - 1)
            case measure => have := HK.out; omega
            case rel => exact ⟨j + 1, n + 1, _, by have := HK.out; omega, by go_num, by go_num, HMo.out, HSt.out _ HBl8.out, ((HW8.out.setCell HLO.out.1 _).setCell HLO.out.1 _)⟩
          | false =>
            rw [hg] at hAp
            have HAp := Lib.hid hAp
            have HLe := Lib.hid (hLe hg)
            have HSh := HSh0
            clear hg hAp hMo hLe HSt HSh0
            go_upto_region 6 with fail
            rw [HWw.out]
            clear HWw c0 c1
            refine wp_region_classJ (C := fun W => Below wt.heap.size wt W) (by kernel_rfl) (by kernel_rfl) ((Below.refl _ _).drew) ?_
            repeat (
              refine no_implicit_lambda% (wpQuiet_step ?_)
              intro K hK
              go_simp
              first
              | (refine no_implicit_lambda% (hK _ ?_); clear hK K)
              | (apply Exists.intro
                 refine ⟨fun _ => ?_, hK _ ?_⟩
                 (first
                   | (intro hw; with_reducible exact HAp.out _ hw)
                   | (intro hw; obtain ⟨z0, z1, z2, z3⟩ := HCl.out _ hw; go_simp; with_reducible exact ⟨rfl, rfl⟩)
                   | (intro hw; obtain ⟨z0, z1, z2, z3⟩ := HCl.out _ hw; go_simp; with_reducible rfl)
                   | (intro hw; simp only [go_sem, e1]; with_reducible exact ⟨rfl, rfl⟩)
                   | (intro _; with_reducible rfl)
                   | (intro hw; go_simp; with_reducible exact ⟨rfl, rfl⟩))
                 clear hK K))
            refine wpQuiet_nil ?_
            intro w8 hb8
            have hbl8 := HBt.out.below hb8
            have HBl8 := Lib.hid hbl8
            have HW8 := Lib.hid (HWt.out.trans (hb8.mono HLt.out))
            have HB8 := Lib.hid hb8
            clear hb8 hbl8
            go_upto_region 9 with fail
            have HCl8 := Lib.hid (fun (W : World) (h : Below w8.heap.size w8 W) => HCl.out W (HB8.out.trans (h.mono HB8.out.size)))
            have HLa := Lib.hid (fun (W : World) (h : Below w8.heap.size w8 W) => (dLater_any yh xh W).mono fun r w' (q : r = .returned (.string (bs (laterS yh xh))) ∧ W = w') => (⟨q.1, q.2 ▸ h⟩ : r = .returned (.string (bs (laterS yh xh))) ∧ Below w8.heap.size w8 w'))
            generalize laterS yh xh = yq at *
            refine wp_region_class_tail (C := fun W => Below w8.heap.size w8 W) 14 (by kernel_rfl) (by kernel_rfl) (Below.refl _ _).drew ?_
            simp only [List.take_succ_cons, List.take_zero, List.drop_succ_cons, List.drop_zero]
            repeat (
              refine no_implicit_lambda% (wpQuiet_step ?_)
              intro K hK
              go_simp
              first
              | (refine no_implicit_lambda% (hK _ ?_); clear hK K)
              | (apply Exists.intro
                 refine ⟨fun _ => ?_, hK _ ?_⟩
                 (first
                   | (intro _; with_reducible rfl)
                   | (intro hw; with_reducible exact HLa.out _ hw)
                   | (intro hw; simp only [go_sem, e1]; with_reducible exact ⟨rfl, rfl⟩)
                   | (intro hw; obtain ⟨z0, z1, z2, z3⟩ := HCl8.out _ hw; go_simp; with_reducible exact ⟨rfl, rfl⟩)
                   | (intro hw; obtain ⟨z0, z1, z2, z3⟩ := HCl8.out _ hw; go_simp; with_reducible rfl)
                   | (intro hw; go_simp; with_reducible exact ⟨rfl, rfl⟩))
                 clear hK K))
            refine wpQuiet_nil ?_
            intro w9 hb9
            have hbl9 := HBl8.out.below hb9
            obtain ⟨b0, b1⟩ := hbl9.at_ hpL
            have f1 := hbl9.frozen (q * 2 + 1)
            have HBl9 := Lib.hid hbl9
            have HW9 := Lib.hid (HW8.out.trans (hb9.mono (Nat.le_trans HLt.out HB8.out.size)))
            clear hb9 hbl9
            go_wp2_with fail
            go_roundg (gk - 1)
            case measure => have := HK.out; omega
            case rel => exact ⟨j + 1, n, _, by have := HK.out; omega, by go_num, rfl, HLe.out, HSh.out _ HBl9.out, (HW9.out.setCell HLO.out.1 _)⟩
      · have hj' : j = l.length := by have := HK.out; omega
        subst hj'
        have hlt : decide ((l.length : Int) < (l.length : Int)) = false := by simp
        have hlt2 : decide (l.length < l.length) = false := by simp
        have hLl := HU.out.len
        have hTk : L.take n ++ L.drop l.length = joinSp (allL ms) := by
          rw [HU.out.end_, ← hLl, List.drop_length, List.append_nil]
          exact HJ.out
        have hdel := dDelete_any L n L.length w.heap.size b cap wr (by omega) (Nat.le_refl _) (by omega) HBlr.out HBw.out.size
        rw [hLl, hTk] at hdel
        have HDel := Lib.hid hdel
        clear hj hdel hTk hLl HU
        go_wp2_with fail
        refine HDel.out.mono ?_
        rintro r w9 ⟨rfl, hb9, hw9⟩
        go_wp2_with fail
        go_ret
        exact ⟨_, rfl, hb9.own, HBw.out.trans hw9⟩
end Go.Proofs.Ytfdiidhilonkoaa
