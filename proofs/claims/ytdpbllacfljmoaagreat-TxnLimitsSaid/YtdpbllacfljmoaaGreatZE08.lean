import Derived.Test.YtdpbllacfljmoaaGreatZE07
import Derived.Test.YtdpbllacfljmoaaGreatZE04
set_option maxRecDepth 100000
set_option maxHeartbeats 16000000
set_option linter.unusedVariables false
namespace Go.Proofs.YtdpbllacfljmoaaGreat
open Go.RowKit
theorem qgk (a b c d : List UInt8) (w : World) : (Op.equalIn 10000 131 (.agg #[.string (bs a), .string (bs b)]) (.agg #[.string (bs c), .string (bs d)])).run Tryz.prog w = .ok (decide ((⟨a, b⟩ : Sp) = ⟨c, d⟩)) w := by
 simp [go_sem, Tryz.underlying131, Tryz.underlying9, q1g]
 by_cases h1 : a = c
 ·by_cases h2 : b = d
  ·simp [h1, h2]
  ·simp [h1, h2]
 ·simp [h1]
theorem qf2 (l m : List Sp) (A B : Option Addr) (c d : Nat) (w : World) (hl : l.length ≤ 9223372036854775807) (hm : m.length ≤ 9223372036854775807) (hr : RowG q05 w 0 w.heap.size A l) (hrm : RowG q05 w 0 w.heap.size B m) :
    Calls Tryz.prog 72 #[.slice A l.length c, .slice B m.length d] w fun r w' => r = .returned (.bool (q9Y l m)) ∧ Below w.heap.size w w' := by
  by_cases hlen : l.length = m.length
  · have HR := qh hr
    have HRM := qh hrm
    rw [hlen]
    have HLen := qh hlen
    clear hr hrm hlen hl
    go_enter Tryz.func72, Tryz.ntmps72
    go_wp2
    go_loopg [5, 13] m.length (fun q _ i wr => ∃ j : Nat, j + q = m.length ∧ i = .int .i64 j ∧ l.take j = m.take j ∧ Below w.heap.size w wr)
    case atStart => exact ⟨0, by omega, rfl, rfl, Below.refl _ _⟩
    case round =>
      obtain ⟨j, hk, rfl, hall, hb⟩ := hrel
      have HK := qh hk
      have HA := qh hall
      have HB := qh hb
      clear hall hb hk
      by_cases hjm : j < m.length
      · have hlt : decide ((j : Int) < (m.length : Int)) = true := by simpa using hjm
        have hlt3 : decide (j < m.length) = true := by simpa using hjm
        have hj : j < l.length := by rw [HLen.out]; exact hjm
        obtain ⟨b, o, rfl, _, hbl, hc⟩ := (HR.out.below HB.out (Nat.le_refl _)).at_ spF hj
        obtain ⟨b', o', rfl, _, hbl2, hc2⟩ := (HRM.out.below HB.out (Nat.le_refl _)).at_ spF hjm
        have HT1 := qh (show l.take (j + 1) = l.take j ++ [l[j]] from by rw [List.take_succ_eq_append_getElem hj])
        have HT2 := qh (show m.take (j + 1) = m.take j ++ [m[j]] from by rw [List.take_succ_eq_append_getElem hjm])
        have HNe := qh (fun (h : l[j] ≠ m[j]) => (show q9Y l m = false by
          unfold q9Y
          rw [decide_eq_false_iff_not]
          intro e
          subst e
          exact h rfl))
        have c0 := hc 0 _ rfl
        have c1 := hc 1 _ rfl
        have d0 := hc2 0 _ rfl
        have d1 := hc2 1 _ rfl
        simp only [Nat.add_zero] at c0 d0
        have hsz := HB.out.size
        clear hc hc2
        generalize l[j] = x at *
        generalize m[j] = y at *
        obtain ⟨x1, x2⟩ := x
        obtain ⟨y1, y2⟩ := y
        simp only at c0 c1 d0 d1
        have HCl := qh (fun (W : World) (h : Below wr.heap.size wr W) => And.intro ((h.cell (p := ⟨b, o + j * 2, none⟩) (by simp only; omega)).trans c0) (And.intro ((h.cell (p := ⟨b, o + j * 2 + 1, none⟩) (by simp only; omega)).trans c1) (And.intro ((h.cell (p := ⟨b', o' + j * 2, none⟩) (by simp only; omega)).trans d0) ((h.cell (p := ⟨b', o' + j * 2 + 1, none⟩) (by simp only; omega)).trans d1))))
        clear c0 c1 d0 d1 hsz hbl hbl2
        have hEq := qgk x1 x2 y1 y2
        generalize hE : decide ((⟨x1, x2⟩ : Sp) = ⟨y1, y2⟩) = E at *
        have HE := qh hE
        have HEq := qh hEq
        clear hE hEq
        clear HEq
        cases E
        · have hne := of_decide_eq_false HE.out
          have HF := qh (HNe.out hne)
          have hfirst : ¬ (bs x1).toList = (bs y1).toList ∨ (x1 = y1 ∧ ¬ (bs x2).toList = (bs y2).toList) := by
            rw [q1g, q1g, q1g, q1g]
            by_cases e1 : x1 = y1
            · exact .inr ⟨e1, fun e2 => hne (by rw [e1, e2])⟩
            · exact .inl e1
          clear hne
          rcases hfirst with t1 | ⟨rfl, t2⟩
          all_goals
            go_wp2
            refine q04 (C := fun w' => Below wr.heap.size wr w') (by kernel_rfl) (by kernel_rfl) ((Below.refl _ _).drew) ?_
            repeat (
              refine no_implicit_lambda% (wpQuiet_step ?_)
              intro K hK
              go_simp
              first
              | (refine no_implicit_lambda% (hK _ ?_); clear hK K)
              | (apply Exists.intro
                 refine ⟨fun _ => ?_, hK _ ?_⟩
                 (first
                   | (intro hw; obtain ⟨z0, z1, z2, z3⟩ := HCl.out _ hw; go_simp; with_reducible exact ⟨rfl, rfl⟩)
                   | (intro hw; obtain ⟨z0, z1, z2, z3⟩ := HCl.out _ hw; go_simp; with_reducible rfl)
                   | (intro hw; go_simp; with_reducible rfl)
                   | (intro _; with_reducible rfl)
                   | (intro hw; go_simp; with_reducible exact ⟨rfl, rfl⟩))
                 clear hK K))
            refine wpQuiet_nil ?_
            intro w8 hb8
            have HB8 := qh hb8
            clear hb8
            go_wp2_with fail
            go_ret
            rw [HF.out]
            exact ⟨rfl, HB.out.trans (HB8.out.mono HB.out.size)⟩
        · have hqq := of_decide_eq_true HE.out
          have HF := qh hqq
          simp only [Sp.mk.injEq] at hqq
          obtain ⟨rfl, rfl⟩ := hqq
          all_goals
            go_wp2
            refine q04 (C := fun w' => Below wr.heap.size wr w') (by kernel_rfl) (by kernel_rfl) ((Below.refl _ _).drew) ?_
            repeat (
              refine no_implicit_lambda% (wpQuiet_step ?_)
              intro K hK
              go_simp
              first
              | (refine no_implicit_lambda% (hK _ ?_); clear hK K)
              | (apply Exists.intro
                 refine ⟨fun _ => ?_, hK _ ?_⟩
                 (first
                   | (intro hw; obtain ⟨z0, z1, z2, z3⟩ := HCl.out _ hw; go_simp; with_reducible exact ⟨rfl, rfl⟩)
                   | (intro hw; obtain ⟨z0, z1, z2, z3⟩ := HCl.out _ hw; go_simp; with_reducible rfl)
                   | (intro hw; go_simp; with_reducible rfl)
                   | (intro _; with_reducible rfl)
                   | (intro hw; go_simp; with_reducible exact ⟨rfl, rfl⟩))
                 clear hK K))
            refine wpQuiet_nil ?_
            intro w8 hb8
            have HB8 := qh hb8
            clear hb8
            go_wp2_with fail
            go_roundg (gk - 1)
            case measure => have := HK.out; omega
            case rel => exact ⟨j + 1, by have := HK.out; omega, by go_num, by rw [HT1.out, HT2.out, HA.out], HB.out.trans (HB8.out.mono HB.out.size)⟩
      · have hj' : j = m.length := by have := HK.out; omega
        have hlt : decide ((j : Int) < (m.length : Int)) = false := by simpa using hjm
        have HF := qh (show q9Y l m = true by
          have h := HA.out
          rw [hj', List.take_length, ← HLen.out, List.take_length] at h
          unfold q9Y
          rw [decide_eq_true_iff]
          exact h)
        clear hj'
        go_wp2
        go_ret
        rw [HF.out]
        exact ⟨rfl, HB.out⟩
  · have hle : ((l.length : Int) == (m.length : Int)) = false := by rw [beq_eq_false_iff_ne]; omega
    have hle2 : ((l.length : Int) != (m.length : Int)) = true := by rw [bne, hle]; rfl
    have e : q9Y l m = false := by unfold q9Y; rw [decide_eq_false_iff_not]; intro e; exact hlen (by rw [e])
    rw [e]
    clear e hlen hr hrm
    go_enter Tryz.func72, Tryz.ntmps72
    go_wp2
    go_ret
    exact ⟨rfl, Below.refl _ _⟩
theorem q3Y (l : List Sp) (A : Option Addr) (c : Nat) (w : World) (hl : l.length ≤ 4294967296) (hr : RowG q05 w 0 w.heap.size A l) :
    Calls Tryz.prog 86 #[.slice A l.length c] w fun r w' => r = .returned (.bool (q2G l)) ∧ Below w.heap.size w w' := by
  have HR := qh hr
  clear hr
  go_enter Tryz.func86, Tryz.ntmps86
  go_wp2
  go_loopg [3, 7] l.length (fun q _ i wr => ∃ j : Nat, j + q = l.length ∧ i = .int .i64 j ∧ q6U l j ∧ Below w.heap.size w wr)
  case atStart => exact ⟨0, by omega, rfl, q8x _, Below.refl _ _⟩
  case round =>
    obtain ⟨j, hk, rfl, hall, hb⟩ := hrel
    have HK := qh hk
    have HA := qh hall
    have HB := qh hb
    clear hall hb hk
    by_cases hj : j < l.length
    · have hlt : decide ((j : Int) < (l.length : Int)) = true := by simpa using hj
      have hlt3 : decide (j < l.length) = true := by simpa using hj
      have hR := HR.out.below HB.out (Nat.le_refl _)
      have HR1 := qh hR
      obtain ⟨b, o, rfl, _, hbl, hc⟩ := hR.at_ spF hj
      have c0 := hc 0 _ rfl
      have c1 := hc 1 _ rfl
      simp only [Nat.add_zero] at c0
      have HG := qh (fun h1 h2 => q8w HA.out hj h1 h2)
      have HBad := qh (fun h => q7X hj h)
      have HGap := qh (fun (i : Nat) (hi : i + 1 = j) => qc0 hi hj)
      have hbw := Nat.lt_of_lt_of_le hbl HB.out.size
      obtain ⟨p, hp⟩ : ∃ p, p = j - 1 := ⟨_, rfl⟩
      have hpl : p < l.length := by omega
      obtain ⟨b9, o9, e9, _, hb9, hc9⟩ := hR.at_ spF hpl
      obtain ⟨rfl, rfl⟩ : b = b9 ∧ o = o9 := by simpa using e9
      have p1 := hc9 1 _ rfl
      have HP := qh (show ∀ (i : Nat) (hi : i + 1 = j), l[i]'(by omega) = l[p] from fun i hi => by
        have : i = p := by omega
        subst this
        rfl)
      have HPj := qh hp
      clear hc hc9 hR e9 hp
      generalize l[j] = x at *
      generalize l[p] = y at *
      obtain ⟨x1, x2⟩ := x
      obtain ⟨y1, y2⟩ := y
      simp only at c0 c1 p1
      obtain ⟨wt, hwt⟩ : ∃ y, wr.alloc (.cells #[.string (bs x1), .string (bs x2)] 131) = y := ⟨_, rfl⟩
      have hbt : Below w.heap.size w wt := by rw [← hwt]; exact HB.out.alloc HB.out.size _
      have hrt : Below wr.heap.size wr wt := by rw [← hwt]; exact (Below.refl _ _).alloc (Nat.le_refl _) _
      have hnt : wt.heap[wr.heap.size]? = some (.cells #[.string (bs x1), .string (bs x2)] 131 (0, 0)) := by rw [← hwt]; exact heap_alloc_new wr _
      have hst : wr.heap.size < wt.heap.size := by rw [← hwt]; simp
      have HCl := qh (fun (W : World) (h : Below wt.heap.size wt W) => And.intro (cell_of_row W wr.heap.size 0 _ _ _ (q01 hnt h hst)) (And.intro (cell_of_row W wr.heap.size 1 _ _ _ (q01 hnt h hst)) (((h.cell (p := ⟨b, o + p * 2 + 1, none⟩) (by simp only; omega)).trans (hrt.cell (p := ⟨b, o + p * 2 + 1, none⟩) hbw)).trans p1)))
      have HBt := qh hbt
      have HWt := qh hwt
      have hC := fun (W : World) (h : Below wt.heap.size wt W) => (q7C (⟨x1, x2⟩ : Sp) W).mono fun r w' (q : r = .returned (.bool (q0e ⟨x1, x2⟩)) ∧ Below W.heap.size W w') => (⟨q.1, h.trans (q.2.mono h.size)⟩ : r = .returned (.bool (q0e ⟨x1, x2⟩)) ∧ Below wt.heap.size wt w')
      unfold q0J at hC
      simp only at hC
      clear hnt hst hrt hbt hwt hbw p1 hb9 hbl
      cases hq : q0e (⟨x1, x2⟩ : Sp) with
      | false =>
        rw [hq] at hC
        have HC := qh hC
        have hF := HBad.out hq
        clear hq hC HG HGap HP HBad
        go_upto_region 4 with fail
        rw [HWt.out]
        clear HWt
        refine q04 (C := fun w' => Below wt.heap.size wt w') (by kernel_rfl) (by kernel_rfl) ((Below.refl _ _).drew) ?_
        repeat (
          refine no_implicit_lambda% (wpQuiet_step ?_)
          intro K hK
          go_simp
          first
          | (refine no_implicit_lambda% (hK _ ?_); clear hK K)
          | (apply Exists.intro
             refine ⟨fun _ => ?_, hK _ ?_⟩
             (first
               | (intro hw; with_reducible exact HC.out _ hw)
               | (intro hw; obtain ⟨z0, z1, z2⟩ := HCl.out _ hw; go_simp; with_reducible exact ⟨rfl, rfl⟩)
               | (intro hw; obtain ⟨z0, z1, z2⟩ := HCl.out _ hw; go_simp; with_reducible rfl)
               | (intro hw; simp only [go_sem, e1]; with_reducible exact ⟨rfl, rfl⟩)
               | (intro _; with_reducible rfl)
               | (intro hw; go_simp; with_reducible exact ⟨rfl, rfl⟩))
             clear hK K))
        refine wpQuiet_nil ?_
        intro w8 hb8
        have HB8 := qh (HBt.out.trans (hb8.mono HBt.out.size))
        clear hb8
        go_wp2_with fail
        go_ret
        rw [hF]
        exact ⟨rfl, HB8.out⟩
      | true =>
        rw [hq] at hC
        have HC := qh hC
        clear hC HBad
        by_cases h0 : j = 0
        · have g0 : decide ((0 : Int) < (j : Int)) = false := by rw [decide_eq_false_iff_not]; omega
          have g1 : decide (0 < j) = false := by rw [decide_eq_false_iff_not]; omega
          have HF := qh (HG.out hq fun i hi => by omega)
          clear hq HG HGap HP h0
          go_upto_region 4 with fail
          rw [HWt.out]
          clear HWt
          refine q04 (C := fun w' => Below wt.heap.size wt w') (by kernel_rfl) (by kernel_rfl) ((Below.refl _ _).drew) ?_
          repeat (
            refine no_implicit_lambda% (wpQuiet_step ?_)
            intro K hK
            go_simp
            first
            | (refine no_implicit_lambda% (hK _ ?_); clear hK K)
            | (apply Exists.intro
               refine ⟨fun _ => ?_, hK _ ?_⟩
               (first
                 | (intro hw; with_reducible exact HC.out _ hw)
                 | (intro hw; obtain ⟨z0, z1, z2⟩ := HCl.out _ hw; go_simp; with_reducible exact ⟨rfl, rfl⟩)
                 | (intro hw; obtain ⟨z0, z1, z2⟩ := HCl.out _ hw; go_simp; with_reducible rfl)
                 | (intro hw; simp only [go_sem, e1]; with_reducible exact ⟨rfl, rfl⟩)
                 | (intro _; with_reducible rfl)
                 | (intro hw; go_simp; with_reducible exact ⟨rfl, rfl⟩))
               clear hK K))
          refine wpQuiet_nil ?_
          intro w8 hb8
          have HB8 := qh (HBt.out.trans (hb8.mono HBt.out.size))
          clear hb8
          go_wp2_with fail
          go_roundg (gk - 1)
          case measure => have := HK.out; omega
          case rel => exact ⟨j + 1, by have := HK.out; omega, by go_num, HF.out, HB8.out⟩
        · have g0 : decide ((0 : Int) < (j : Int)) = true := by rw [decide_eq_true_iff]; omega
          have g1 : decide (0 < j) = true := by rw [decide_eq_true_iff]; omega
          have e1 : IntKind.i64.wrap ((j : Int) - 1) = (p : Int) := by have := HPj.out; simp [IntKind.wrap, IntKind.bits, IntKind.signed]; omega
          have gb := fun (q : gapB ⟨y1, y2⟩ ⟨x1, x2⟩ = false) => HGap.out p (by have := HPj.out; omega) (by rw [HP.out p (by have := HPj.out; omega)]; exact q)
          have gg := fun (q : gapB ⟨y1, y2⟩ ⟨x1, x2⟩ = true) => HG.out hq fun i hi => by rw [HP.out i hi]; exact q
          have GB := qh gb
          have GG := qh gg
          clear gb gg HG HGap HP hq h0
          have hlq := qge x1 y2
          cases hy : y2.isEmpty with
          | true =>
            obtain ⟨q1, q2⟩ := qbA hy
            have hF := GB.out (by simp [gapB, hy])
            clear hy GG GB hlq
            go_upto_region 4 with fail
            rw [HWt.out]
            clear HWt
            refine q04 (C := fun w' => Below wt.heap.size wt w') (by kernel_rfl) (by kernel_rfl) ((Below.refl _ _).drew) ?_
            repeat (
              refine no_implicit_lambda% (wpQuiet_step ?_)
              intro K hK
              go_simp
              first
              | (refine no_implicit_lambda% (hK _ ?_); clear hK K)
              | (apply Exists.intro
                 refine ⟨fun _ => ?_, hK _ ?_⟩
                 (first
                   | (intro hw; with_reducible exact HC.out _ hw)
                   | (intro hw; obtain ⟨z0, z1, z2⟩ := HCl.out _ hw; go_simp; with_reducible exact ⟨rfl, rfl⟩)
                   | (intro hw; obtain ⟨z0, z1, z2⟩ := HCl.out _ hw; go_simp; with_reducible rfl)
                   | (intro hw; simp only [go_sem, e1]; with_reducible exact ⟨rfl, rfl⟩)
                   | (intro _; with_reducible rfl)
                   | (intro hw; go_simp; with_reducible exact ⟨rfl, rfl⟩))
                 clear hK K))
            refine wpQuiet_nil ?_
            intro w8 hb8
            have HB8 := qh (HBt.out.trans (hb8.mono HBt.out.size))
            clear hb8
            go_wp2_with fail
            go_ret
            rw [hF]
            exact ⟨rfl, HB8.out⟩
          | false =>
            obtain ⟨q1, q2⟩ := qbz hy
            cases hx : blt y2 x1 with
            | true =>
              rw [hx] at hlq
              have HF := qh (GG.out (by simp [gapB, hy, hx]))
              clear hy hx GB GG
              go_upto_region 4 with fail
              rw [HWt.out]
              clear HWt
              refine q04 (C := fun w' => Below wt.heap.size wt w') (by kernel_rfl) (by kernel_rfl) ((Below.refl _ _).drew) ?_
              repeat (
                refine no_implicit_lambda% (wpQuiet_step ?_)
                intro K hK
                go_simp
                first
                | (refine no_implicit_lambda% (hK _ ?_); clear hK K)
                | (apply Exists.intro
                   refine ⟨fun _ => ?_, hK _ ?_⟩
                   (first
                     | (intro hw; with_reducible exact HC.out _ hw)
                     | (intro hw; obtain ⟨z0, z1, z2⟩ := HCl.out _ hw; go_simp; with_reducible exact ⟨rfl, rfl⟩)
                     | (intro hw; obtain ⟨z0, z1, z2⟩ := HCl.out _ hw; go_simp; with_reducible rfl)
                     | (intro hw; simp only [go_sem, e1]; with_reducible exact ⟨rfl, rfl⟩)
                     | (intro _; with_reducible rfl)
                     | (intro hw; go_simp; with_reducible exact ⟨rfl, rfl⟩))
                   clear hK K))
              refine wpQuiet_nil ?_
              intro w8 hb8
              have HB8 := qh (HBt.out.trans (hb8.mono HBt.out.size))
              clear hb8
              go_wp2_with fail
              go_roundg (gk - 1)
              case measure => have := HK.out; omega
              case rel => exact ⟨j + 1, by have := HK.out; omega, by go_num, HF.out, HB8.out⟩
            | false =>
              rw [hx] at hlq
              have hF := GB.out (by simp [gapB, hx])
              clear hy hx GB GG
              go_upto_region 4 with fail
              rw [HWt.out]
              clear HWt
              refine q04 (C := fun w' => Below wt.heap.size wt w') (by kernel_rfl) (by kernel_rfl) ((Below.refl _ _).drew) ?_
              repeat (
                refine no_implicit_lambda% (wpQuiet_step ?_)
                intro K hK
                go_simp
                first
                | (refine no_implicit_lambda% (hK _ ?_); clear hK K)
                | (apply Exists.intro
                   refine ⟨fun _ => ?_, hK _ ?_⟩
                   (first
                     | (intro hw; with_reducible exact HC.out _ hw)
                     | (intro hw; obtain ⟨z0, z1, z2⟩ := HCl.out _ hw; go_simp; with_reducible exact ⟨rfl, rfl⟩)
                     | (intro hw; obtain ⟨z0, z1, z2⟩ := HCl.out _ hw; go_simp; with_reducible rfl)
                     | (intro hw; simp only [go_sem, e1]; with_reducible exact ⟨rfl, rfl⟩)
                     | (intro _; with_reducible rfl)
                     | (intro hw; go_simp; with_reducible exact ⟨rfl, rfl⟩))
                   clear hK K))
              refine wpQuiet_nil ?_
              intro w8 hb8
              have HB8 := qh (HBt.out.trans (hb8.mono HBt.out.size))
              clear hb8
              go_wp2_with fail
              go_ret
              rw [hF]
              exact ⟨rfl, HB8.out⟩
    · have hj' : j = l.length := by have := HK.out; omega
      subst hj'
      have hlt : decide ((l.length : Int) < (l.length : Int)) = false := by simp
      have hlt2 : decide (l.length < l.length) = false := by simp
      have hF := qaw HA.out
      clear hj
      go_wp2
      go_ret
      rw [hF]
      exact ⟨rfl, HB.out⟩
end Go.Proofs.YtdpbllacfljmoaaGreat
