import Derived.Test.YtfdiidhilonkoaaZC38
import Derived.Deep.LoopGhost
import Derived.Shelf.Abstract
set_option linter.unusedVariables false
/-
  Package span, as it landed: Normal; In, by slices.ContainsFunc; Same, by slices.Equal.
-/
namespace Go.Proofs.Ytfdiidhilonkoaa
open Go.RowKit

set_option maxRecDepth 100000 in
set_option maxHeartbeats 4000000 in
theorem dNormal_any (l : List Sp) (A : Option Addr) (c : Nat) (w : World) (hl : l.length ≤ 4294967296) (hr : RowG spCells w 0 w.heap.size A l) :
    Calls Try.prog 46 #[.slice A l.length c] w fun r w' => r = .returned (.bool (normB l)) ∧ Below w.heap.size w w' := by
  have HR := Lib.hid hr
  clear hr
  go_enter Try.func46, Try.ntmps46
  go_wp2
  go_loopg [3, 7] l.length (fun q _ i wr => ∃ j : Nat, j + q = l.length ∧ i = .int .i64 j ∧ goodTo l j ∧ Below w.heap.size w wr)
  case atStart => exact ⟨0, by omega, rfl, good_zero _, Below.refl _ _⟩
  case round =>
    obtain ⟨j, hk, rfl, hall, hb⟩ := hrel
    have HK := Lib.hid hk
    have HA := Lib.hid hall
    have HB := Lib.hid hb
    clear hall hb hk
    by_cases hj : j < l.length
    · have hlt : decide ((j : Int) < (l.length : Int)) = true := by simpa using hj
      have hlt3 : decide (j < l.length) = true := by simpa using hj
      have hR := HR.out.below HB.out (Nat.le_refl _)
      have HR1 := Lib.hid hR
      obtain ⟨b, o, rfl, _, hbl, hc⟩ := hR.at_ spF hj
      have c0 := hc 0 _ rfl
      have c1 := hc 1 _ rfl
      simp only [Nat.add_zero] at c0
      have HG := Lib.hid (fun h1 h2 => good_next HA.out hj h1 h2)
      have HBad := Lib.hid (fun h => bad_right hj h)
      have HGap := Lib.hid (fun (i : Nat) (hi : i + 1 = j) => bad_gap hi hj)
      have hbw := Nat.lt_of_lt_of_le hbl HB.out.size
      obtain ⟨p, hp⟩ : ∃ p, p = j - 1 := ⟨_, rfl⟩
      have hpl : p < l.length := by omega
      obtain ⟨b9, o9, e9, _, hb9, hc9⟩ := hR.at_ spF hpl
      obtain ⟨rfl, rfl⟩ : b = b9 ∧ o = o9 := by simpa using e9
      have p0 := hc9 0 _ rfl
      have p1 := hc9 1 _ rfl
      have HP := Lib.hid (show ∀ (i : Nat) (hi : i + 1 = j), l[i]'(by omega) = l[p] from fun i hi => by
        have : i = p := by omega
        subst this
        rfl)
      have HPj := Lib.hid hp
      clear hc hc9 hR e9 hp
      generalize l[j] = x at *
      generalize l[p] = y at *
      obtain ⟨x1, x2⟩ := x
      obtain ⟨y1, y2⟩ := y
      simp only [Nat.add_zero] at c0 c1 p0 p1
      obtain ⟨wt, hwt⟩ : ∃ y, wr.alloc (.cells #[.string (bs x1), .string (bs x2)] 52) = y := ⟨_, rfl⟩
      have hbt : Below w.heap.size w wt := by rw [← hwt]; exact HB.out.alloc HB.out.size _
      have hrt : Below wr.heap.size wr wt := by rw [← hwt]; exact (Below.refl _ _).alloc (Nat.le_refl _) _
      have hnt : wt.heap[wr.heap.size]? = some (.cells #[.string (bs x1), .string (bs x2)] 52 (0, 0)) := by rw [← hwt]; exact heap_alloc_new wr _
      have hst : wr.heap.size < wt.heap.size := by rw [← hwt]; simp
      have HCl := Lib.hid (fun (W : World) (h : Below wt.heap.size wt W) => And.intro (cell_of_row W wr.heap.size 0 _ _ _ (heap_below hnt h hst)) (And.intro (cell_of_row W wr.heap.size 1 _ _ _ (heap_below hnt h hst)) (And.intro (((h.cell (p := ⟨b, o + p * 2, none⟩) (by simp only; omega)).trans (hrt.cell (p := ⟨b, o + p * 2, none⟩) hbw)).trans p0) (((h.cell (p := ⟨b, o + p * 2 + 1, none⟩) (by simp only; omega)).trans (hrt.cell (p := ⟨b, o + p * 2 + 1, none⟩) hbw)).trans p1))))
      have HBt := Lib.hid hbt
      have HWt := Lib.hid hwt
      have hC := fun (W : World) (h : Below wt.heap.size wt W) => (dRight_anyI (⟨x1, x2⟩ : Sp) W).mono fun r w' (q : r = .returned (.bool (rightS ⟨x1, x2⟩)) ∧ Below W.heap.size W w') => (⟨q.1, h.trans (q.2.mono h.size)⟩ : r = .returned (.bool (rightS ⟨x1, x2⟩)) ∧ Below wt.heap.size wt w')
      unfold spVal at hC
      simp only at hC
      clear hnt hst hrt hbt hwt hbw p0 p1 hb9 hbl
      cases hq : rightS (⟨x1, x2⟩ : Sp) with
      | false =>
        rw [hq] at hC
        have HC := Lib.hid hC
        have hF := HBad.out hq
        clear hq hC HG HGap HP HBad
        go_upto_region 4 with fail
        rw [HWt.out]
        clear HWt
        refine wp_region_classJ (C := fun w' => Below wt.heap.size wt w') (by kernel_rfl) (by kernel_rfl) ((Below.refl _ _).drew) ?_
        repeat (
          refine no_implicit_lambda% (wpQuiet_step ?_)
          intro K hK
          go_simp
          first
          | (refine no_implicit_lambda% (hK _ ?_); clear hK K)
          | (apply Exists.intro
             refine ⟨fun _ => ?_, hK _ ?_⟩
             (first
               | (intro hw; with_reducible exact HC.out _ hw)
               | (intro hw; with_reducible exact HAp.out _ hw)
               | (intro hw; obtain ⟨z0, z1, z2, z3⟩ := HCl.out _ hw; go_simp; with_reducible exact ⟨rfl, rfl⟩)
               | (intro hw; obtain ⟨z0, z1, z2, z3⟩ := HCl.out _ hw; go_simp; with_reducible rfl)
               | (intro hw; simp only [go_sem, e1]; with_reducible exact ⟨rfl, rfl⟩)
               | (intro _; with_reducible rfl)
               | (intro hw; go_simp; with_reducible exact ⟨rfl, rfl⟩))
             clear hK K))
        refine wpQuiet_nil ?_
        intro w8 hb8
        have HB8 := Lib.hid (HBt.out.trans (hb8.mono HBt.out.size))
        clear hb8
        go_wp2_with fail
        go_ret
        rw [hF]
        exact ⟨rfl, HB8.out⟩
      | true =>
        rw [hq] at hC
        have HC := Lib.hid hC
        clear hC HBad
        by_cases h0 : j = 0
        · have g0 : decide ((0 : Int) < (j : Int)) = false := by rw [decide_eq_false_iff_not]; omega
          have g1 : decide (0 < j) = false := by rw [decide_eq_false_iff_not]; omega
          have HF := Lib.hid (HG.out hq fun i hi => by omega)
          clear hq HG HGap HP h0
          go_upto_region 4 with fail
          rw [HWt.out]
          clear HWt
          refine wp_region_classJ (C := fun w' => Below wt.heap.size wt w') (by kernel_rfl) (by kernel_rfl) ((Below.refl _ _).drew) ?_
          repeat (
            refine no_implicit_lambda% (wpQuiet_step ?_)
            intro K hK
            go_simp
            first
            | (refine no_implicit_lambda% (hK _ ?_); clear hK K)
            | (apply Exists.intro
               refine ⟨fun _ => ?_, hK _ ?_⟩
               (first
                 | (intro hw; with_reducible exact HC.out _ hw)
                 | (intro hw; with_reducible exact HAp.out _ hw)
                 | (intro hw; obtain ⟨z0, z1, z2, z3⟩ := HCl.out _ hw; go_simp; with_reducible exact ⟨rfl, rfl⟩)
                 | (intro hw; obtain ⟨z0, z1, z2, z3⟩ := HCl.out _ hw; go_simp; with_reducible rfl)
                 | (intro hw; simp only [go_sem, e1]; with_reducible exact ⟨rfl, rfl⟩)
                 | (intro _; with_reducible rfl)
                 | (intro hw; go_simp; with_reducible exact ⟨rfl, rfl⟩))
               clear hK K))
          refine wpQuiet_nil ?_
          intro w8 hb8
          have HB8 := Lib.hid (HBt.out.trans (hb8.mono HBt.out.size))
          clear hb8
          go_wp2_with fail
          go_roundg (gk - 1)
          case measure => have := HK.out; omega
          case rel => exact ⟨j + 1, by have := HK.out; omega, by go_num, HF.out, HB8.out⟩
        · have g0 : decide ((0 : Int) < (j : Int)) = true := by rw [decide_eq_true_iff]; omega
          have g1 : decide (0 < j) = true := by rw [decide_eq_true_iff]; omega
          have e1 : IntKind.i64.wrap ((j : Int) - 1) = (p : Int) := by have := HPj.out; simp [IntKind.wrap, IntKind.bits, IntKind.signed]; omega
          have gb := fun (q : gapB ⟨y1, y2⟩ ⟨x1, x2⟩ = false) => HGap.out p (by have := HPj.out; omega) (by rw [HP.out p (by have := HPj.out; omega)]; exact q)
          have gg := fun (q : gapB ⟨y1, y2⟩ ⟨x1, x2⟩ = true) => HG.out hq fun i hi => by rw [HP.out i hi]; exact q
          have GB := Lib.hid gb
          have GG := Lib.hid gg
          clear gb gg HG HGap HP hq h0
          have hAp := fun (W : World) (h : Below wt.heap.size wt W) => (dApart_any ⟨y1, y2⟩ ⟨x1, x2⟩ W).mono fun r w' (q : r = .returned (.bool (gapB ⟨y1, y2⟩ ⟨x1, x2⟩)) ∧ Below W.heap.size W w') => (⟨q.1, h.trans (q.2.mono h.size)⟩ : r = .returned (.bool (gapB ⟨y1, y2⟩ ⟨x1, x2⟩)) ∧ Below wt.heap.size wt w')
          unfold spVal at hAp
          simp only at hAp
          cases hx : gapB ⟨y1, y2⟩ ⟨x1, x2⟩ with
          | true =>
            rw [hx] at hAp
            have HAp := Lib.hid hAp
            have HF := Lib.hid (GG.out hx)
            clear hx GB GG hAp
            go_upto_region 4 with fail
            rw [HWt.out]
            clear HWt
            refine wp_region_classJ (C := fun w' => Below wt.heap.size wt w') (by kernel_rfl) (by kernel_rfl) ((Below.refl _ _).drew) ?_
            repeat (
              refine no_implicit_lambda% (wpQuiet_step ?_)
              intro K hK
              go_simp
              first
              | (refine no_implicit_lambda% (hK _ ?_); clear hK K)
              | (apply Exists.intro
                 refine ⟨fun _ => ?_, hK _ ?_⟩
                 (first
                   | (intro hw; with_reducible exact HC.out _ hw)
                   | (intro hw; with_reducible exact HAp.out _ hw)
                   | (intro hw; obtain ⟨z0, z1, z2, z3⟩ := HCl.out _ hw; go_simp; with_reducible exact ⟨rfl, rfl⟩)
                   | (intro hw; obtain ⟨z0, z1, z2, z3⟩ := HCl.out _ hw; go_simp; with_reducible rfl)
                   | (intro hw; simp only [go_sem, e1]; with_reducible exact ⟨rfl, rfl⟩)
                   | (intro _; with_reducible rfl)
                   | (intro hw; go_simp; with_reducible exact ⟨rfl, rfl⟩))
                 clear hK K))
            refine wpQuiet_nil ?_
            intro w8 hb8
            have HB8 := Lib.hid (HBt.out.trans (hb8.mono HBt.out.size))
            clear hb8
            go_wp2_with fail
            go_roundg (gk - 1)
            case measure => have := HK.out; omega
            case rel => exact ⟨j + 1, by have := HK.out; omega, by go_num, HF.out, HB8.out⟩
          | false =>
            rw [hx] at hAp
            have HAp := Lib.hid hAp
            have hF := GB.out hx
            clear hx GB GG hAp
            go_upto_region 4 with fail
            rw [HWt.out]
            clear HWt
            refine wp_region_classJ (C := fun w' => Below wt.heap.size wt w') (by kernel_rfl) (by kernel_rfl) ((Below.refl _ _).drew) ?_
            repeat (
              refine no_implicit_lambda% (wpQuiet_step ?_)
              intro K hK
              go_simp
              first
              | (refine no_implicit_lambda% (hK _ ?_); clear hK K)
              | (apply Exists.intro
                 refine ⟨fun _ => ?_, hK _ ?_⟩
                 (first
                   | (intro hw; with_reducible exact HC.out _ hw)
                   | (intro hw; with_reducible exact HAp.out _ hw)
                   | (intro hw; obtain ⟨z0, z1, z2, z3⟩ := HCl.out _ hw; go_simp; with_reducible exact ⟨rfl, rfl⟩)
                   | (intro hw; obtain ⟨z0, z1, z2, z3⟩ := HCl.out _ hw; go_simp; with_reducible rfl)
                   | (intro hw; simp only [go_sem, e1]; with_reducible exact ⟨rfl, rfl⟩)
                   | (intro _; with_reducible rfl)
                   | (intro hw; go_simp; with_reducible exact ⟨rfl, rfl⟩))
                 clear hK K))
            refine wpQuiet_nil ?_
            intro w8 hb8
            have HB8 := Lib.hid (HBt.out.trans (hb8.mono HBt.out.size))
            clear hb8
            go_wp2_with fail
            go_ret
            rw [hF]
            exact ⟨rfl, HB8.out⟩
    · have hj' : j = l.length := by have := HK.out; omega
      subst hj'
      have hlt : decide ((l.length : Int) < (l.length : Int)) = false := by simp
      have hlt2 : decide (l.length < l.length) = false := by simp
      have hF := good_all HA.out
      clear hj
      go_wp2
      go_ret
      rw [hF]
      exact ⟨rfl, HB.out⟩
/-! ### a function over each of a slice -/
/-- Where the first stretch stands of which p holds. -/
def AtI (l : List Sp) (p : Sp → Bool) (z : Int) : Prop :=
  (∃ j, ∃ h : j < l.length, z = (j : Int) ∧ p (l[j]'h) = true ∧ ∀ i (hi : i < l.length), i < j → p (l[i]'hi) = false) ∨ (z = -1 ∧ ∀ i (hi : i < l.length), p (l[i]'hi) = false)
def PredI (g : Nat) (lb : Array Value) (p : Sp → Bool) (w : World) : Prop :=
  ∀ (W : World) (x : Sp), Below w.heap.size w W → Calls Try.prog g (#[spVal x] ++ lb) W fun e w' => e = .returned (.bool (p x)) ∧ Below W.heap.size W w'
set_option maxRecDepth 100000 in
set_option maxHeartbeats 2000000 in
theorem dIndex_any (p : Sp → Bool) (g : Nat) (lb : Array Value) (eg : ∀ args w, (callFunc g args).run Try.prog w = .ok (.enter g args) w) (l : List Sp) (A : Option Addr) (c lo hi : Nat) (w : World)
    (hp : PredI g lb p w) (hl : l.length ≤ 9223372036854775807) (hr : RowG spCells w lo hi A l) (hhi : hi ≤ w.heap.size) :
    Calls Try.prog 64 #[.slice A l.length c, .func (.func g) #[] lb] w fun e w' => (∃ z : Int, e = .returned (.int .i64 z) ∧ AtI l p z) ∧ Below w.heap.size w w' := by
  have HR := Lib.hid hr
  have HP := Lib.hid hp
  have HHi := Lib.hid hhi
  clear hr hp hhi
  go_enter Try.func64, Try.ntmps64
  go_wp2
  go_loopg [5, 8] l.length (fun q _ i wr => ∃ j : Nat, j + q = l.length ∧ i = .int .i64 j ∧ (∀ i (hi : i < l.length), i < j → p (l[i]'hi) = false) ∧ Below w.heap.size w wr)
  case atStart => exact ⟨0, by omega, rfl, fun i _ h => absurd h (by omega), Below.refl _ _⟩
  case round =>
    obtain ⟨j, hk, rfl, hall, hb⟩ := hrel
    have HK := Lib.hid hk
    have HA := Lib.hid hall
    have HB := Lib.hid hb
    clear hall hb hk
    by_cases hj : j < l.length
    · have hlt : decide ((j : Int) < (l.length : Int)) = true := by simpa using hj
      have hlt2 : decide (j < l.length) = true := by simpa using hj
      obtain ⟨b, o, rfl, _, _, hc⟩ := (HR.out.below HB.out HHi.out).at_ spF hj
      have c0 := hc 0 _ rfl
      have c1 := hc 1 _ rfl
      simp only [Nat.add_zero] at c0
      have hcall := HP.out wr (l[j]'hj) HB.out
      have HT := Lib.hid (fun (h : p (l[j]'hj) = true) => show AtI l p (j : Int) from .inl ⟨j, hj, rfl, h, HA.out⟩)
      have HF := Lib.hid (fun (h : p (l[j]'hj) = false) => show ∀ i (hi : i < l.length), i < j + 1 → p (l[i]'hi) = false from fun i hi hij => by
          by_cases e : i = j
          · subst e; exact h
          · exact HA.out i hi (by omega))
      clear hc
      generalize l[j]'hj = x at *
      obtain ⟨xl, xh⟩ := x
      simp only at c0 c1
      unfold spVal at hcall
      simp only at hcall
      cases hq : p ⟨xl, xh⟩ with
      | true =>
        rw [hq] at hcall
        have HC := Lib.hid hcall
        have HQ := Lib.hid hq
        clear hcall hq
        go_wp2_with (go_at_fn g; refine HC.out.mono ?_; rintro e w' ⟨rfl, hb'⟩)
        go_ret
        exact ⟨⟨_, rfl, HT.out HQ.out⟩, HB.out.trans (hb'.mono HB.out.size)⟩
      | false =>
        rw [hq] at hcall
        have HC := Lib.hid hcall
        have HQ := Lib.hid hq
        clear hcall hq
        go_wp2_with (go_at_fn g; refine HC.out.mono ?_; rintro e w' ⟨rfl, hb'⟩)
        go_roundg (gk - 1)
        case measure => have := HK.out; omega
        case rel => exact ⟨j + 1, by have := HK.out; omega, by go_num, HF.out HQ.out, HB.out.trans (hb'.mono HB.out.size)⟩
    · have hlt : decide ((j : Int) < (l.length : Int)) = false := by simpa using hj
      have HN := Lib.hid (show AtI l p (-1) from .inr ⟨rfl, fun i hi => HA.out i hi (by have := HK.out; omega)⟩)
      go_wp2
      go_ret
      exact ⟨⟨_, rfl, HN.out⟩, HB.out⟩
end Go.Proofs.Ytfdiidhilonkoaa
