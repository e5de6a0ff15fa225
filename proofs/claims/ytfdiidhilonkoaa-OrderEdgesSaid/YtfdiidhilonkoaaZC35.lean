import Derived.Test.YtfdiidhilonkoaaZC34
set_option linter.unusedVariables false
/-
  Package order, the document's own answers: Order.
-/
namespace Go.Proofs.Ytfdiidhilonkoaa
open Go.RowKit

def bestV : Option Nat → Int
  | none => -1
  | some b => (b : Int)
def outZ (out : List Nat) : List Int := out.map fun n : Nat => (n : Int)
theorem outZ_len (out : List Nat) : (outZ out).length = out.length := List.length_map ..
theorem outZ_mem (out : List Nat) (k : Nat) : decide ((k : Int) ∈ outZ out) = out.contains k := by
  rw [Bool.eq_iff_iff, decide_eq_true_iff]
  constructor
  · intro h
    obtain ⟨a, ha, e⟩ := List.mem_map.1 h
    have : a = k := by omega
    subst this
    simpa using ha
  · intro h
    exact List.mem_map.2 ⟨k, by simpa using h, rfl⟩
theorem dnZ_out (out : List Nat) : dnZ (outZ out) = fun k => out.contains k := funext fun k => outZ_mem out k
theorem best_next {l : List DoneZ} {out : List Nat} {j : Nat} : bestTo l out (j + 1) = bestStep l out (bestTo l out j) j := best_step
theorem best_no_cand {l : List DoneZ} {out : List Nat} {j : Nat} (h : candO l out j = false) : bestTo l out (j + 1) = bestTo l out j := by
  rw [best_step]
  unfold bestStep
  rw [if_neg (by rw [h]; simp)]
theorem best_first {l : List DoneZ} {out : List Nat} {j : Nat} (h : candO l out j = true) (hb : bestTo l out j = none) : bestTo l out (j + 1) = some j := by
  rw [best_step]
  unfold bestStep
  rw [if_pos ⟨h, fun b e => by rw [hb] at e; cases e⟩]
theorem best_less {l : List DoneZ} {out : List Nat} {j b : Nat} (h : candO l out j = true) (hb : bestTo l out j = some b) (hl : (atD l j).end_ < (atD l b).end_) : bestTo l out (j + 1) = some j := by
  rw [best_step]
  unfold bestStep
  rw [if_pos ⟨h, fun b2 e => by rw [hb] at e; cases e; exact hl⟩]
theorem best_more {l : List DoneZ} {out : List Nat} {j b : Nat} (hb : bestTo l out j = some b) (hl : ¬ (atD l j).end_ < (atD l b).end_) : bestTo l out (j + 1) = some b := by
  rw [best_step]
  unfold bestStep
  rw [if_neg (fun q => hl (q.2 b hb)), hb]
theorem cand_is (l : List DoneZ) (out : List Nat) (j : Nat) : candO l out j = (!out.contains j && freeD l (fun k => out.contains k) j) := rfl
set_option maxRecDepth 100000 in
set_option maxHeartbeats 16000000 in
theorem refOrder_any (ms : List MZ) (A : Option Addr) (c : Nat) (w : World) (hr : ChZ w w.heap.size A c ms) (hf : ∀ x ∈ ms, fewMZ x) (hl : ms.length ≤ 1000) :
    Calls Try.prog 14 #[.slice A ms.length c] w (OrdV (orderL (dz ms)) w) := by
  have q9 : (ms.length : Int) ≤ 1000 := by omega
  have HR := Lib.hid hr
  have HFw := Lib.hid hf
  have HIn := Lib.hid inZInfo
  clear hr hf
  go_enter Try.func14, Try.ntmps14
  go_wp2
  go_loopg [4, 9] ms.length (fun q v iv wr => ∃ out : List Nat, out.length + q = ms.length ∧ iv = .int .i64 (out.length : Nat) ∧ OwnG 3 1 inZ wr w.heap.size v (outZ out) ∧ orderL (dz ms) = orderO (dz ms) q out ∧ Below w.heap.size w wr)
  case atStart => exact ⟨[], by simp, rfl, OwnG.none_ _ _ _ _ _, by unfold orderL; rw [dz_len], Below.refl _ _⟩
  case round =>
    obtain ⟨out, hq, rfl, hOwn, hOr, hb⟩ := hrel
    obtain ⟨g0, hg0⟩ : ∃ y, y = gk := ⟨_, rfl⟩
    subst hg0
    obtain ⟨wo, hwo⟩ : ∃ y, y = wr := ⟨_, rfl⟩
    subst hwo
    obtain ⟨A5, c5, rfl, ha1, ha2, ha3, ha4⟩ := hOwn.form
    rw [outZ_len] at hOwn ha1
    rw [outZ_len]
    obtain ⟨m, hm⟩ : ∃ m, m = out.length := ⟨_, rfl⟩
    rw [← hm] at hOwn ha1 hq
    rw [← hm]
    have HMm := Lib.hid hm
    have HQ := Lib.hid hq
    have HOw := Lib.hid hOwn
    have HAd := Lib.hid (And.intro ha1 (And.intro ha2 (And.intro ha3 ha4)))
    have HOr := Lib.hid hOr
    have HB := Lib.hid hb
    have hmn : m ≤ ms.length := by omega
    clear hm hq hOwn ha1 ha2 ha3 ha4 hOr hb
    by_cases hlt0 : m < ms.length
    · have hlt : decide ((m : Int) < (ms.length : Int)) = true := by simpa using hlt0
      have hlt2 : decide (m < ms.length) = true := by simpa using hlt0
      have HM0 := Lib.hid hlt0
      have HRow := Lib.hid (fun (V : World) (hV : Below wo.heap.size wo V) => (HAd.out.2.2.2.below hV (Nat.le_refl _)).wide (Nat.zero_le _) hV.size)
      have HMl := Lib.hid (show m = (outZ out).length by rw [outZ_len]; exact HMm.out)
      have HMl2 := Lib.hid (show (outZ out).length ≤ 9223372036854775807 by rw [outZ_len]; have := HMm.out; omega)
      clear hlt0
      go_wp2_with fail
      go_loopg [5, 13] ms.length (fun q bv iv wq => ∃ j : Nat, j + q = ms.length ∧ iv = .int .i64 (j : Nat) ∧ bv = .int .i64 (bestV (bestTo (dz ms) out j)) ∧ Below wo.heap.size wo wq)
      case atStart => exact ⟨0, by omega, rfl, rfl, Below.refl _ _⟩
      case round =>
        obtain ⟨j, hj, rfl, rfl, hb⟩ := hrel
        obtain ⟨wi, hwi⟩ : ∃ y, y = wr := ⟨_, rfl⟩
        subst hwi
        have HJ := Lib.hid hj
        have HBi := Lib.hid hb
        have HB2 := Lib.hid (HB.out.trans (hb.mono HB.out.size))
        clear hj hb
        by_cases hjn : j < ms.length
        · have hlt3 : decide ((j : Int) < (ms.length : Int)) = true := by simpa using hjn
          have hlt4 : decide (j < ms.length) = true := by simpa using hjn
          have q7 : (j : Int) < (ms.length : Int) := by omega
          have HI := Lib.hid (fun (V : World) (hV : Below wi.heap.size wi V) => (refInO_any (outZ out) m HMl.out A5 c5 (j : Nat) V HMl2.out (HRow.out V (HBi.out.trans (hV.mono HBi.out.size)))).mono fun r w' (q : r = .returned (.bool (decide ((j : Int) ∈ outZ out))) ∧ Below V.heap.size V w') => (⟨by rw [q.1, outZ_mem], hV.trans (q.2.mono hV.size)⟩ : r = .returned (.bool (out.contains j)) ∧ Below wi.heap.size wi w'))
          have HFr := Lib.hid (fun (V : World) (hV : Below wi.heap.size wi V) => (refFree_any ms A c (outZ out) m HMl.out A5 c5 j hjn V (HR.out.below (HB2.out.trans (hV.mono HB2.out.size)) (Nat.le_refl _) (Nat.le_trans HB2.out.size hV.size)) HFw.out hl (HRow.out V (HBi.out.trans (hV.mono HBi.out.size))) HMl2.out).mono fun r w' (q : r = .returned (.bool (freeD (dz ms) (dnZ (outZ out)) j)) ∧ Below V.heap.size V w') => (⟨by rw [q.1, dnZ_out], hV.trans (q.2.mono hV.size)⟩ : r = .returned (.bool (freeD (dz ms) (fun k => out.contains k) j)) ∧ Below wi.heap.size wi w'))
          have HCd := Lib.hid (cand_is (dz ms) out j)
          have HBs := Lib.hid (fun b (q : bestTo (dz ms) out j = some b) => (bestTo_some q).1)
          cases hin : out.contains j with
          | true =>
            rw [hin] at HI HCd
            have HG := Lib.hid (best_no_cand (l := dz ms) (out := out) (j := j) (by rw [HCd.out]; rfl))
            clear hin hjn
            generalize hbv : bestV (bestTo (dz ms) out j) = bv at *
            have HBv := Lib.hid hbv
            clear hbv
            go_wp2_with fail
            refine wp_region_classJ (C := fun W => Below wi.heap.size wi W) (by kernel_rfl) (by kernel_rfl) ((Below.refl _ _).drew) ?_
            repeat (
              refine no_implicit_lambda% (wpQuiet_step ?_)
              intro K hK
              go_simp
              first
              | (refine no_implicit_lambda% (hK _ ?_); clear hK K)
              | (apply Exists.intro
                 refine ⟨fun _ => ?_, hK _ ?_⟩
                 (first
                     | (intro hw; with_reducible exact HI.out _ hw)
                     | (intro hw; with_reducible exact HFr.out _ hw)
                     | (intro _; with_reducible rfl)
                     | (intro hw; go_simp; with_reducible exact ⟨rfl, rfl⟩)
                     | (intro hw; go_simp; with_reducible exact rfl))
                 clear hK K))
            refine wpQuiet_nil ?_
            intro w8 hb8
            have HB8 := Lib.hid (HBi.out.trans (hb8.mono HBi.out.size))
            clear hb8
            go_wp2_with fail
            go_roundg (gk - 1)
            case measure => have := HJ.out; omega
            case rel => exact ⟨j + 1, by have := HJ.out; omega, by go_num, by rw [HG.out, HBv.out], HB8.out⟩
          | false =>
            rw [hin] at HI HCd
            clear hin
            cases hfr : freeD (dz ms) (fun k => out.contains k) j with
            | false =>
              rw [hfr] at HFr HCd
              have HG := Lib.hid (best_no_cand (l := dz ms) (out := out) (j := j) (by rw [HCd.out]; rfl))
              clear hfr hjn
              generalize hbv : bestV (bestTo (dz ms) out j) = bv at *
              have HBv := Lib.hid hbv
              clear hbv
              go_wp2_with fail
              refine wp_region_classJ (C := fun W => Below wi.heap.size wi W) (by kernel_rfl) (by kernel_rfl) ((Below.refl _ _).drew) ?_
              repeat (
                refine no_implicit_lambda% (wpQuiet_step ?_)
                intro K hK
                go_simp
                first
                | (refine no_implicit_lambda% (hK _ ?_); clear hK K)
                | (apply Exists.intro
                   refine ⟨fun _ => ?_, hK _ ?_⟩
                   (first
                       | (intro hw; with_reducible exact HI.out _ hw)
                       | (intro hw; with_reducible exact HFr.out _ hw)
                       | (intro _; with_reducible rfl)
                       | (intro hw; go_simp; with_reducible exact ⟨rfl, rfl⟩)
                       | (intro hw; go_simp; with_reducible exact rfl))
                   clear hK K))
              refine wpQuiet_nil ?_
              intro w8 hb8
              have HB8 := Lib.hid (HBi.out.trans (hb8.mono HBi.out.size))
              clear hb8
              go_wp2_with fail
              go_roundg (gk - 1)
              case measure => have := HJ.out; omega
              case rel => exact ⟨j + 1, by have := HJ.out; omega, by go_num, by rw [HG.out, HBv.out], HB8.out⟩
            | true =>
              rw [hfr] at HFr HCd
              have HCt := Lib.hid (show candO (dz ms) out j = true by rw [HCd.out]; rfl)
              clear hfr
              cases hbt : bestTo (dz ms) out j with
              | none =>
                have HG := Lib.hid (best_first (l := dz ms) HCt.out hbt)
                have d1 : decide ((-1 : Int) < 0) = true := by decide
                clear hjn hbt HBs
                unfold bestV
                go_wp2_with fail
                refine wp_region_classJ (C := fun W => Below wi.heap.size wi W) (by kernel_rfl) (by kernel_rfl) ((Below.refl _ _).drew) ?_
                repeat (
                  refine no_implicit_lambda% (wpQuiet_step ?_)
                  intro K hK
                  go_simp
                  first
                  | (refine no_implicit_lambda% (hK _ ?_); clear hK K)
                  | (apply Exists.intro
                     refine ⟨fun _ => ?_, hK _ ?_⟩
                     (first
                         | (intro hw; with_reducible exact HI.out _ hw)
                         | (intro hw; with_reducible exact HFr.out _ hw)
                         | (intro _; with_reducible rfl)
                         | (intro hw; go_simp; with_reducible exact ⟨rfl, rfl⟩)
                         | (intro hw; go_simp; with_reducible exact rfl))
                     clear hK K))
                refine wpQuiet_nil ?_
                intro w8 hb8
                have HB8 := Lib.hid (HBi.out.trans (hb8.mono HBi.out.size))
                clear hb8
                go_wp2_with fail
                go_roundg (gk - 1)
                case measure => have := HJ.out; omega
                case rel => exact ⟨j + 1, by have := HJ.out; omega, by go_num, by rw [HG.out]; rfl, HB8.out⟩
              | some b9 =>
                have hb9 : b9 < ms.length := by have := HBs.out b9 hbt; omega
                have q8 : (b9 : Int) < (ms.length : Int) := by omega
                have d1 : decide ((b9 : Int) < 0) = false := by simp
                obtain ⟨b, o, rfl, hbl, hs1, hs2⟩ := (HR.out.below HB2.out (Nat.le_refl _) HB2.out.size).elem2 hjn hb9
                have HLs := Lib.hid (fun (q : (ms[j]'hjn).d.end_ < (ms[b9]'hb9).d.end_) => best_less (l := dz ms) HCt.out hbt (by rw [dz_at hjn, dz_at hb9]; exact q))
                have HMo := Lib.hid (fun (q : ¬ (ms[j]'hjn).d.end_ < (ms[b9]'hb9).d.end_) => best_more (l := dz ms) hbt (by rw [dz_at hjn, dz_at hb9]; exact q))
                have HPc := Lib.hid (fun (V : World) (hV : Below wi.heap.size wi V) => And.intro ((hs1.below hV (Nat.lt_of_lt_of_le hbl (Nat.le_refl _))).all) ((hs2.below hV (Nat.lt_of_lt_of_le hbl (Nat.le_refl _))).all))
                clear hs1 hs2 hbl hbt HBs
                generalize ms[j]'hjn = x at *
                generalize ms[b9]'hb9 = y at *
                clear hjn hb9
                obtain ⟨⟨xi, xb, xa, xs, xe, xr, xw⟩, xA, xc, xB, xd⟩ := x
                obtain ⟨⟨yi, yb, ya, ys, ye, yr, yw⟩, yA, yc, yB, yd⟩ := y
                simp only at HPc HLs HMo
                unfold bestV
                by_cases hlt9 : xe < ye
                · have d2 : decide (xe < ye) = true := by simpa using hlt9
                  have HG := Lib.hid (HLs.out hlt9)
                  clear hlt9
                  go_wp2_with fail
                  refine wp_region_classJ (C := fun W => Below wi.heap.size wi W) (by kernel_rfl) (by kernel_rfl) ((Below.refl _ _).drew) ?_
                  repeat (
                    refine no_implicit_lambda% (wpQuiet_step ?_)
                    intro K hK
                    go_simp
                    first
                    | (refine no_implicit_lambda% (hK _ ?_); clear hK K)
                    | (apply Exists.intro
                       refine ⟨fun _ => ?_, hK _ ?_⟩
                       (first
                           | (intro hw; with_reducible exact HI.out _ hw)
                           | (intro hw; with_reducible exact HFr.out _ hw)
                           | (intro hw; obtain ⟨⟨x0, x1, x2, x3, x4, x5, x6⟩, ⟨y0, y1, y2, y3, y4, y5, y6⟩⟩ := HPc.out _ hw; go_simp; with_reducible exact ⟨rfl, rfl⟩)
                           | (intro hw; obtain ⟨⟨x0, x1, x2, x3, x4, x5, x6⟩, ⟨y0, y1, y2, y3, y4, y5, y6⟩⟩ := HPc.out _ hw; go_simp; with_reducible rfl)
                           | (intro _; with_reducible rfl)
                           | (intro hw; go_simp; with_reducible exact ⟨rfl, rfl⟩)
                           | (intro hw; go_simp; with_reducible exact rfl))
                       clear hK K))
                  refine wpQuiet_nil ?_
                  intro w8 hb8
                  have HB8 := Lib.hid (HBi.out.trans (hb8.mono HBi.out.size))
                  clear hb8
                  go_wp2_with fail
                  go_roundg (gk - 1)
                  case measure => have := HJ.out; omega
                  case rel => exact ⟨j + 1, by have := HJ.out; omega, by go_num, by rw [HG.out]; rfl, HB8.out⟩
                · have d2 : decide (xe < ye) = false := by simpa using hlt9
                  have HG := Lib.hid (HMo.out hlt9)
                  clear hlt9
                  go_wp2_with fail
                  refine wp_region_classJ (C := fun W => Below wi.heap.size wi W) (by kernel_rfl) (by kernel_rfl) ((Below.refl _ _).drew) ?_
                  repeat (
                    refine no_implicit_lambda% (wpQuiet_step ?_)
                    intro K hK
                    go_simp
                    first
                    | (refine no_implicit_lambda% (hK _ ?_); clear hK K)
                    | (apply Exists.intro
                       refine ⟨fun _ => ?_, hK _ ?_⟩
                       (first
                           | (intro hw; with_reducible exact HI.out _ hw)
                           | (intro hw; with_reducible exact HFr.out _ hw)
                           | (intro hw; obtain ⟨⟨x0, x1, x2, x3, x4, x5, x6⟩, ⟨y0, y1, y2, y3, y4, y5, y6⟩⟩ := HPc.out _ hw; go_simp; with_reducible exact ⟨rfl, rfl⟩)
                           | (intro hw; obtain ⟨⟨x0, x1, x2, x3, x4, x5, x6⟩, ⟨y0, y1, y2, y3, y4, y5, y6⟩⟩ := HPc.out _ hw; go_simp; with_reducible rfl)
                           | (intro _; with_reducible rfl)
                           | (intro hw; go_simp; with_reducible exact ⟨rfl, rfl⟩)
                           | (intro hw; go_simp; with_reducible exact rfl))
                       clear hK K))
                  refine wpQuiet_nil ?_
                  intro w8 hb8
                  have HB8 := Lib.hid (HBi.out.trans (hb8.mono HBi.out.size))
                  clear hb8
                  go_wp2_with fail
                  go_roundg (gk - 1)
                  case measure => have := HJ.out; omega
                  case rel => exact ⟨j + 1, by have := HJ.out; omega, by go_num, by rw [HG.out]; rfl, HB8.out⟩
        · have hlt3 : decide ((j : Int) < (ms.length : Int)) = false := by simpa using hjn
          have hlt4 : decide (j < ms.length) = false := by simpa using hjn
          obtain rfl : j = ms.length := by have := HJ.out; omega
          obtain ⟨g9, hg9⟩ : ∃ g9, g0 = g9 + 1 := ⟨g0 - 1, by have := HQ.out; have := HM0.out; omega⟩
          have HOr9 := Lib.hid (show orderL (dz ms) = orderO (dz ms) (g9 + 1) out by rw [HOr.out, hg9])
          have HG9 := Lib.hid hg9
          clear hg9 hjn
          cases hbt : bestTo (dz ms) out ms.length with
          | none =>
            have HRes := Lib.hid (show orderL (dz ms) = none by
              rw [HOr9.out]
              unfold orderO bestO
              rw [dz_len, hbt])
            have d1 : decide ((-1 : Int) < 0) = true := by decide
            clear hbt
            unfold bestV
            go_wp2_with fail
            refine bodyPost_ret (v := .tuple #[.slice none 0 0, .bool false]) (by simp [results, Try.results14, go_sem]) rfl ?_
            rw [HRes.out]
            exact ⟨fun _ => rfl, (fun l e => by cases e), HB2.out⟩
          | some b9 =>
            have HNx := Lib.hid (show orderL (dz ms) = orderO (dz ms) g9 (out ++ [b9]) by
              rw [HOr9.out]
              conv => lhs; unfold orderO bestO
              rw [dz_len, hbt])
            have d1 : decide ((b9 : Int) < 0) = false := by simp
            have HB9 := Lib.hid (HBi.out)
            have HO9 := Lib.hid (HOw.out.below HBi.out)
            clear hbt
            unfold bestV
            go_wp2_with (at_builtin; refine append_row _ rfl _ _ 23 3 8 inZF HIn.out Try.underlying23 rfl w.heap.size _ (outZ out) rfl (HO9.out.allocs _) wi.heap.size (wi.heap.size + 1) (some ⟨wi.heap.size, 0, none⟩) 1 1 [(b9 : Int)] rfl rfl (fun e => by cases e) (RowG.one (cs := inZ) (heap_alloc_new wi _)) (by have := HMl.out; simp only [List.length_singleton]; unfold maxLen; omega) (by have := HMl.out; simp only [List.length_singleton]; omega) (by have := HB2.out.size; simp; omega) ?_; intro v8 w8 ho8 hg8; have HO8 := Lib.hid ho8; have HG8 := Lib.hid hg8; clear ho8 hg8)
            have HB8 := Lib.hid ((HB2.out.alloc HB2.out.size (.cells #[.int .i64 (b9 : Int)] 3)).grown HG8.out (by have := HB2.out.size; simp; omega) (fun k hk => (HO9.out.lt k hk).1))
            go_wp2_with fail
            go_roundg (g0 - 1)
            case measure => have := HG9.out; omega
            case rel => exact ⟨out ++ [b9], by have := HQ.out; have := HG9.out; have := HMm.out; simp; omega, by have := HMm.out; simp; omega, by unfold outZ at *; rw [List.map_append]; exact HO8.out, by rw [HNx.out]; have := HG9.out; rw [show g0 - 1 = g9 by omega], HB8.out⟩
    · have hlt : decide ((m : Int) < (ms.length : Int)) = false := by simpa using hlt0
      have hlt2 : decide (m < ms.length) = false := by simpa using hlt0
      have HRes := Lib.hid (show orderL (dz ms) = some out by
        rw [HOr.out]
        have : g0 = 0 := by have := HQ.out; omega
        rw [this]
        rfl)
      clear hlt0
      go_wp2_with fail
      refine bodyPost_ret (v := .tuple #[.slice A5 m c5, .bool true]) (by simp [results, Try.results14, go_sem]) rfl ?_
      rw [HRes.out]
      obtain ⟨k1, k2, k3, k4⟩ := HAd.out
      exact ⟨(fun e => by cases e), fun l e => by
        cases e
        exact ⟨A5, c5, by rw [HMm.out], by rw [← HMm.out]; exact k1, k2, k3, k4⟩, HB.out⟩
end Go.Proofs.Ytfdiidhilonkoaa
