/-
  The walk of SpanCovers: what lies in a list lies in what Fit makes of it, which has at most n, or one, and is normal; and that is the list itself, if it was few and normal.
-/
import Derived.Test.YtooegjdppeiccaaILaw
import Derived.Deep.DeepCutAuto
import Derived.Deep.RegionHeld3
import Derived.Lib.MinMax
namespace Go.Proofs.Ytooegjdppeiccaa.spanCovers
open Go.RowKit

set_option maxRecDepth 100000 in
set_option maxHeartbeats 8000000 in
theorem walk (K : SpanC) (l : List Sp) (A : Option Addr) (c : Nat) (n : Int) (k : List UInt8) (hn1 : -9223372036854775808 ≤ n) (hn2 : n ≤ 9223372036854775807) (w : World) (hl : ChI w w.heap.size A c l) :
    Calls Try.prog 10 #[.slice A l.length c, .int .i64 n, .string (bs k)] w fun r w' => r = .returned (.bool true) ∧ Below w.heap.size w w' := by
  have HK := Lib.hid K
  have HL := Lib.hid hl
  have HB := Lib.hid (Below.refl w.heap.size w)
  have HN1 := Lib.hid hn1
  have HN2 := Lib.hid hn2
  clear K hl hn1 hn2
  cases hf : fewI l with
  | false =>
    have f := Lib.hid hf
    clear hf
    go_enter Try.func10, Try.ntmps10
    have HT := Lib.hid (liveI_any HK.out w)
    go_wp2_with fail
    refine HT.out.mono ?_
    rintro r w1 ⟨rfl, hb1⟩
    clear HT
    have HL := Lib.hid (HL.out.below hb1 (Nat.le_refl _) hb1.size)
    have HB := Lib.hid (HB.out.trans (hb1.mono HB.out.size))
    clear hb1
    have HT := Lib.hid (fewNo f.out HL.out)
    go_wp2_with fail
    refine HT.out.mono ?_
    rintro r w2 ⟨rfl, hb2⟩
    clear HT
    have HL := Lib.hid (HL.out.below hb2 (Nat.le_refl _) hb2.size)
    have HB := Lib.hid (HB.out.trans (hb2.mono HB.out.size))
    clear hb2
    have HT := Lib.hid (liveI_any HK.out w2)
    go_wp2_with fail
    refine HT.out.mono ?_
    rintro r w3 ⟨rfl, hb3⟩
    clear HT
    have HL := Lib.hid (HL.out.below hb3 (Nat.le_refl _) hb3.size)
    have HB := Lib.hid (HB.out.trans (hb3.mono HB.out.size))
    clear hb3
    go_wp2_with fail
    go_ret
    exact ⟨rfl, HB.out⟩
  | true =>
    by_cases h3 : k.length ≤ 300
    · skip
      have f := Lib.hid hf
      have hq := fewI_ok hf
      have HQ := Lib.hid hq
      clear hf
      have d1 : decide ((300 : Int) < (k.length : Int)) = false := by rw [decide_eq_false_iff_not]; omega
      have d1x : decide (300 < k.length) = false := by rw [decide_eq_false_iff_not]; omega
      have kz : ((bs k).size : Int) = (k.length : Int) := by rw [bs_size]
      clear h3
      have hnj := join_norm l
      have hnm := normB_iff.2 (fitI_norm (n := n) hnj)
      have hin := fun h : inS l k = true => fitI_in (n := n) hnj (k := k) (by rw [join_in]; exact h)
      have hok : okI (fitI n (joinSp l)) := okI_fit (okI_join1 hq)
      have hle := fit_le (n := n) (joinSp l)
      have hsm := fun (h1 : normB l = true) (h2 : ¬ n < (l.length : Int)) => (show fitI n (joinSp l) = l by
        rw [← join_eq (normB_iff.1 h1) (fun _ => rfl)]
        exact fitI_few (by unfold fitN; omega))
      have HFit := Lib.hid (fun (W : World) (h : ChI W W.heap.size A c l) => HK.out.fit l A c n W HQ.out HN1.out HN2.out h)
      generalize fitI n (joinSp l) = M at *
      have HMx := fitN_cast n
      have m1 : decide ((fitN n : Int) < (M.length : Int)) = false := by rw [decide_eq_false_iff_not]; omega
      have m2 : decide (fitN n < M.length) = false := by rw [decide_eq_false_iff_not]; omega
      have HNo := Lib.hid (fun (B : Option Addr) (d : Nat) (W : World) (h : ChI W W.heap.size B d M) => HK.out.normal M B d W hok h)
      have HI1 := Lib.hid (fun (B : Option Addr) (d : Nat) (W : World) (h : ChI W W.heap.size B d M) => HK.out.has_in M B d k W hok h)
      have HI2 := Lib.hid (fun (W : World) (h : ChI W W.heap.size A c l) => HK.out.has_in l A c k W HQ.out h)
      have HN2l := Lib.hid (fun (W : World) (h : ChI W W.heap.size A c l) => HK.out.normal l A c W HQ.out h)
      have HSm := Lib.hid hsm
      rw [hnm] at HNo
      clear hnm hok hq hnj hsm hle
      cases hx : inS l k with
      | false =>
        rw [hx] at HI2
        clear hx hin
        cases hy : normB l with
        | false =>
          rw [hy] at HN2l
          clear hy
          go_enter Try.func10, Try.ntmps10
          have HT := Lib.hid (liveI_any HK.out w)
          go_wp2_with fail
          refine HT.out.mono ?_
          rintro r w1 ⟨rfl, hb1⟩
          clear HT
          have HL := Lib.hid (HL.out.below hb1 (Nat.le_refl _) hb1.size)
          have HB := Lib.hid (HB.out.trans (hb1.mono HB.out.size))
          clear hb1
          have HT := Lib.hid (fewYes f.out HL.out)
          go_wp2_with fail
          refine HT.out.mono ?_
          rintro r w2 ⟨rfl, hb2⟩
          clear HT
          have HL := Lib.hid (HL.out.below hb2 (Nat.le_refl _) hb2.size)
          have HB := Lib.hid (HB.out.trans (hb2.mono HB.out.size))
          clear hb2
          have HT := Lib.hid (HFit.out w2 HL.out)
          go_wp2_with fail
          refine HT.out.mono ?_
          rintro r w3 ⟨A5, c5, rfl, h5, hb3⟩
          clear HT
          have HL := Lib.hid (HL.out.below hb3 (Nat.le_refl _) hb3.size)
          have HB := Lib.hid (HB.out.trans (hb3.mono HB.out.size))
          have H5 := Lib.hid h5
          clear h5
          clear hb3
          have HT := Lib.hid (HI2.out w3 HL.out)
          go_wp2_with fail
          refine HT.out.mono ?_
          rintro r w4 ⟨rfl, hb4⟩
          clear HT
          have HL := Lib.hid (HL.out.below hb4 (Nat.le_refl _) hb4.size)
          have HB := Lib.hid (HB.out.trans (hb4.mono HB.out.size))
          have H5 := Lib.hid (H5.out.below hb4 (Nat.le_refl _) hb4.size)
          clear hb4
          have HT := Lib.hid (HNo.out A5 c5 w4 H5.out)
          go_wp2_with fail
          refine HT.out.mono ?_
          rintro r w5 ⟨rfl, hb5⟩
          clear HT
          have HL := Lib.hid (HL.out.below hb5 (Nat.le_refl _) hb5.size)
          have HB := Lib.hid (HB.out.trans (hb5.mono HB.out.size))
          have H5 := Lib.hid (H5.out.below hb5 (Nat.le_refl _) hb5.size)
          clear hb5
          have HT := Lib.hid (HN2l.out w5 HL.out)
          go_wp2_with fail
          refine HT.out.mono ?_
          rintro r w6 ⟨rfl, hb6⟩
          clear HT
          have HL := Lib.hid (HL.out.below hb6 (Nat.le_refl _) hb6.size)
          have HB := Lib.hid (HB.out.trans (hb6.mono HB.out.size))
          have H5 := Lib.hid (H5.out.below hb6 (Nat.le_refl _) hb6.size)
          clear hb6
          go_wp2_with fail
          go_ret
          exact ⟨rfl, HB.out⟩
        | true =>
          by_cases hgt : n < (l.length : Int)
          · skip
            rw [hy] at HN2l
            have g1 : decide (n < (l.length : Int)) = true := by rw [decide_eq_true_iff]; exact hgt
            clear hgt
            clear hy
            go_enter Try.func10, Try.ntmps10
            have HT := Lib.hid (liveI_any HK.out w)
            go_wp2_with fail
            refine HT.out.mono ?_
            rintro r w1 ⟨rfl, hb1⟩
            clear HT
            have HL := Lib.hid (HL.out.below hb1 (Nat.le_refl _) hb1.size)
            have HB := Lib.hid (HB.out.trans (hb1.mono HB.out.size))
            clear hb1
            have HT := Lib.hid (fewYes f.out HL.out)
            go_wp2_with fail
            refine HT.out.mono ?_
            rintro r w2 ⟨rfl, hb2⟩
            clear HT
            have HL := Lib.hid (HL.out.below hb2 (Nat.le_refl _) hb2.size)
            have HB := Lib.hid (HB.out.trans (hb2.mono HB.out.size))
            clear hb2
            have HT := Lib.hid (HFit.out w2 HL.out)
            go_wp2_with fail
            refine HT.out.mono ?_
            rintro r w3 ⟨A5, c5, rfl, h5, hb3⟩
            clear HT
            have HL := Lib.hid (HL.out.below hb3 (Nat.le_refl _) hb3.size)
            have HB := Lib.hid (HB.out.trans (hb3.mono HB.out.size))
            have H5 := Lib.hid h5
            clear h5
            clear hb3
            have HT := Lib.hid (HI2.out w3 HL.out)
            go_wp2_with fail
            refine HT.out.mono ?_
            rintro r w4 ⟨rfl, hb4⟩
            clear HT
            have HL := Lib.hid (HL.out.below hb4 (Nat.le_refl _) hb4.size)
            have HB := Lib.hid (HB.out.trans (hb4.mono HB.out.size))
            have H5 := Lib.hid (H5.out.below hb4 (Nat.le_refl _) hb4.size)
            clear hb4
            have HT := Lib.hid (HNo.out A5 c5 w4 H5.out)
            go_wp2_with fail
            refine HT.out.mono ?_
            rintro r w5 ⟨rfl, hb5⟩
            clear HT
            have HL := Lib.hid (HL.out.below hb5 (Nat.le_refl _) hb5.size)
            have HB := Lib.hid (HB.out.trans (hb5.mono HB.out.size))
            have H5 := Lib.hid (H5.out.below hb5 (Nat.le_refl _) hb5.size)
            clear hb5
            have HT := Lib.hid (HN2l.out w5 HL.out)
            go_wp2_with fail
            refine HT.out.mono ?_
            rintro r w6 ⟨rfl, hb6⟩
            clear HT
            have HL := Lib.hid (HL.out.below hb6 (Nat.le_refl _) hb6.size)
            have HB := Lib.hid (HB.out.trans (hb6.mono HB.out.size))
            have H5 := Lib.hid (H5.out.below hb6 (Nat.le_refl _) hb6.size)
            clear hb6
            go_wp2_with fail
            go_ret
            exact ⟨rfl, HB.out⟩
          · skip
            rw [hy] at HN2l
            have g1 : decide (n < (l.length : Int)) = false := by rw [decide_eq_false_iff_not]; exact hgt
            have HE := Lib.hid (HSm.out hy hgt)
            clear hgt
            clear hy
            go_enter Try.func10, Try.ntmps10
            have HT := Lib.hid (liveI_any HK.out w)
            go_wp2_with fail
            refine HT.out.mono ?_
            rintro r w1 ⟨rfl, hb1⟩
            clear HT
            have HL := Lib.hid (HL.out.below hb1 (Nat.le_refl _) hb1.size)
            have HB := Lib.hid (HB.out.trans (hb1.mono HB.out.size))
            clear hb1
            have HT := Lib.hid (fewYes f.out HL.out)
            go_wp2_with fail
            refine HT.out.mono ?_
            rintro r w2 ⟨rfl, hb2⟩
            clear HT
            have HL := Lib.hid (HL.out.below hb2 (Nat.le_refl _) hb2.size)
            have HB := Lib.hid (HB.out.trans (hb2.mono HB.out.size))
            clear hb2
            have HT := Lib.hid (HFit.out w2 HL.out)
            go_wp2_with fail
            refine HT.out.mono ?_
            rintro r w3 ⟨A5, c5, rfl, h5, hb3⟩
            clear HT
            have HL := Lib.hid (HL.out.below hb3 (Nat.le_refl _) hb3.size)
            have HB := Lib.hid (HB.out.trans (hb3.mono HB.out.size))
            have H5 := Lib.hid h5
            clear h5
            clear hb3
            have HT := Lib.hid (HI2.out w3 HL.out)
            go_wp2_with fail
            refine HT.out.mono ?_
            rintro r w4 ⟨rfl, hb4⟩
            clear HT
            have HL := Lib.hid (HL.out.below hb4 (Nat.le_refl _) hb4.size)
            have HB := Lib.hid (HB.out.trans (hb4.mono HB.out.size))
            have H5 := Lib.hid (H5.out.below hb4 (Nat.le_refl _) hb4.size)
            clear hb4
            have HT := Lib.hid (HNo.out A5 c5 w4 H5.out)
            go_wp2_with fail
            refine HT.out.mono ?_
            rintro r w5 ⟨rfl, hb5⟩
            clear HT
            have HL := Lib.hid (HL.out.below hb5 (Nat.le_refl _) hb5.size)
            have HB := Lib.hid (HB.out.trans (hb5.mono HB.out.size))
            have H5 := Lib.hid (H5.out.below hb5 (Nat.le_refl _) hb5.size)
            clear hb5
            have HT := Lib.hid (HN2l.out w5 HL.out)
            go_wp2_with fail
            refine HT.out.mono ?_
            rintro r w6 ⟨rfl, hb6⟩
            clear HT
            have HL := Lib.hid (HL.out.below hb6 (Nat.le_refl _) hb6.size)
            have HB := Lib.hid (HB.out.trans (hb6.mono HB.out.size))
            have H5 := Lib.hid (H5.out.below hb6 (Nat.le_refl _) hb6.size)
            clear hb6
            have HT := Lib.hid ((show Calls Try.prog 39 #[.slice A5 M.length c5, .slice A l.length c] w6 _ from by have h := H5.out; rw [HE.out] at h; have q := sameYes h HL.out; rw [HE.out]; exact q))
            go_wp2_with fail
            refine HT.out.mono ?_
            rintro r w7 ⟨rfl, hb7⟩
            clear HT
            have HL := Lib.hid (HL.out.below hb7 (Nat.le_refl _) hb7.size)
            have HB := Lib.hid (HB.out.trans (hb7.mono HB.out.size))
            have H5 := Lib.hid (H5.out.below hb7 (Nat.le_refl _) hb7.size)
            clear hb7
            go_wp2_with fail
            go_ret
            exact ⟨rfl, HB.out⟩
      | true =>
        rw [hx] at HI2
        rw [hin hx] at HI1
        clear hx hin
        cases hy : normB l with
        | false =>
          rw [hy] at HN2l
          clear hy
          go_enter Try.func10, Try.ntmps10
          have HT := Lib.hid (liveI_any HK.out w)
          go_wp2_with fail
          refine HT.out.mono ?_
          rintro r w1 ⟨rfl, hb1⟩
          clear HT
          have HL := Lib.hid (HL.out.below hb1 (Nat.le_refl _) hb1.size)
          have HB := Lib.hid (HB.out.trans (hb1.mono HB.out.size))
          clear hb1
          have HT := Lib.hid (fewYes f.out HL.out)
          go_wp2_with fail
          refine HT.out.mono ?_
          rintro r w2 ⟨rfl, hb2⟩
          clear HT
          have HL := Lib.hid (HL.out.below hb2 (Nat.le_refl _) hb2.size)
          have HB := Lib.hid (HB.out.trans (hb2.mono HB.out.size))
          clear hb2
          have HT := Lib.hid (HFit.out w2 HL.out)
          go_wp2_with fail
          refine HT.out.mono ?_
          rintro r w3 ⟨A5, c5, rfl, h5, hb3⟩
          clear HT
          have HL := Lib.hid (HL.out.below hb3 (Nat.le_refl _) hb3.size)
          have HB := Lib.hid (HB.out.trans (hb3.mono HB.out.size))
          have H5 := Lib.hid h5
          clear h5
          clear hb3
          have HT := Lib.hid (HI2.out w3 HL.out)
          go_wp2_with fail
          refine HT.out.mono ?_
          rintro r w4 ⟨rfl, hb4⟩
          clear HT
          have HL := Lib.hid (HL.out.below hb4 (Nat.le_refl _) hb4.size)
          have HB := Lib.hid (HB.out.trans (hb4.mono HB.out.size))
          have H5 := Lib.hid (H5.out.below hb4 (Nat.le_refl _) hb4.size)
          clear hb4
          have HT := Lib.hid (HI1.out A5 c5 w4 H5.out)
          go_wp2_with fail
          refine HT.out.mono ?_
          rintro r w5 ⟨rfl, hb5⟩
          clear HT
          have HL := Lib.hid (HL.out.below hb5 (Nat.le_refl _) hb5.size)
          have HB := Lib.hid (HB.out.trans (hb5.mono HB.out.size))
          have H5 := Lib.hid (H5.out.below hb5 (Nat.le_refl _) hb5.size)
          clear hb5
          have HT := Lib.hid (HNo.out A5 c5 w5 H5.out)
          go_wp2_with fail
          refine HT.out.mono ?_
          rintro r w6 ⟨rfl, hb6⟩
          clear HT
          have HL := Lib.hid (HL.out.below hb6 (Nat.le_refl _) hb6.size)
          have HB := Lib.hid (HB.out.trans (hb6.mono HB.out.size))
          have H5 := Lib.hid (H5.out.below hb6 (Nat.le_refl _) hb6.size)
          clear hb6
          have HT := Lib.hid (HN2l.out w6 HL.out)
          go_wp2_with fail
          refine HT.out.mono ?_
          rintro r w7 ⟨rfl, hb7⟩
          clear HT
          have HL := Lib.hid (HL.out.below hb7 (Nat.le_refl _) hb7.size)
          have HB := Lib.hid (HB.out.trans (hb7.mono HB.out.size))
          have H5 := Lib.hid (H5.out.below hb7 (Nat.le_refl _) hb7.size)
          clear hb7
          go_wp2_with fail
          go_ret
          exact ⟨rfl, HB.out⟩
        | true =>
          by_cases hgt : n < (l.length : Int)
          · skip
            rw [hy] at HN2l
            have g1 : decide (n < (l.length : Int)) = true := by rw [decide_eq_true_iff]; exact hgt
            clear hgt
            clear hy
            go_enter Try.func10, Try.ntmps10
            have HT := Lib.hid (liveI_any HK.out w)
            go_wp2_with fail
            refine HT.out.mono ?_
            rintro r w1 ⟨rfl, hb1⟩
            clear HT
            have HL := Lib.hid (HL.out.below hb1 (Nat.le_refl _) hb1.size)
            have HB := Lib.hid (HB.out.trans (hb1.mono HB.out.size))
            clear hb1
            have HT := Lib.hid (fewYes f.out HL.out)
            go_wp2_with fail
            refine HT.out.mono ?_
            rintro r w2 ⟨rfl, hb2⟩
            clear HT
            have HL := Lib.hid (HL.out.below hb2 (Nat.le_refl _) hb2.size)
            have HB := Lib.hid (HB.out.trans (hb2.mono HB.out.size))
            clear hb2
            have HT := Lib.hid (HFit.out w2 HL.out)
            go_wp2_with fail
            refine HT.out.mono ?_
            rintro r w3 ⟨A5, c5, rfl, h5, hb3⟩
            clear HT
            have HL := Lib.hid (HL.out.below hb3 (Nat.le_refl _) hb3.size)
            have HB := Lib.hid (HB.out.trans (hb3.mono HB.out.size))
            have H5 := Lib.hid h5
            clear h5
            clear hb3
            have HT := Lib.hid (HI2.out w3 HL.out)
            go_wp2_with fail
            refine HT.out.mono ?_
            rintro r w4 ⟨rfl, hb4⟩
            clear HT
            have HL := Lib.hid (HL.out.below hb4 (Nat.le_refl _) hb4.size)
            have HB := Lib.hid (HB.out.trans (hb4.mono HB.out.size))
            have H5 := Lib.hid (H5.out.below hb4 (Nat.le_refl _) hb4.size)
            clear hb4
            have HT := Lib.hid (HI1.out A5 c5 w4 H5.out)
            go_wp2_with fail
            refine HT.out.mono ?_
            rintro r w5 ⟨rfl, hb5⟩
            clear HT
            have HL := Lib.hid (HL.out.below hb5 (Nat.le_refl _) hb5.size)
            have HB := Lib.hid (HB.out.trans (hb5.mono HB.out.size))
            have H5 := Lib.hid (H5.out.below hb5 (Nat.le_refl _) hb5.size)
            clear hb5
            have HT := Lib.hid (HNo.out A5 c5 w5 H5.out)
            go_wp2_with fail
            refine HT.out.mono ?_
            rintro r w6 ⟨rfl, hb6⟩
            clear HT
            have HL := Lib.hid (HL.out.below hb6 (Nat.le_refl _) hb6.size)
            have HB := Lib.hid (HB.out.trans (hb6.mono HB.out.size))
            have H5 := Lib.hid (H5.out.below hb6 (Nat.le_refl _) hb6.size)
            clear hb6
            have HT := Lib.hid (HN2l.out w6 HL.out)
            go_wp2_with fail
            refine HT.out.mono ?_
            rintro r w7 ⟨rfl, hb7⟩
            clear HT
            have HL := Lib.hid (HL.out.below hb7 (Nat.le_refl _) hb7.size)
            have HB := Lib.hid (HB.out.trans (hb7.mono HB.out.size))
            have H5 := Lib.hid (H5.out.below hb7 (Nat.le_refl _) hb7.size)
            clear hb7
            go_wp2_with fail
            go_ret
            exact ⟨rfl, HB.out⟩
          · skip
            rw [hy] at HN2l
            have g1 : decide (n < (l.length : Int)) = false := by rw [decide_eq_false_iff_not]; exact hgt
            have HE := Lib.hid (HSm.out hy hgt)
            clear hgt
            clear hy
            go_enter Try.func10, Try.ntmps10
            have HT := Lib.hid (liveI_any HK.out w)
            go_wp2_with fail
            refine HT.out.mono ?_
            rintro r w1 ⟨rfl, hb1⟩
            clear HT
            have HL := Lib.hid (HL.out.below hb1 (Nat.le_refl _) hb1.size)
            have HB := Lib.hid (HB.out.trans (hb1.mono HB.out.size))
            clear hb1
            have HT := Lib.hid (fewYes f.out HL.out)
            go_wp2_with fail
            refine HT.out.mono ?_
            rintro r w2 ⟨rfl, hb2⟩
            clear HT
            have HL := Lib.hid (HL.out.below hb2 (Nat.le_refl _) hb2.size)
            have HB := Lib.hid (HB.out.trans (hb2.mono HB.out.size))
            clear hb2
            have HT := Lib.hid (HFit.out w2 HL.out)
            go_wp2_with fail
            refine HT.out.mono ?_
            rintro r w3 ⟨A5, c5, rfl, h5, hb3⟩
            clear HT
            have HL := Lib.hid (HL.out.below hb3 (Nat.le_refl _) hb3.size)
            have HB := Lib.hid (HB.out.trans (hb3.mono HB.out.size))
            have H5 := Lib.hid h5
            clear h5
            clear hb3
            have HT := Lib.hid (HI2.out w3 HL.out)
            go_wp2_with fail
            refine HT.out.mono ?_
            rintro r w4 ⟨rfl, hb4⟩
            clear HT
            have HL := Lib.hid (HL.out.below hb4 (Nat.le_refl _) hb4.size)
            have HB := Lib.hid (HB.out.trans (hb4.mono HB.out.size))
            have H5 := Lib.hid (H5.out.below hb4 (Nat.le_refl _) hb4.size)
            clear hb4
            have HT := Lib.hid (HI1.out A5 c5 w4 H5.out)
            go_wp2_with fail
            refine HT.out.mono ?_
            rintro r w5 ⟨rfl, hb5⟩
            clear HT
            have HL := Lib.hid (HL.out.below hb5 (Nat.le_refl _) hb5.size)
            have HB := Lib.hid (HB.out.trans (hb5.mono HB.out.size))
            have H5 := Lib.hid (H5.out.below hb5 (Nat.le_refl _) hb5.size)
            clear hb5
            have HT := Lib.hid (HNo.out A5 c5 w5 H5.out)
            go_wp2_with fail
            refine HT.out.mono ?_
            rintro r w6 ⟨rfl, hb6⟩
            clear HT
            have HL := Lib.hid (HL.out.below hb6 (Nat.le_refl _) hb6.size)
            have HB := Lib.hid (HB.out.trans (hb6.mono HB.out.size))
            have H5 := Lib.hid (H5.out.below hb6 (Nat.le_refl _) hb6.size)
            clear hb6
            have HT := Lib.hid (HN2l.out w6 HL.out)
            go_wp2_with fail
            refine HT.out.mono ?_
            rintro r w7 ⟨rfl, hb7⟩
            clear HT
            have HL := Lib.hid (HL.out.below hb7 (Nat.le_refl _) hb7.size)
            have HB := Lib.hid (HB.out.trans (hb7.mono HB.out.size))
            have H5 := Lib.hid (H5.out.below hb7 (Nat.le_refl _) hb7.size)
            clear hb7
            have HT := Lib.hid ((show Calls Try.prog 39 #[.slice A5 M.length c5, .slice A l.length c] w7 _ from by have h := H5.out; rw [HE.out] at h; have q := sameYes h HL.out; rw [HE.out]; exact q))
            go_wp2_with fail
            refine HT.out.mono ?_
            rintro r w8 ⟨rfl, hb8⟩
            clear HT
            have HL := Lib.hid (HL.out.below hb8 (Nat.le_refl _) hb8.size)
            have HB := Lib.hid (HB.out.trans (hb8.mono HB.out.size))
            have H5 := Lib.hid (H5.out.below hb8 (Nat.le_refl _) hb8.size)
            clear hb8
            go_wp2_with fail
            go_ret
            exact ⟨rfl, HB.out⟩
    · skip
      have f := Lib.hid hf
      clear hf
      have d1 : decide ((300 : Int) < (k.length : Int)) = true := by rw [decide_eq_true_iff]; omega
      have d1x : decide (300 < k.length) = true := by rw [decide_eq_true_iff]; omega
      have kz : ((bs k).size : Int) = (k.length : Int) := by rw [bs_size]
      clear h3
      go_enter Try.func10, Try.ntmps10
      have HT := Lib.hid (liveI_any HK.out w)
      go_wp2_with fail
      refine HT.out.mono ?_
      rintro r w1 ⟨rfl, hb1⟩
      clear HT
      have HL := Lib.hid (HL.out.below hb1 (Nat.le_refl _) hb1.size)
      have HB := Lib.hid (HB.out.trans (hb1.mono HB.out.size))
      clear hb1
      have HT := Lib.hid (fewYes f.out HL.out)
      go_wp2_with fail
      refine HT.out.mono ?_
      rintro r w2 ⟨rfl, hb2⟩
      clear HT
      have HL := Lib.hid (HL.out.below hb2 (Nat.le_refl _) hb2.size)
      have HB := Lib.hid (HB.out.trans (hb2.mono HB.out.size))
      clear hb2
      have HT := Lib.hid (liveI_any HK.out w2)
      go_wp2_with fail
      refine HT.out.mono ?_
      rintro r w3 ⟨rfl, hb3⟩
      clear HT
      have HL := Lib.hid (HL.out.below hb3 (Nat.le_refl _) hb3.size)
      have HB := Lib.hid (HB.out.trans (hb3.mono HB.out.size))
      clear hb3
      go_wp2_with fail
      go_ret
      exact ⟨rfl, HB.out⟩
end Go.Proofs.Ytooegjdppeiccaa.spanCovers
