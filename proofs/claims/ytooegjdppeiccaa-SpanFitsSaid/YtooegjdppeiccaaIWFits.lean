/-
  The walk of SpanFits: any list made fewer; it stays as it was.
-/
import Derived.Test.YtooegjdppeiccaaILaw
import Derived.Deep.DeepCutAuto
import Derived.Deep.RegionHeld3
namespace Go.Proofs.Ytooegjdppeiccaa.spanFits
open Go.RowKit

set_option maxRecDepth 100000 in
set_option maxHeartbeats 8000000 in
theorem walk (K : SpanC) (l : List Sp) (A : Option Addr) (c : Nat) (n : Int) (hn1 : -9223372036854775808 ≤ n) (hn2 : n ≤ 9223372036854775807) (w : World) (hl : ChI w w.heap.size A c l) :
    Calls Try.prog 6 #[.slice A l.length c, .int .i64 n] w fun r w' => r = .returned (.bool true) ∧ Below w.heap.size w w' := by
  have HK := Lib.hid K
  have HL := Lib.hid hl
  have HB := Lib.hid (Below.refl w.heap.size w)
  have HN1 := Lib.hid hn1
  have HN2 := Lib.hid hn2
  clear K hl hn1 hn2
  cases hf : fewI l with
  | false =>
    have f := Lib.hid hf
    clear hf
    go_enter Try.func6, Try.ntmps6
    have HT := Lib.hid (liveI_any HK.out w)
    go_wp2_with fail
    refine HT.out.mono ?_
    rintro r w1 ⟨rfl, hb1⟩
    clear HT
    have HL := Lib.hid (HL.out.below hb1 (Nat.le_refl _) hb1.size)
    have HB := Lib.hid (HB.out.trans (hb1.mono HB.out.size))
    clear hb1
    have HT := Lib.hid (fewNo f.out HL.out)
    go_wp2_with fail
    refine HT.out.mono ?_
    rintro r w2 ⟨rfl, hb2⟩
    clear HT
    have HL := Lib.hid (HL.out.below hb2 (Nat.le_refl _) hb2.size)
    have HB := Lib.hid (HB.out.trans (hb2.mono HB.out.size))
    clear hb2
    have HT := Lib.hid (liveI_any HK.out w2)
    go_wp2_with fail
    refine HT.out.mono ?_
    rintro r w3 ⟨rfl, hb3⟩
    clear HT
    have HL := Lib.hid (HL.out.below hb3 (Nat.le_refl _) hb3.size)
    have HB := Lib.hid (HB.out.trans (hb3.mono HB.out.size))
    clear hb3
    go_wp2_with fail
    go_ret
    exact ⟨rfl, HB.out⟩
  | true =>
    have f := Lib.hid hf
    have HQ := Lib.hid (fewI_ok hf)
    have HQ2 := Lib.hid (show l.length ≤ 1000 from fewI_ok hf)
    clear hf
    go_enter Try.func6, Try.ntmps6
    have HT := Lib.hid (liveI_any HK.out w)
    go_wp2_with fail
    refine HT.out.mono ?_
    rintro r w1 ⟨rfl, hb1⟩
    clear HT
    have HL := Lib.hid (HL.out.below hb1 (Nat.le_refl _) hb1.size)
    have HB := Lib.hid (HB.out.trans (hb1.mono HB.out.size))
    clear hb1
    have HT := Lib.hid (fewYes f.out HL.out)
    go_wp2_with fail
    refine HT.out.mono ?_
    rintro r w2 ⟨rfl, hb2⟩
    clear HT
    have HL := Lib.hid (HL.out.below hb2 (Nat.le_refl _) hb2.size)
    have HB := Lib.hid (HB.out.trans (hb2.mono HB.out.size))
    clear hb2
    have HV := Lib.hid (HL.out.below ((Below.refl w2.heap.size w2).alloc (Nat.le_refl _) (.cells #[] 60)) (Nat.le_refl _) (Nat.le_refl _))
    have HBw := Lib.hid ((Below.refl w2.heap.size w2).alloc (Nat.le_refl _) (.cells #[] 60))
    go_upto_region 4 with (at_builtin; refine append_row _ rfl _ _ 62 60 32 spF spInfo Try.underlying62 rfl w2.heap.size _ [] rfl (OwnG.made w2 60 2 spCells) 0 _ A l.length c l rfl rfl HV.out.2.2.1 HV.out.2.2.2 (by have := HQ2.out; simp [maxLen]; omega) (by have := HQ2.out; simp; omega) (by simp) ?_; intro v9 w3 ho9 hg9; have HO9 := Lib.hid ho9.chI; have HB9 := Lib.hid (HBw.out.grown hg9 (by simp) (fun k hk => ((OwnG.made w2 60 2 spCells).lt k hk).1)); clear ho9 hg9)
    obtain ⟨A9, c9, rfl, hc9⟩ := HO9.out
    rw [List.nil_append] at hc9
    have hb9 := HB9.out
    clear HO9 HV HBw HB9
    have HL := Lib.hid (HL.out.below hb9 (Nat.le_refl _) hb9.size)
    have HB := Lib.hid (HB.out.trans (hb9.mono HB.out.size))
    have H9 := Lib.hid hc9
    clear hc9 hb9
    have HT := Lib.hid (HK.out.fit l A c n w3 HQ.out HN1.out HN2.out HL.out)
    go_wp2_with fail
    refine HT.out.mono ?_
    rintro r w4 ⟨A5, c5, rfl, h5, hb4⟩
    clear HT
    have HL := Lib.hid (HL.out.below hb4 (Nat.le_refl _) hb4.size)
    have HB := Lib.hid (HB.out.trans (hb4.mono HB.out.size))
    have H9 := Lib.hid (H9.out.below hb4 (Nat.le_refl _) hb4.size)
    have H5 := Lib.hid h5
    clear h5
    clear hb4
    have HT := Lib.hid (refFitI_any l A c n w4 (by have := HQ2.out; omega) HL.out.2.2.1 HL.out.2.2.2)
    go_wp2_with fail
    refine HT.out.mono ?_
    rintro r w5 ⟨A6, c6, rfl, h6, hb5⟩
    clear HT
    have HL := Lib.hid (HL.out.below hb5 (Nat.le_refl _) hb5.size)
    have HB := Lib.hid (HB.out.trans (hb5.mono HB.out.size))
    have H9 := Lib.hid (H9.out.below hb5 (Nat.le_refl _) hb5.size)
    have H5 := Lib.hid (H5.out.below hb5 (Nat.le_refl _) hb5.size)
    have H6 := Lib.hid h6
    clear h6
    clear hb5
    have HT := Lib.hid (sameYes H5.out H6.out)
    go_wp2_with fail
    refine HT.out.mono ?_
    rintro r w6 ⟨rfl, hb6⟩
    clear HT
    have HL := Lib.hid (HL.out.below hb6 (Nat.le_refl _) hb6.size)
    have HB := Lib.hid (HB.out.trans (hb6.mono HB.out.size))
    have H9 := Lib.hid (H9.out.below hb6 (Nat.le_refl _) hb6.size)
    have H5 := Lib.hid (H5.out.below hb6 (Nat.le_refl _) hb6.size)
    have H6 := Lib.hid (H6.out.below hb6 (Nat.le_refl _) hb6.size)
    clear hb6
    have HT := Lib.hid (sameYes HL.out H9.out)
    go_wp2_with fail
    refine HT.out.mono ?_
    rintro r w7 ⟨rfl, hb7⟩
    clear HT
    have HL := Lib.hid (HL.out.below hb7 (Nat.le_refl _) hb7.size)
    have HB := Lib.hid (HB.out.trans (hb7.mono HB.out.size))
    have H9 := Lib.hid (H9.out.below hb7 (Nat.le_refl _) hb7.size)
    have H5 := Lib.hid (H5.out.below hb7 (Nat.le_refl _) hb7.size)
    have H6 := Lib.hid (H6.out.below hb7 (Nat.le_refl _) hb7.size)
    clear hb7
    go_wp2_with fail
    go_ret
    exact ⟨rfl, HB.out⟩
end Go.Proofs.Ytooegjdppeiccaa.spanFits
