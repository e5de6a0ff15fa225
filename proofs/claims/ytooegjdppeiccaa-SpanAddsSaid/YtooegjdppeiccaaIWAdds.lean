/-
  The walk of SpanAdds: any lists with a stretch, and joined, whether they are normal, what lies in them, whether they meet; they stay as they were.
-/
import Derived.Test.YtooegjdppeiccaaILaw
import Derived.Deep.DeepCutAuto
import Derived.Deep.RegionHeld3
namespace Go.Proofs.Ytooegjdppeiccaa.spanAdds
open Go.RowKit

set_option maxRecDepth 100000 in
set_option maxHeartbeats 8000000 in
theorem walk (K : SpanC) (a b : List Sp) (A B : Option Addr) (c d : Nat) (s : Sp) (w : World) (ha : ChI w w.heap.size A c a) (hb : ChI w w.heap.size B d b) :
    Calls Try.prog 5 #[.slice A a.length c, .slice B b.length d, spVal s] w fun r w' => r = .returned (.bool true) ∧ Below w.heap.size w w' := by
  obtain ⟨sl, sh⟩ := s
  unfold spVal
  simp only
  obtain ⟨w0, hw0⟩ : ∃ y, (w.alloc (.cells #[.string (bs sl), .string (bs sh)] 60)) = y := ⟨_, rfl⟩
  have hb0 : Below w.heap.size w w0 := by rw [← hw0]; exact (Below.refl _ w).alloc (Nat.le_refl _) _
  have hx0 : w0.heap[w.heap.size]? = some (.cells #[.string (bs sl), .string (bs sh)] 60 (0, 0)) := by rw [← hw0]; exact heap_alloc_new w _
  have BX0 := Lib.hid hx0
  have HW0 := Lib.hid hw0
  have HK := Lib.hid K
  have HLa := Lib.hid (ha.below hb0 (Nat.le_refl _) hb0.size)
  have HLb := Lib.hid (hb.below hb0 (Nat.le_refl _) hb0.size)
  have HB := Lib.hid hb0
  clear K ha hb hw0 hb0 hx0
  cases hf : fewI a with
  | false =>
    have f := Lib.hid hf
    clear hf
    go_enter Try.func5, Try.ntmps5
    go_upto_region 1 with fail
    rw [HW0.out]
    clear HW0
    have HT := Lib.hid (liveI_any HK.out w0)
    go_wp2_with fail
    refine HT.out.mono ?_
    rintro r w1 ⟨rfl, hb1⟩
    clear HT
    have HLa := Lib.hid (HLa.out.below hb1 (Nat.le_refl _) hb1.size)
    have HLb := Lib.hid (HLb.out.below hb1 (Nat.le_refl _) hb1.size)
    have HB := Lib.hid (HB.out.trans (hb1.mono HB.out.size))
    have BX0 := Lib.hid (box_at BX0.out hb1)
    clear hb1
    have HT := Lib.hid (fewNo f.out HLa.out)
    go_wp2_with fail
    refine HT.out.mono ?_
    rintro r w2 ⟨rfl, hb2⟩
    clear HT
    have HLa := Lib.hid (HLa.out.below hb2 (Nat.le_refl _) hb2.size)
    have HLb := Lib.hid (HLb.out.below hb2 (Nat.le_refl _) hb2.size)
    have HB := Lib.hid (HB.out.trans (hb2.mono HB.out.size))
    have BX0 := Lib.hid (box_at BX0.out hb2)
    clear hb2
    have HT := Lib.hid (liveI_any HK.out w2)
    go_wp2_with fail
    refine HT.out.mono ?_
    rintro r w3 ⟨rfl, hb3⟩
    clear HT
    have HLa := Lib.hid (HLa.out.below hb3 (Nat.le_refl _) hb3.size)
    have HLb := Lib.hid (HLb.out.below hb3 (Nat.le_refl _) hb3.size)
    have HB := Lib.hid (HB.out.trans (hb3.mono HB.out.size))
    have BX0 := Lib.hid (box_at BX0.out hb3)
    clear hb3
    go_wp2_with fail
    go_ret
    exact ⟨rfl, HB.out⟩
  | true =>
    cases hg : fewI b with
    | false =>
      have f := Lib.hid hf
      have g := Lib.hid hg
      clear hf hg
      go_enter Try.func5, Try.ntmps5
      go_upto_region 1 with fail
      rw [HW0.out]
      clear HW0
      have HT := Lib.hid (liveI_any HK.out w0)
      go_wp2_with fail
      refine HT.out.mono ?_
      rintro r w1 ⟨rfl, hb1⟩
      clear HT
      have HLa := Lib.hid (HLa.out.below hb1 (Nat.le_refl _) hb1.size)
      have HLb := Lib.hid (HLb.out.below hb1 (Nat.le_refl _) hb1.size)
      have HB := Lib.hid (HB.out.trans (hb1.mono HB.out.size))
      have BX0 := Lib.hid (box_at BX0.out hb1)
      clear hb1
      have HT := Lib.hid (fewYes f.out HLa.out)
      go_wp2_with fail
      refine HT.out.mono ?_
      rintro r w2 ⟨rfl, hb2⟩
      clear HT
      have HLa := Lib.hid (HLa.out.below hb2 (Nat.le_refl _) hb2.size)
      have HLb := Lib.hid (HLb.out.below hb2 (Nat.le_refl _) hb2.size)
      have HB := Lib.hid (HB.out.trans (hb2.mono HB.out.size))
      have BX0 := Lib.hid (box_at BX0.out hb2)
      clear hb2
      have HT := Lib.hid (fewNo g.out HLb.out)
      go_wp2_with fail
      refine HT.out.mono ?_
      rintro r w3 ⟨rfl, hb3⟩
      clear HT
      have HLa := Lib.hid (HLa.out.below hb3 (Nat.le_refl _) hb3.size)
      have HLb := Lib.hid (HLb.out.below hb3 (Nat.le_refl _) hb3.size)
      have HB := Lib.hid (HB.out.trans (hb3.mono HB.out.size))
      have BX0 := Lib.hid (box_at BX0.out hb3)
      clear hb3
      have HT := Lib.hid (liveI_any HK.out w3)
      go_wp2_with fail
      refine HT.out.mono ?_
      rintro r w4 ⟨rfl, hb4⟩
      clear HT
      have HLa := Lib.hid (HLa.out.below hb4 (Nat.le_refl _) hb4.size)
      have HLb := Lib.hid (HLb.out.below hb4 (Nat.le_refl _) hb4.size)
      have HB := Lib.hid (HB.out.trans (hb4.mono HB.out.size))
      have BX0 := Lib.hid (box_at BX0.out hb4)
      clear hb4
      go_wp2_with fail
      go_ret
      exact ⟨rfl, HB.out⟩
    | true =>
      cases hh : fewI [⟨sl, sh⟩] with
      | false =>
        have f := Lib.hid hf
        have g := Lib.hid hg
        have h := Lib.hid hh
        clear hf hg hh
        go_enter Try.func5, Try.ntmps5
        go_upto_region 1 with fail
        rw [HW0.out]
        clear HW0
        have HT := Lib.hid (liveI_any HK.out w0)
        go_wp2_with fail
        refine HT.out.mono ?_
        rintro r w1 ⟨rfl, hb1⟩
        clear HT
        have HLa := Lib.hid (HLa.out.below hb1 (Nat.le_refl _) hb1.size)
        have HLb := Lib.hid (HLb.out.below hb1 (Nat.le_refl _) hb1.size)
        have HB := Lib.hid (HB.out.trans (hb1.mono HB.out.size))
        have BX0 := Lib.hid (box_at BX0.out hb1)
        clear hb1
        have HT := Lib.hid (fewYes f.out HLa.out)
        go_wp2_with fail
        refine HT.out.mono ?_
        rintro r w2 ⟨rfl, hb2⟩
        clear HT
        have HLa := Lib.hid (HLa.out.below hb2 (Nat.le_refl _) hb2.size)
        have HLb := Lib.hid (HLb.out.below hb2 (Nat.le_refl _) hb2.size)
        have HB := Lib.hid (HB.out.trans (hb2.mono HB.out.size))
        have BX0 := Lib.hid (box_at BX0.out hb2)
        clear hb2
        have HT := Lib.hid (fewYes g.out HLb.out)
        go_wp2_with fail
        refine HT.out.mono ?_
        rintro r w3 ⟨rfl, hb3⟩
        clear HT
        have HLa := Lib.hid (HLa.out.below hb3 (Nat.le_refl _) hb3.size)
        have HLb := Lib.hid (HLb.out.below hb3 (Nat.le_refl _) hb3.size)
        have HB := Lib.hid (HB.out.trans (hb3.mono HB.out.size))
        have BX0 := Lib.hid (box_at BX0.out hb3)
        clear hb3
        obtain ⟨BX0r0, BX0r1⟩ := box_read BX0.out
        have HT := Lib.hid (fewNo (l := [⟨sl, sh⟩]) h.out (chI_one (heap_alloc_new w3 (.cells #[.string (bs sl), .string (bs sh)] 60))))
        go_wp2_with fail
        refine HT.out.mono ?_
        rintro r w4 ⟨rfl, hb8⟩
        have hb4 := ((Below.refl w3.heap.size w3).alloc (Nat.le_refl _) (.cells #[.string (bs sl), .string (bs sh)] 60)).trans (hb8.mono (by simp))
        clear HT hb8
        clear BX0r0 BX0r1
        have HLa := Lib.hid (HLa.out.below hb4 (Nat.le_refl _) hb4.size)
        have HLb := Lib.hid (HLb.out.below hb4 (Nat.le_refl _) hb4.size)
        have HB := Lib.hid (HB.out.trans (hb4.mono HB.out.size))
        have BX0 := Lib.hid (box_at BX0.out hb4)
        clear hb4
        have HT := Lib.hid (liveI_any HK.out w4)
        go_wp2_with fail
        refine HT.out.mono ?_
        rintro r w5 ⟨rfl, hb5⟩
        clear HT
        have HLa := Lib.hid (HLa.out.below hb5 (Nat.le_refl _) hb5.size)
        have HLb := Lib.hid (HLb.out.below hb5 (Nat.le_refl _) hb5.size)
        have HB := Lib.hid (HB.out.trans (hb5.mono HB.out.size))
        have BX0 := Lib.hid (box_at BX0.out hb5)
        clear hb5
        go_wp2_with fail
        go_ret
        exact ⟨rfl, HB.out⟩
      | true =>
        have f := Lib.hid hf
        have g := Lib.hid hg
        have h := Lib.hid hh
        have HQa := Lib.hid (fewI_ok hf)
        have HQb := Lib.hid (fewI_ok hg)
        have HLn := Lib.hid (show a.length ≤ 1000 from fewI_ok hf)
        have HLm := Lib.hid (show b.length ≤ 1000 from fewI_ok hg)
        clear hf hg hh
        go_enter Try.func5, Try.ntmps5
        go_upto_region 1 with fail
        rw [HW0.out]
        clear HW0
        have HT := Lib.hid (liveI_any HK.out w0)
        go_wp2_with fail
        refine HT.out.mono ?_
        rintro r w1 ⟨rfl, hb1⟩
        clear HT
        have HLa := Lib.hid (HLa.out.below hb1 (Nat.le_refl _) hb1.size)
        have HLb := Lib.hid (HLb.out.below hb1 (Nat.le_refl _) hb1.size)
        have HB := Lib.hid (HB.out.trans (hb1.mono HB.out.size))
        have BX0 := Lib.hid (box_at BX0.out hb1)
        clear hb1
        have HT := Lib.hid (fewYes f.out HLa.out)
        go_wp2_with fail
        refine HT.out.mono ?_
        rintro r w2 ⟨rfl, hb2⟩
        clear HT
        have HLa := Lib.hid (HLa.out.below hb2 (Nat.le_refl _) hb2.size)
        have HLb := Lib.hid (HLb.out.below hb2 (Nat.le_refl _) hb2.size)
        have HB := Lib.hid (HB.out.trans (hb2.mono HB.out.size))
        have BX0 := Lib.hid (box_at BX0.out hb2)
        clear hb2
        have HT := Lib.hid (fewYes g.out HLb.out)
        go_wp2_with fail
        refine HT.out.mono ?_
        rintro r w3 ⟨rfl, hb3⟩
        clear HT
        have HLa := Lib.hid (HLa.out.below hb3 (Nat.le_refl _) hb3.size)
        have HLb := Lib.hid (HLb.out.below hb3 (Nat.le_refl _) hb3.size)
        have HB := Lib.hid (HB.out.trans (hb3.mono HB.out.size))
        have BX0 := Lib.hid (box_at BX0.out hb3)
        clear hb3
        obtain ⟨BX0r0, BX0r1⟩ := box_read BX0.out
        have HT := Lib.hid (fewYes (l := [⟨sl, sh⟩]) h.out (chI_one (heap_alloc_new w3 (.cells #[.string (bs sl), .string (bs sh)] 60))))
        go_wp2_with fail
        refine HT.out.mono ?_
        rintro r w4 ⟨rfl, hb8⟩
        have hb4 := ((Below.refl w3.heap.size w3).alloc (Nat.le_refl _) (.cells #[.string (bs sl), .string (bs sh)] 60)).trans (hb8.mono (by simp))
        clear HT hb8
        clear BX0r0 BX0r1
        have HLa := Lib.hid (HLa.out.below hb4 (Nat.le_refl _) hb4.size)
        have HLb := Lib.hid (HLb.out.below hb4 (Nat.le_refl _) hb4.size)
        have HB := Lib.hid (HB.out.trans (hb4.mono HB.out.size))
        have BX0 := Lib.hid (box_at BX0.out hb4)
        clear hb4
        have HV := Lib.hid (HLa.out.below ((Below.refl w4.heap.size w4).alloc (Nat.le_refl _) (.cells #[] 60)) (Nat.le_refl _) (Nat.le_refl _))
        have HBw := Lib.hid ((Below.refl w4.heap.size w4).alloc (Nat.le_refl _) (.cells #[] 60))
        go_upto_region 4 with (at_builtin; refine append_row _ rfl _ _ 62 60 32 spF spInfo Try.underlying62 rfl w4.heap.size _ [] rfl (OwnG.made w4 60 2 spCells) 0 _ A a.length c a rfl rfl HV.out.2.2.1 HV.out.2.2.2 (by have := HLn.out; simp [maxLen]; omega) (by have := HLn.out; simp; omega) (by simp) ?_; intro v9 w5 ho9 hg9; have HO9 := Lib.hid ho9.chI; have HB9 := Lib.hid (HBw.out.grown hg9 (by simp) (fun k hk => ((OwnG.made w4 60 2 spCells).lt k hk).1)); clear ho9 hg9)
        obtain ⟨A9, c9, rfl, hc9⟩ := HO9.out
        rw [List.nil_append] at hc9
        have hb9 := HB9.out
        clear HO9 HV HBw HB9
        have HLa := Lib.hid (HLa.out.below hb9 (Nat.le_refl _) hb9.size)
        have HLb := Lib.hid (HLb.out.below hb9 (Nat.le_refl _) hb9.size)
        have HB := Lib.hid (HB.out.trans (hb9.mono HB.out.size))
        have BX0 := Lib.hid (box_at BX0.out hb9)
        have H9 := Lib.hid hc9
        clear hc9 hb9
        obtain ⟨M, hM⟩ : ∃ y, joinSp (a ++ [⟨sl, sh⟩]) = y := ⟨_, rfl⟩
        obtain ⟨J, hJ⟩ : ∃ y, joinSp (a ++ b) = y := ⟨_, rfl⟩
        have HAt := Lib.hid (fun (W : World) (h : Below w5.heap.size w5 W) => HLa.out.below h (Nat.le_refl _) h.size)
        have HBt := Lib.hid (fun (W : World) (h : Below w5.heap.size w5 W) => HLb.out.below h (Nat.le_refl _) h.size)
        have H9t := Lib.hid (fun (W : World) (h : Below w5.heap.size w5 W) => H9.out.below h (Nat.le_refl _) h.size)
        have HKp := Lib.hid (fun (W : World) (h : Below w5.heap.size w5 W) => And.intro (box_read (box_at BX0.out h)).1 (And.intro (box_read (box_at BX0.out h)).2 h))
        have C1 : Hid (∀ (W : World), Below w5.heap.size w5 W → Calls Try.prog 40 #[.slice A a.length c, .agg #[.string (bs sl), .string (bs sh)]] W fun r w' => ∃ A5 c5, r = .returned (.slice A5 M.length c5) ∧ ChI w' w'.heap.size A5 c5 M ∧ Below w5.heap.size w5 w') := Lib.hid fun W h => by
          have q := HK.out.add a ⟨sl, sh⟩ A c W HQa.out (HAt.out W h)
          rw [hM] at q
          exact q.mono fun _ _ ⟨A5, c5, e, h5, q⟩ => ⟨A5, c5, e, h5, h.trans (q.mono h.size)⟩
        have C2 : Hid (∀ (A5 : Option Addr) (c5 : Nat) (W : World), ChI W W.heap.size A5 c5 M → Below w5.heap.size w5 W → Calls Try.prog 41 #[.slice A a.length c, .agg #[.string (bs sl), .string (bs sh)]] W fun r w' => ∃ A6 c6, r = .returned (.slice A6 M.length c6) ∧ ChI w' w'.heap.size A5 c5 M ∧ ChI w' w'.heap.size A6 c6 M ∧ Below w5.heap.size w5 w') := Lib.hid fun A5 c5 W g h => by
          have q := refAddI_any a ⟨sl, sh⟩ A c W (by have := HLn.out; omega) (HAt.out W h).2.2.1 (HAt.out W h).2.2.2
          rw [hM] at q
          exact q.mono fun _ _ ⟨A6, c6, e, h6, q⟩ => ⟨A6, c6, e, g.below q (Nat.le_refl _) q.size, h6, h.trans (q.mono h.size)⟩
        have C3 : Hid (∀ (W : World), Below w5.heap.size w5 W → Calls Try.prog 42 #[.slice A a.length c, .slice B b.length d] W fun r w' => ∃ A5 c5, r = .returned (.slice A5 J.length c5) ∧ ChI w' w'.heap.size A5 c5 J ∧ Below w5.heap.size w5 w') := Lib.hid fun W h => by
          have q := HK.out.join a b A B c d W HQa.out HQb.out (HAt.out W h) (HBt.out W h)
          rw [hJ] at q
          exact q.mono fun _ _ ⟨A5, c5, e, h5, q⟩ => ⟨A5, c5, e, h5, h.trans (q.mono h.size)⟩
        have C4 : Hid (∀ (A5 : Option Addr) (c5 : Nat) (W : World), ChI W W.heap.size A5 c5 J → Below w5.heap.size w5 W → Calls Try.prog 43 #[.slice A a.length c, .slice B b.length d] W fun r w' => ∃ A6 c6, r = .returned (.slice A6 J.length c6) ∧ ChI w' w'.heap.size A5 c5 J ∧ ChI w' w'.heap.size A6 c6 J ∧ Below w5.heap.size w5 w') := Lib.hid fun A5 c5 W g h => by
          have q := refJoinI_any a b A B c d W (by have := HLn.out; have := HLm.out; omega) (HAt.out W h).2.2.1 (HBt.out W h).2.2.1 (HAt.out W h).2.2.2 (HBt.out W h).2.2.2
          rw [hJ] at q
          exact q.mono fun _ _ ⟨A6, c6, e, h6, q⟩ => ⟨A6, c6, e, g.below q (Nat.le_refl _) q.size, h6, h.trans (q.mono h.size)⟩
        have CSM : Hid (∀ (A5 A6 : Option Addr) (c5 c6 : Nat) (W : World), ChI W W.heap.size A5 c5 M → ChI W W.heap.size A6 c6 M → Below w5.heap.size w5 W → Calls Try.prog 39 #[.slice A5 M.length c5, .slice A6 M.length c6] W fun r w' => r = .returned (.bool true) ∧ Below w5.heap.size w5 w') := Lib.hid fun A5 A6 c5 c6 W h5 h6 h => (sameYes h5 h6).mono fun _ _ q => ⟨q.1, h.trans (q.2.mono h.size)⟩
        have CSJ : Hid (∀ (A5 A6 : Option Addr) (c5 c6 : Nat) (W : World), ChI W W.heap.size A5 c5 J → ChI W W.heap.size A6 c6 J → Below w5.heap.size w5 W → Calls Try.prog 39 #[.slice A5 J.length c5, .slice A6 J.length c6] W fun r w' => r = .returned (.bool true) ∧ Below w5.heap.size w5 w') := Lib.hid fun A5 A6 c5 c6 W h5 h6 h => (sameYes h5 h6).mono fun _ _ q => ⟨q.1, h.trans (q.2.mono h.size)⟩
        have C5 : Hid (∀ (W : World), Below w5.heap.size w5 W → Calls Try.prog 44 #[.slice A a.length c] W fun r w' => r = .returned (.bool (normB a)) ∧ Below w5.heap.size w5 w') := Lib.hid fun W h => (HK.out.normal a A c W HQa.out (HAt.out W h)).mono fun _ _ q => ⟨q.1, h.trans (q.2.mono h.size)⟩
        have C6 : Hid (∀ (W : World), Below w5.heap.size w5 W → Calls Try.prog 45 #[.slice A a.length c] W fun r w' => r = .returned (.bool (normB a)) ∧ Below w5.heap.size w5 w') := Lib.hid fun W h => (refNormalI_any a A c W (by have := HLn.out; omega) (HAt.out W h).2.2.2).mono fun _ _ q => ⟨q.1, h.trans (q.2.mono h.size)⟩
        have C7 : Hid (∀ (W : World), Below w5.heap.size w5 W → Calls Try.prog 46 #[.slice A a.length c, .string (bs sl)] W fun r w' => r = .returned (.bool (inS a sl)) ∧ Below w5.heap.size w5 w') := Lib.hid fun W h => (HK.out.has_in a A c sl W HQa.out (HAt.out W h)).mono fun _ _ q => ⟨q.1, h.trans (q.2.mono h.size)⟩
        have C8 : Hid (∀ (W : World), Below w5.heap.size w5 W → Calls Try.prog 47 #[.slice A a.length c, .string (bs sl)] W fun r w' => r = .returned (.bool (inS a sl)) ∧ Below w5.heap.size w5 w') := Lib.hid fun W h => (refInI_any a A c sl W (by have := HLn.out; omega) (HAt.out W h).2.2.2).mono fun _ _ q => ⟨q.1, h.trans (q.2.mono h.size)⟩
        have C9 : Hid (∀ (W : World), Below w5.heap.size w5 W → Calls Try.prog 48 #[.slice A a.length c, .slice B b.length d] W fun r w' => r = .returned (.bool (meetB a b)) ∧ Below w5.heap.size w5 w') := Lib.hid fun W h => (HK.out.meet a b A B c d W HQa.out HQb.out (HAt.out W h) (HBt.out W h)).mono fun _ _ q => ⟨q.1, h.trans (q.2.mono h.size)⟩
        have C10 : Hid (∀ (W : World), Below w5.heap.size w5 W → Calls Try.prog 49 #[.slice A a.length c, .slice B b.length d] W fun r w' => r = .returned (.bool (meetB a b)) ∧ Below w5.heap.size w5 w') := Lib.hid fun W h => (refMeetI_any a b A B c d W (by have := HLn.out; omega) (by have := HLm.out; omega) (HAt.out W h).2.2.2 (HBt.out W h).2.2.2).mono fun _ _ q => ⟨q.1, h.trans (q.2.mono h.size)⟩
        have C11 : Hid (∀ (W : World), Below w5.heap.size w5 W → Calls Try.prog 50 #[.slice A a.length c, .slice B b.length d] W fun r w' => r = .returned (.bool (sameI a b)) ∧ Below w5.heap.size w5 w') := Lib.hid fun W h => (HK.out.same a b A B c d W HQa.out HQb.out (HAt.out W h) (HBt.out W h)).mono fun _ _ q => ⟨q.1, h.trans (q.2.mono h.size)⟩
        have C12 : Hid (∀ (W : World), Below w5.heap.size w5 W → Calls Try.prog 39 #[.slice A a.length c, .slice B b.length d] W fun r w' => r = .returned (.bool (sameI a b)) ∧ Below w5.heap.size w5 w') := Lib.hid fun W h => (refSameI_any a b A B c d W (by have := HLn.out; omega) (by have := HLm.out; omega) (HAt.out W h).2.2.2 (HBt.out W h).2.2.2).mono fun _ _ q => ⟨q.1, h.trans (q.2.mono h.size)⟩
        have C13 : Hid (∀ (W : World), Below w5.heap.size w5 W → Calls Try.prog 39 #[.slice A a.length c, .slice A9 a.length c9] W fun r w' => r = .returned (.bool true) ∧ Below w5.heap.size w5 w') := Lib.hid fun W h => (sameYes (HAt.out W h) (H9t.out W h)).mono fun _ _ q => ⟨q.1, h.trans (q.2.mono h.size)⟩
        clear hM hJ
        generalize normB a = p at *
        generalize inS a sl = q at *
        generalize meetB a b = m at *
        generalize sameI a b = u at *
        obtain ⟨x0, x1, _⟩ := HKp.out w5 (Below.refl _ _)
        go_wp2_with fail
        go_region_held3 (fun W => W.cell? ⟨w.heap.size, 0, none⟩ = some (.string (bs sl)) ∧ W.cell? ⟨w.heap.size, 1, none⟩ = some (.string (bs sh)) ∧ Below w5.heap.size w5 W)
          (first | with_reducible exact HKp.out _ hb6 | with_reducible exact HKp.out _ (Below.refl _ _).drew)
          ((first
            | (go_at_call 41; with_reducible refine (C2.out _ _ _ h5 hb6).mono ?_; rintro r w' ⟨A6, c6, rfl, h5, h6, hb6⟩)
            | (go_at_call 40; with_reducible refine (C1.out _ (by go_split_ands; assumption)).mono ?_; rintro r w' ⟨A5, c5, rfl, h5, hb6⟩)
            | (go_at_call 39; with_reducible refine (CSM.out _ _ _ _ _ h5 h6 hb6).mono ?_; rintro r w' ⟨rfl, hb6⟩)
            | (go_at_call 43; with_reducible refine (C4.out _ _ _ h7 hb6).mono ?_; rintro r w' ⟨A8, c8, rfl, h7, h8, hb6⟩)
            | (go_at_call 42; with_reducible refine (C3.out _ hb6).mono ?_; rintro r w' ⟨A7, c7, rfl, h7, hb6⟩)
            | (go_at_call 39; with_reducible refine (CSJ.out _ _ _ _ _ h7 h8 hb6).mono ?_; rintro r w' ⟨rfl, hb6⟩)
            | (go_at_call 44; with_reducible refine (C5.out _ hb6).mono ?_; rintro r w' ⟨rfl, hb6⟩)
            | (go_at_call 45; with_reducible refine (C6.out _ hb6).mono ?_; rintro r w' ⟨rfl, hb6⟩)
            | (go_at_call 46; with_reducible refine (C7.out _ hb6).mono ?_; rintro r w' ⟨rfl, hb6⟩)
            | (go_at_call 47; with_reducible refine (C8.out _ hb6).mono ?_; rintro r w' ⟨rfl, hb6⟩)
            | (go_at_call 48; with_reducible refine (C9.out _ hb6).mono ?_; rintro r w' ⟨rfl, hb6⟩)
            | (go_at_call 49; with_reducible refine (C10.out _ hb6).mono ?_; rintro r w' ⟨rfl, hb6⟩)
            | (go_at_call 50; with_reducible refine (C11.out _ hb6).mono ?_; rintro r w' ⟨rfl, hb6⟩)
            | (go_at_call 39; with_reducible refine (C12.out _ hb6).mono ?_; rintro r w' ⟨rfl, hb6⟩)
            | (go_at_call 39; with_reducible refine (C13.out _ hb6).mono ?_; rintro r w' ⟨rfl, hb6⟩)))
        have hb9 := HB.out.trans (hb6.mono HB.out.size)
        go_wp2_with fail
        go_ret
        exact ⟨rfl, hb9⟩
end Go.Proofs.Ytooegjdppeiccaa.spanAdds
