/-
  The walk of SpanOrder: the order of adding does not matter, nor how often.
-/
import Derived.Test.YtooegjdppeiccaaILaw
import Derived.Deep.DeepCutAuto
import Derived.Deep.RegionHeld3
namespace Go.Proofs.Ytooegjdppeiccaa.spanOrder
open Go.RowKit

set_option maxRecDepth 100000 in
set_option maxHeartbeats 8000000 in
theorem walk (K : SpanC) (a b : List Sp) (A B : Option Addr) (c d : Nat) (s t : Sp) (w : World) (ha : ChI w w.heap.size A c a) (hb : ChI w w.heap.size B d b) :
    Calls Try.prog 8 #[.slice A a.length c, .slice B b.length d, spVal s, spVal t] w fun r w' => r = .returned (.bool true) ∧ Below w.heap.size w w' := by
  obtain ⟨sl, sh⟩ := s
  obtain ⟨tl, th⟩ := t
  unfold spVal
  simp only
  obtain ⟨w0, hw0⟩ : ∃ y, ((w.alloc (.cells #[.string (bs sl), .string (bs sh)] 60)).alloc (.cells #[.string (bs tl), .string (bs th)] 60)) = y := ⟨_, rfl⟩
  have hb0 : Below w.heap.size w w0 := by rw [← hw0]; exact ((Below.refl _ w).alloc (Nat.le_refl _) _).alloc (by simp) _
  have hx0 : w0.heap[w.heap.size]? = some (.cells #[.string (bs sl), .string (bs sh)] 60 (0, 0)) := by rw [← hw0]; exact heap_allocs (heap_alloc_new w _) _
  have hx1 : w0.heap[w.heap.size + 1]? = some (.cells #[.string (bs tl), .string (bs th)] 60 (0, 0)) := by rw [← hw0]; exact heap_new2 w _ _
  have BX0 := Lib.hid hx0
  have BX1 := Lib.hid hx1
  have HW0 := Lib.hid hw0
  have HK := Lib.hid K
  have HLa := Lib.hid (ha.below hb0 (Nat.le_refl _) hb0.size)
  have HLb := Lib.hid (hb.below hb0 (Nat.le_refl _) hb0.size)
  have HB := Lib.hid hb0
  clear K ha hb hw0 hb0 hx0 hx1
  cases hf : fewI a with
  | false =>
    have f := Lib.hid hf
    clear hf
    go_enter Try.func8, Try.ntmps8
    go_upto_region 1 with fail
    rw [HW0.out]
    clear HW0
    have HT := Lib.hid (liveI_any HK.out w0)
    go_wp2_with fail
    refine HT.out.mono ?_
    rintro r w1 ⟨rfl, hb1⟩
    clear HT
    have HLa := Lib.hid (HLa.out.below hb1 (Nat.le_refl _) hb1.size)
    have HLb := Lib.hid (HLb.out.below hb1 (Nat.le_refl _) hb1.size)
    have HB := Lib.hid (HB.out.trans (hb1.mono HB.out.size))
    have BX0 := Lib.hid (box_at BX0.out hb1)
    have BX1 := Lib.hid (box_at BX1.out hb1)
    clear hb1
    have HT := Lib.hid (fewNo f.out HLa.out)
    go_wp2_with fail
    refine HT.out.mono ?_
    rintro r w2 ⟨rfl, hb2⟩
    clear HT
    have HLa := Lib.hid (HLa.out.below hb2 (Nat.le_refl _) hb2.size)
    have HLb := Lib.hid (HLb.out.below hb2 (Nat.le_refl _) hb2.size)
    have HB := Lib.hid (HB.out.trans (hb2.mono HB.out.size))
    have BX0 := Lib.hid (box_at BX0.out hb2)
    have BX1 := Lib.hid (box_at BX1.out hb2)
    clear hb2
    have HT := Lib.hid (liveI_any HK.out w2)
    go_wp2_with fail
    refine HT.out.mono ?_
    rintro r w3 ⟨rfl, hb3⟩
    clear HT
    have HLa := Lib.hid (HLa.out.below hb3 (Nat.le_refl _) hb3.size)
    have HLb := Lib.hid (HLb.out.below hb3 (Nat.le_refl _) hb3.size)
    have HB := Lib.hid (HB.out.trans (hb3.mono HB.out.size))
    have BX0 := Lib.hid (box_at BX0.out hb3)
    have BX1 := Lib.hid (box_at BX1.out hb3)
    clear hb3
    go_wp2_with fail
    go_ret
    exact ⟨rfl, HB.out⟩
  | true =>
    cases hg : fewI b with
    | false =>
      have f := Lib.hid hf
      have g := Lib.hid hg
      clear hf hg
      go_enter Try.func8, Try.ntmps8
      go_upto_region 1 with fail
      rw [HW0.out]
      clear HW0
      have HT := Lib.hid (liveI_any HK.out w0)
      go_wp2_with fail
      refine HT.out.mono ?_
      rintro r w1 ⟨rfl, hb1⟩
      clear HT
      have HLa := Lib.hid (HLa.out.below hb1 (Nat.le_refl _) hb1.size)
      have HLb := Lib.hid (HLb.out.below hb1 (Nat.le_refl _) hb1.size)
      have HB := Lib.hid (HB.out.trans (hb1.mono HB.out.size))
      have BX0 := Lib.hid (box_at BX0.out hb1)
      have BX1 := Lib.hid (box_at BX1.out hb1)
      clear hb1
      have HT := Lib.hid (fewYes f.out HLa.out)
      go_wp2_with fail
      refine HT.out.mono ?_
      rintro r w2 ⟨rfl, hb2⟩
      clear HT
      have HLa := Lib.hid (HLa.out.below hb2 (Nat.le_refl _) hb2.size)
      have HLb := Lib.hid (HLb.out.below hb2 (Nat.le_refl _) hb2.size)
      have HB := Lib.hid (HB.out.trans (hb2.mono HB.out.size))
      have BX0 := Lib.hid (box_at BX0.out hb2)
      have BX1 := Lib.hid (box_at BX1.out hb2)
      clear hb2
      have HT := Lib.hid (fewNo g.out HLb.out)
      go_wp2_with fail
      refine HT.out.mono ?_
      rintro r w3 ⟨rfl, hb3⟩
      clear HT
      have HLa := Lib.hid (HLa.out.below hb3 (Nat.le_refl _) hb3.size)
      have HLb := Lib.hid (HLb.out.below hb3 (Nat.le_refl _) hb3.size)
      have HB := Lib.hid (HB.out.trans (hb3.mono HB.out.size))
      have BX0 := Lib.hid (box_at BX0.out hb3)
      have BX1 := Lib.hid (box_at BX1.out hb3)
      clear hb3
      have HT := Lib.hid (liveI_any HK.out w3)
      go_wp2_with fail
      refine HT.out.mono ?_
      rintro r w4 ⟨rfl, hb4⟩
      clear HT
      have HLa := Lib.hid (HLa.out.below hb4 (Nat.le_refl _) hb4.size)
      have HLb := Lib.hid (HLb.out.below hb4 (Nat.le_refl _) hb4.size)
      have HB := Lib.hid (HB.out.trans (hb4.mono HB.out.size))
      have BX0 := Lib.hid (box_at BX0.out hb4)
      have BX1 := Lib.hid (box_at BX1.out hb4)
      clear hb4
      go_wp2_with fail
      go_ret
      exact ⟨rfl, HB.out⟩
    | true =>
      cases hh : fewI [⟨sl, sh⟩, ⟨tl, th⟩] with
      | false =>
        have f := Lib.hid hf
        have g := Lib.hid hg
        have h := Lib.hid hh
        clear hf hg hh
        go_enter Try.func8, Try.ntmps8
        go_upto_region 1 with fail
        rw [HW0.out]
        clear HW0
        have HT := Lib.hid (liveI_any HK.out w0)
        go_wp2_with fail
        refine HT.out.mono ?_
        rintro r w1 ⟨rfl, hb1⟩
        clear HT
        have HLa := Lib.hid (HLa.out.below hb1 (Nat.le_refl _) hb1.size)
        have HLb := Lib.hid (HLb.out.below hb1 (Nat.le_refl _) hb1.size)
        have HB := Lib.hid (HB.out.trans (hb1.mono HB.out.size))
        have BX0 := Lib.hid (box_at BX0.out hb1)
        have BX1 := Lib.hid (box_at BX1.out hb1)
        clear hb1
        have HT := Lib.hid (fewYes f.out HLa.out)
        go_wp2_with fail
        refine HT.out.mono ?_
        rintro r w2 ⟨rfl, hb2⟩
        clear HT
        have HLa := Lib.hid (HLa.out.below hb2 (Nat.le_refl _) hb2.size)
        have HLb := Lib.hid (HLb.out.below hb2 (Nat.le_refl _) hb2.size)
        have HB := Lib.hid (HB.out.trans (hb2.mono HB.out.size))
        have BX0 := Lib.hid (box_at BX0.out hb2)
        have BX1 := Lib.hid (box_at BX1.out hb2)
        clear hb2
        have HT := Lib.hid (fewYes g.out HLb.out)
        go_wp2_with fail
        refine HT.out.mono ?_
        rintro r w3 ⟨rfl, hb3⟩
        clear HT
        have HLa := Lib.hid (HLa.out.below hb3 (Nat.le_refl _) hb3.size)
        have HLb := Lib.hid (HLb.out.below hb3 (Nat.le_refl _) hb3.size)
        have HB := Lib.hid (HB.out.trans (hb3.mono HB.out.size))
        have BX0 := Lib.hid (box_at BX0.out hb3)
        have BX1 := Lib.hid (box_at BX1.out hb3)
        clear hb3
        obtain ⟨BX0r0, BX0r1⟩ := box_read BX0.out
        obtain ⟨BX1r0, BX1r1⟩ := box_read BX1.out
        have HT := Lib.hid (fewNo (l := [⟨sl, sh⟩, ⟨tl, th⟩]) h.out (chI_two (heap_alloc_new w3 (.cells #[.string (bs sl), .string (bs sh), .string (bs tl), .string (bs th)] 60))))
        go_wp2_with fail
        refine HT.out.mono ?_
        rintro r w4 ⟨rfl, hb8⟩
        have hb4 := ((Below.refl w3.heap.size w3).alloc (Nat.le_refl _) (.cells #[.string (bs sl), .string (bs sh), .string (bs tl), .string (bs th)] 60)).trans (hb8.mono (by simp))
        clear HT hb8
        clear BX0r0 BX0r1 BX1r0 BX1r1
        have HLa := Lib.hid (HLa.out.below hb4 (Nat.le_refl _) hb4.size)
        have HLb := Lib.hid (HLb.out.below hb4 (Nat.le_refl _) hb4.size)
        have HB := Lib.hid (HB.out.trans (hb4.mono HB.out.size))
        have BX0 := Lib.hid (box_at BX0.out hb4)
        have BX1 := Lib.hid (box_at BX1.out hb4)
        clear hb4
        have HT := Lib.hid (liveI_any HK.out w4)
        go_wp2_with fail
        refine HT.out.mono ?_
        rintro r w5 ⟨rfl, hb5⟩
        clear HT
        have HLa := Lib.hid (HLa.out.below hb5 (Nat.le_refl _) hb5.size)
        have HLb := Lib.hid (HLb.out.below hb5 (Nat.le_refl _) hb5.size)
        have HB := Lib.hid (HB.out.trans (hb5.mono HB.out.size))
        have BX0 := Lib.hid (box_at BX0.out hb5)
        have BX1 := Lib.hid (box_at BX1.out hb5)
        clear hb5
        go_wp2_with fail
        go_ret
        exact ⟨rfl, HB.out⟩
      | true =>
        have f := Lib.hid hf
        have g := Lib.hid hg
        have h := Lib.hid hh
        have hqa := fewI_ok hf
        have hqb := fewI_ok hg
        have la := (fewI_yes hf).2
        have lb := (fewI_yes hg).2
        have lx1 := join_len (a ++ [⟨sl, sh⟩])
        have lx2 := join_len (a ++ [⟨tl, th⟩])
        have lx3 := join_len (joinSp (a ++ [⟨sl, sh⟩]) ++ [⟨tl, th⟩])
        have lx4 := join_len (a ++ b)
        rw [List.length_append, List.length_singleton] at lx1 lx2 lx3
        rw [List.length_append] at lx4
        have e1 : joinSp (joinSp (a ++ [⟨tl, th⟩]) ++ [⟨sl, sh⟩]) = joinSp (joinSp (a ++ [⟨sl, sh⟩]) ++ [⟨tl, th⟩]) := join_eq (join_norm _) fun k => by
          rw [join_in, in_append, in_append, join_in, join_in, in_append, in_append, in_one, in_one, Bool.or_assoc, Bool.or_assoc, Bool.or_comm (hasS ⟨tl, th⟩ k)]
        have e2 : joinSp (joinSp (joinSp (a ++ [⟨sl, sh⟩]) ++ [⟨tl, th⟩]) ++ [⟨sl, sh⟩]) = joinSp (joinSp (a ++ [⟨sl, sh⟩]) ++ [⟨tl, th⟩]) := (join_eq (join_norm _) fun k => by
          rw [in_append, join_in, in_append, join_in, in_append, in_one, in_one]
          cases inS a k <;> cases hasS ⟨sl, sh⟩ k <;> cases hasS ⟨tl, th⟩ k <;> rfl).symm
        have e3 : joinSp (b ++ a) = joinSp (a ++ b) := join_eq (join_norm _) fun k => by rw [join_in, in_append, in_append, Bool.or_comm]
        have e4 : joinSp (joinSp (joinSp (a ++ [⟨sl, sh⟩]) ++ [⟨tl, th⟩]) ++ []) = joinSp (joinSp (a ++ [⟨sl, sh⟩]) ++ [⟨tl, th⟩]) := by
          rw [List.append_nil]
          exact (join_eq (join_norm _) fun _ => rfl).symm
        have H1 := Lib.hid (fun (W : World) (h : ChI W W.heap.size A c a) => HK.out.add a ⟨sl, sh⟩ A c W hqa h)
        have H2 := Lib.hid (fun (W : World) (h : ChI W W.heap.size A c a) => HK.out.add a ⟨tl, th⟩ A c W hqa h)
        have H3 := Lib.hid (fun (A5 : Option Addr) (c5 : Nat) (W : World) (h : ChI W W.heap.size A5 c5 (joinSp (a ++ [⟨sl, sh⟩]))) => HK.out.add _ ⟨tl, th⟩ A5 c5 W (by unfold okI; omega) h)
        have H4 := Lib.hid (fun (A5 : Option Addr) (c5 : Nat) (W : World) (h : ChI W W.heap.size A5 c5 (joinSp (a ++ [⟨tl, th⟩]))) => HK.out.add _ ⟨sl, sh⟩ A5 c5 W (by unfold okI; omega) h)
        have H5 := Lib.hid (fun (A5 : Option Addr) (c5 : Nat) (W : World) (h : ChI W W.heap.size A5 c5 (joinSp (joinSp (a ++ [⟨sl, sh⟩]) ++ [⟨tl, th⟩]))) => HK.out.add _ ⟨sl, sh⟩ A5 c5 W (by unfold okI; omega) h)
        have H6 := Lib.hid (fun (W : World) (h : ChI W W.heap.size A c a) (g : ChI W W.heap.size B d b) => HK.out.join a b A B c d W hqa hqb h g)
        have H7 := Lib.hid (fun (W : World) (h : ChI W W.heap.size A c a) (g : ChI W W.heap.size B d b) => HK.out.join b a B A d c W hqb hqa g h)
        have H8 := Lib.hid (fun (A5 : Option Addr) (c5 : Nat) (W : World) (h : ChI W W.heap.size A5 c5 (joinSp (joinSp (a ++ [⟨sl, sh⟩]) ++ [⟨tl, th⟩]))) => HK.out.join _ [] A5 none c5 0 W (by unfold okI; omega) (by simp [okI]) h (ChI.none_ _ _))
        rw [e1] at H4
        rw [e2] at H5
        rw [e3] at H7
        rw [e4] at H8
        unfold spVal at H1 H2 H3 H4 H5
        simp only at H1 H2 H3 H4 H5
        generalize joinSp (joinSp (a ++ [⟨sl, sh⟩]) ++ [⟨tl, th⟩]) = X at *
        generalize joinSp (a ++ [⟨sl, sh⟩]) = X1 at *
        generalize joinSp (a ++ [⟨tl, th⟩]) = X2 at *
        generalize joinSp (a ++ b) = J at *
        clear hf hg hh hqa hqb la lb lx1 lx2 lx3 lx4 e1 e2 e3 e4
        go_enter Try.func8, Try.ntmps8
        go_upto_region 1 with fail
        rw [HW0.out]
        clear HW0
        have HT := Lib.hid (liveI_any HK.out w0)
        go_wp2_with fail
        refine HT.out.mono ?_
        rintro r w1 ⟨rfl, hb1⟩
        clear HT
        have HLa := Lib.hid (HLa.out.below hb1 (Nat.le_refl _) hb1.size)
        have HLb := Lib.hid (HLb.out.below hb1 (Nat.le_refl _) hb1.size)
        have HB := Lib.hid (HB.out.trans (hb1.mono HB.out.size))
        have BX0 := Lib.hid (box_at BX0.out hb1)
        have BX1 := Lib.hid (box_at BX1.out hb1)
        clear hb1
        have HT := Lib.hid (fewYes f.out HLa.out)
        go_wp2_with fail
        refine HT.out.mono ?_
        rintro r w2 ⟨rfl, hb2⟩
        clear HT
        have HLa := Lib.hid (HLa.out.below hb2 (Nat.le_refl _) hb2.size)
        have HLb := Lib.hid (HLb.out.below hb2 (Nat.le_refl _) hb2.size)
        have HB := Lib.hid (HB.out.trans (hb2.mono HB.out.size))
        have BX0 := Lib.hid (box_at BX0.out hb2)
        have BX1 := Lib.hid (box_at BX1.out hb2)
        clear hb2
        have HT := Lib.hid (fewYes g.out HLb.out)
        go_wp2_with fail
        refine HT.out.mono ?_
        rintro r w3 ⟨rfl, hb3⟩
        clear HT
        have HLa := Lib.hid (HLa.out.below hb3 (Nat.le_refl _) hb3.size)
        have HLb := Lib.hid (HLb.out.below hb3 (Nat.le_refl _) hb3.size)
        have HB := Lib.hid (HB.out.trans (hb3.mono HB.out.size))
        have BX0 := Lib.hid (box_at BX0.out hb3)
        have BX1 := Lib.hid (box_at BX1.out hb3)
        clear hb3
        obtain ⟨BX0r0, BX0r1⟩ := box_read BX0.out
        obtain ⟨BX1r0, BX1r1⟩ := box_read BX1.out
        have HT := Lib.hid (fewYes (l := [⟨sl, sh⟩, ⟨tl, th⟩]) h.out (chI_two (heap_alloc_new w3 (.cells #[.string (bs sl), .string (bs sh), .string (bs tl), .string (bs th)] 60))))
        go_wp2_with fail
        refine HT.out.mono ?_
        rintro r w4 ⟨rfl, hb8⟩
        have hb4 := ((Below.refl w3.heap.size w3).alloc (Nat.le_refl _) (.cells #[.string (bs sl), .string (bs sh), .string (bs tl), .string (bs th)] 60)).trans (hb8.mono (by simp))
        clear HT hb8
        clear BX0r0 BX0r1 BX1r0 BX1r1
        have HLa := Lib.hid (HLa.out.below hb4 (Nat.le_refl _) hb4.size)
        have HLb := Lib.hid (HLb.out.below hb4 (Nat.le_refl _) hb4.size)
        have HB := Lib.hid (HB.out.trans (hb4.mono HB.out.size))
        have BX0 := Lib.hid (box_at BX0.out hb4)
        have BX1 := Lib.hid (box_at BX1.out hb4)
        clear hb4
        go_wp2_with fail
        have HKp := Lib.hid (fun (W : World) (h : Below w4.heap.size w4 W) => And.intro (box_read (box_at BX0.out h)).1 (And.intro (box_read (box_at BX0.out h)).2 (And.intro (box_read (box_at BX1.out h)).1 (And.intro (box_read (box_at BX1.out h)).2 h))))
        have HA1 : Hid (∀ (W : World), Below w4.heap.size w4 W → Calls Try.prog 40 #[.slice A a.length c, .agg #[.string (bs sl), .string (bs sh)]] W fun r w' => ∃ A5 c5, r = .returned (.slice A5 X1.length c5) ∧ ChI w' w'.heap.size A5 c5 X1 ∧ Below w4.heap.size w4 w') := Lib.hid fun W h => (H1.out W (HLa.out.below h (Nat.le_refl _) h.size)).mono fun _ _ ⟨A5, c5, e, h5, q⟩ => ⟨A5, c5, e, h5, h.trans (q.mono h.size)⟩
        have HA2 : Hid (∀ (A5 : Option Addr) (c5 : Nat) (W : World), ChI W W.heap.size A5 c5 X1 → Below w4.heap.size w4 W → Calls Try.prog 40 #[.slice A5 X1.length c5, .agg #[.string (bs tl), .string (bs th)]] W fun r w' => ∃ A6 c6, r = .returned (.slice A6 X.length c6) ∧ ChI w' w'.heap.size A6 c6 X ∧ Below w4.heap.size w4 w') := Lib.hid fun A5 c5 W g h => (H3.out A5 c5 W g).mono fun _ _ ⟨A6, c6, e, h6, q⟩ => ⟨A6, c6, e, h6, h.trans (q.mono h.size)⟩
        obtain ⟨x0, x1, x2, x3, _⟩ := HKp.out w4 (Below.refl _ _)
        go_region_held3 (fun W => W.cell? ⟨w.heap.size, 0, none⟩ = some (.string (bs sl)) ∧ W.cell? ⟨w.heap.size, 1, none⟩ = some (.string (bs sh)) ∧ W.cell? ⟨w.heap.size + 1, 0, none⟩ = some (.string (bs tl)) ∧ W.cell? ⟨w.heap.size + 1, 1, none⟩ = some (.string (bs th)) ∧ Below w4.heap.size w4 W)
          (first | with_reducible exact HKp.out _ hb6 | with_reducible exact HKp.out _ (Below.refl _ _).drew)
          ((first
            | (go_at_call 40; with_reducible refine (HA2.out _ _ _ h5 hb6).mono ?_; rintro r w' ⟨A6, c6, rfl, h6, hb6⟩)
            | (go_at_call 40; with_reducible refine (HA1.out _ (by go_split_ands; assumption)).mono ?_; rintro r w' ⟨A5, c5, rfl, h5, hb6⟩)))
        clear x0 x1 x2 x3 HA1 HA2 HKp h5
        obtain ⟨w5, hwn⟩ : ∃ y, y = w' := ⟨_, rfl⟩
        subst hwn
        obtain ⟨Ax, hAn⟩ : ∃ y, y = A6 := ⟨_, rfl⟩
        subst hAn
        obtain ⟨cx, hcn⟩ : ∃ y, y = c6 := ⟨_, rfl⟩
        subst hcn
        have Hx := Lib.hid h6
        clear h6
        have HLa := Lib.hid (HLa.out.below hb6 (Nat.le_refl _) hb6.size)
        have HLb := Lib.hid (HLb.out.below hb6 (Nat.le_refl _) hb6.size)
        have HB := Lib.hid (HB.out.trans (hb6.mono HB.out.size))
        have BX0 := Lib.hid (box_at BX0.out hb6)
        have BX1 := Lib.hid (box_at BX1.out hb6)
        clear hb6
        go_wp2_with fail
        have HKp := Lib.hid (fun (W : World) (h : Below w5.heap.size w5 W) => And.intro (box_read (box_at BX0.out h)).1 (And.intro (box_read (box_at BX0.out h)).2 (And.intro (box_read (box_at BX1.out h)).1 (And.intro (box_read (box_at BX1.out h)).2 h))))
        have HA1 : Hid (∀ (W : World), Below w5.heap.size w5 W → Calls Try.prog 40 #[.slice A a.length c, .agg #[.string (bs tl), .string (bs th)]] W fun r w' => ∃ A5 c5, r = .returned (.slice A5 X2.length c5) ∧ ChI w' w'.heap.size A5 c5 X2 ∧ Below w5.heap.size w5 w') := Lib.hid fun W h => (H2.out W (HLa.out.below h (Nat.le_refl _) h.size)).mono fun _ _ ⟨A5, c5, e, h5, q⟩ => ⟨A5, c5, e, h5, h.trans (q.mono h.size)⟩
        have HA2 : Hid (∀ (A5 : Option Addr) (c5 : Nat) (W : World), ChI W W.heap.size A5 c5 X2 → Below w5.heap.size w5 W → Calls Try.prog 40 #[.slice A5 X2.length c5, .agg #[.string (bs sl), .string (bs sh)]] W fun r w' => ∃ A6 c6, r = .returned (.slice A6 X.length c6) ∧ ChI w' w'.heap.size A6 c6 X ∧ Below w5.heap.size w5 w') := Lib.hid fun A5 c5 W g h => (H4.out A5 c5 W g).mono fun _ _ ⟨A6, c6, e, h6, q⟩ => ⟨A6, c6, e, h6, h.trans (q.mono h.size)⟩
        obtain ⟨x0, x1, x2, x3, _⟩ := HKp.out w5 (Below.refl _ _)
        go_region_held3 (fun W => W.cell? ⟨w.heap.size, 0, none⟩ = some (.string (bs sl)) ∧ W.cell? ⟨w.heap.size, 1, none⟩ = some (.string (bs sh)) ∧ W.cell? ⟨w.heap.size + 1, 0, none⟩ = some (.string (bs tl)) ∧ W.cell? ⟨w.heap.size + 1, 1, none⟩ = some (.string (bs th)) ∧ Below w5.heap.size w5 W)
          (first | with_reducible exact HKp.out _ hb6 | with_reducible exact HKp.out _ (Below.refl _ _).drew)
          ((first
            | (go_at_call 40; with_reducible refine (HA2.out _ _ _ h5 hb6).mono ?_; rintro r w' ⟨A6, c6, rfl, h6, hb6⟩)
            | (go_at_call 40; with_reducible refine (HA1.out _ (by go_split_ands; assumption)).mono ?_; rintro r w' ⟨A5, c5, rfl, h5, hb6⟩)))
        clear x0 x1 x2 x3 HA1 HA2 HKp h5
        obtain ⟨w6, hwn⟩ : ∃ y, y = w' := ⟨_, rfl⟩
        subst hwn
        obtain ⟨Ay, hAn⟩ : ∃ y, y = A6 := ⟨_, rfl⟩
        subst hAn
        obtain ⟨cy, hcn⟩ : ∃ y, y = c6 := ⟨_, rfl⟩
        subst hcn
        have Hy := Lib.hid h6
        clear h6
        have HLa := Lib.hid (HLa.out.below hb6 (Nat.le_refl _) hb6.size)
        have HLb := Lib.hid (HLb.out.below hb6 (Nat.le_refl _) hb6.size)
        have HB := Lib.hid (HB.out.trans (hb6.mono HB.out.size))
        have BX0 := Lib.hid (box_at BX0.out hb6)
        have BX1 := Lib.hid (box_at BX1.out hb6)
        have Hx := Lib.hid (Hx.out.below hb6 (Nat.le_refl _) hb6.size)
        clear hb6
        have HT := Lib.hid (sameYes Hx.out Hy.out)
        go_wp2_with fail
        refine HT.out.mono ?_
        rintro r w7 ⟨rfl, hb7⟩
        clear HT
        have HLa := Lib.hid (HLa.out.below hb7 (Nat.le_refl _) hb7.size)
        have HLb := Lib.hid (HLb.out.below hb7 (Nat.le_refl _) hb7.size)
        have HB := Lib.hid (HB.out.trans (hb7.mono HB.out.size))
        have BX0 := Lib.hid (box_at BX0.out hb7)
        have BX1 := Lib.hid (box_at BX1.out hb7)
        have Hx := Lib.hid (Hx.out.below hb7 (Nat.le_refl _) hb7.size)
        have Hy := Lib.hid (Hy.out.below hb7 (Nat.le_refl _) hb7.size)
        clear hb7
        obtain ⟨BX0r0, BX0r1⟩ := box_read BX0.out
        have HT := Lib.hid (H5.out Ax cx w7 Hx.out)
        go_wp2_with fail
        refine HT.out.mono ?_
        rintro r w8 ⟨A5x, c5x, rfl, h5x, hb8⟩
        clear HT
        clear BX0r0 BX0r1
        have HLa := Lib.hid (HLa.out.below hb8 (Nat.le_refl _) hb8.size)
        have HLb := Lib.hid (HLb.out.below hb8 (Nat.le_refl _) hb8.size)
        have HB := Lib.hid (HB.out.trans (hb8.mono HB.out.size))
        have BX0 := Lib.hid (box_at BX0.out hb8)
        have BX1 := Lib.hid (box_at BX1.out hb8)
        have Hx := Lib.hid (Hx.out.below hb8 (Nat.le_refl _) hb8.size)
        have Hy := Lib.hid (Hy.out.below hb8 (Nat.le_refl _) hb8.size)
        have H5x := Lib.hid h5x
        clear h5x
        clear hb8
        have HT := Lib.hid (sameYes H5x.out Hx.out)
        go_wp2_with fail
        refine HT.out.mono ?_
        rintro r w9 ⟨rfl, hb9⟩
        clear HT
        have HLa := Lib.hid (HLa.out.below hb9 (Nat.le_refl _) hb9.size)
        have HLb := Lib.hid (HLb.out.below hb9 (Nat.le_refl _) hb9.size)
        have HB := Lib.hid (HB.out.trans (hb9.mono HB.out.size))
        have BX0 := Lib.hid (box_at BX0.out hb9)
        have BX1 := Lib.hid (box_at BX1.out hb9)
        have Hx := Lib.hid (Hx.out.below hb9 (Nat.le_refl _) hb9.size)
        have Hy := Lib.hid (Hy.out.below hb9 (Nat.le_refl _) hb9.size)
        have H5x := Lib.hid (H5x.out.below hb9 (Nat.le_refl _) hb9.size)
        clear hb9
        have HT := Lib.hid (H6.out w9 HLa.out HLb.out)
        go_wp2_with fail
        refine HT.out.mono ?_
        rintro r w10 ⟨A6x, c6x, rfl, h6x, hb10⟩
        clear HT
        have HLa := Lib.hid (HLa.out.below hb10 (Nat.le_refl _) hb10.size)
        have HLb := Lib.hid (HLb.out.below hb10 (Nat.le_refl _) hb10.size)
        have HB := Lib.hid (HB.out.trans (hb10.mono HB.out.size))
        have BX0 := Lib.hid (box_at BX0.out hb10)
        have BX1 := Lib.hid (box_at BX1.out hb10)
        have Hx := Lib.hid (Hx.out.below hb10 (Nat.le_refl _) hb10.size)
        have Hy := Lib.hid (Hy.out.below hb10 (Nat.le_refl _) hb10.size)
        have H5x := Lib.hid (H5x.out.below hb10 (Nat.le_refl _) hb10.size)
        have H6x := Lib.hid h6x
        clear h6x
        clear hb10
        have HT := Lib.hid (H7.out w10 HLa.out HLb.out)
        go_wp2_with fail
        refine HT.out.mono ?_
        rintro r w11 ⟨A7x, c7x, rfl, h7x, hb11⟩
        clear HT
        have HLa := Lib.hid (HLa.out.below hb11 (Nat.le_refl _) hb11.size)
        have HLb := Lib.hid (HLb.out.below hb11 (Nat.le_refl _) hb11.size)
        have HB := Lib.hid (HB.out.trans (hb11.mono HB.out.size))
        have BX0 := Lib.hid (box_at BX0.out hb11)
        have BX1 := Lib.hid (box_at BX1.out hb11)
        have Hx := Lib.hid (Hx.out.below hb11 (Nat.le_refl _) hb11.size)
        have Hy := Lib.hid (Hy.out.below hb11 (Nat.le_refl _) hb11.size)
        have H5x := Lib.hid (H5x.out.below hb11 (Nat.le_refl _) hb11.size)
        have H6x := Lib.hid (H6x.out.below hb11 (Nat.le_refl _) hb11.size)
        have H7x := Lib.hid h7x
        clear h7x
        clear hb11
        have HT := Lib.hid (sameYes H6x.out H7x.out)
        go_wp2_with fail
        refine HT.out.mono ?_
        rintro r w12 ⟨rfl, hb12⟩
        clear HT
        have HLa := Lib.hid (HLa.out.below hb12 (Nat.le_refl _) hb12.size)
        have HLb := Lib.hid (HLb.out.below hb12 (Nat.le_refl _) hb12.size)
        have HB := Lib.hid (HB.out.trans (hb12.mono HB.out.size))
        have BX0 := Lib.hid (box_at BX0.out hb12)
        have BX1 := Lib.hid (box_at BX1.out hb12)
        have Hx := Lib.hid (Hx.out.below hb12 (Nat.le_refl _) hb12.size)
        have Hy := Lib.hid (Hy.out.below hb12 (Nat.le_refl _) hb12.size)
        have H5x := Lib.hid (H5x.out.below hb12 (Nat.le_refl _) hb12.size)
        have H6x := Lib.hid (H6x.out.below hb12 (Nat.le_refl _) hb12.size)
        have H7x := Lib.hid (H7x.out.below hb12 (Nat.le_refl _) hb12.size)
        clear hb12
        have HT := Lib.hid (H8.out Ax cx w12 Hx.out)
        go_wp2_with fail
        refine HT.out.mono ?_
        rintro r w13 ⟨A8x, c8x, rfl, h8x, hb13⟩
        clear HT
        have HLa := Lib.hid (HLa.out.below hb13 (Nat.le_refl _) hb13.size)
        have HLb := Lib.hid (HLb.out.below hb13 (Nat.le_refl _) hb13.size)
        have HB := Lib.hid (HB.out.trans (hb13.mono HB.out.size))
        have BX0 := Lib.hid (box_at BX0.out hb13)
        have BX1 := Lib.hid (box_at BX1.out hb13)
        have Hx := Lib.hid (Hx.out.below hb13 (Nat.le_refl _) hb13.size)
        have Hy := Lib.hid (Hy.out.below hb13 (Nat.le_refl _) hb13.size)
        have H5x := Lib.hid (H5x.out.below hb13 (Nat.le_refl _) hb13.size)
        have H6x := Lib.hid (H6x.out.below hb13 (Nat.le_refl _) hb13.size)
        have H7x := Lib.hid (H7x.out.below hb13 (Nat.le_refl _) hb13.size)
        have H8x := Lib.hid h8x
        clear h8x
        clear hb13
        have HT := Lib.hid (sameYes H8x.out Hx.out)
        go_wp2_with fail
        refine HT.out.mono ?_
        rintro r w14 ⟨rfl, hb14⟩
        clear HT
        have HLa := Lib.hid (HLa.out.below hb14 (Nat.le_refl _) hb14.size)
        have HLb := Lib.hid (HLb.out.below hb14 (Nat.le_refl _) hb14.size)
        have HB := Lib.hid (HB.out.trans (hb14.mono HB.out.size))
        have BX0 := Lib.hid (box_at BX0.out hb14)
        have BX1 := Lib.hid (box_at BX1.out hb14)
        have Hx := Lib.hid (Hx.out.below hb14 (Nat.le_refl _) hb14.size)
        have Hy := Lib.hid (Hy.out.below hb14 (Nat.le_refl _) hb14.size)
        have H5x := Lib.hid (H5x.out.below hb14 (Nat.le_refl _) hb14.size)
        have H6x := Lib.hid (H6x.out.below hb14 (Nat.le_refl _) hb14.size)
        have H7x := Lib.hid (H7x.out.below hb14 (Nat.le_refl _) hb14.size)
        have H8x := Lib.hid (H8x.out.below hb14 (Nat.le_refl _) hb14.size)
        clear hb14
        go_wp2_with fail
        go_ret
        exact ⟨rfl, HB.out⟩
end Go.Proofs.Ytooegjdppeiccaa.spanOrder
