/-
  The chapter's examples on stretches.
-/
import Derived.Test.YtooegjdppeiccaaICon
namespace Go.Proofs.Ytooegjdppeiccaa
open Go.RowKit

theorem live_add : joinSp ([⟨[98], [100]⟩] ++ [⟨[99], [102]⟩]) = [⟨[98], [102]⟩] := by decide
theorem live_join : joinSp [⟨[97], [97] ++ [0]⟩, ⟨[99], [99] ++ [0]⟩, ⟨[101], [101] ++ [0]⟩] = [⟨[97], [97, 0]⟩, ⟨[99], [99, 0]⟩, ⟨[101], [101, 0]⟩] := by decide
theorem live_fit : fitI 2 (joinSp [⟨[97], [97] ++ [0]⟩, ⟨[99], [99] ++ [0]⟩, ⟨[101], [101] ++ [0]⟩]) = [⟨[97], [99, 0]⟩, ⟨[101], [101, 0]⟩] := by
  rw [live_join, fitI_step (by decide), fitI_few (by decide)]
set_option maxRecDepth 100000 in
set_option maxHeartbeats 4000000 in
theorem liveI_any (K : SpanC) (w : World) : Calls Try.prog 29 #[] w fun r w' => r = .returned (.bool true) ∧ Below w.heap.size w w' := by
  have hx0 := heap_alloc_new w (.cells #[.string (bs [98]), .string (bs [100])] 60)
  have hb0 := (Below.refl w.heap.size w).alloc (Nat.le_refl _) (.cells #[.string (bs [98]), .string (bs [100])] 60)
  have HA1 := Lib.hid (K.add [⟨[98], [100]⟩] ⟨[99], [102]⟩ (some ⟨w.heap.size, 0, none⟩) 1 _ (by simp [okI]) (⟨Nat.le_refl _, by simp [maxLen], (fun e => by cases e), (RowG.one (cs := spCells) (x := ⟨[98], [100]⟩) hx0).wide (Nat.zero_le _) (lt_of_heap hx0)⟩))
  rw [live_add] at HA1
  have HB0 := Lib.hid hb0
  have HP1 := Lib.hid (fun w => K.point [97] w (by simp))
  have HP2 := Lib.hid (fun w => K.point [99] w (by simp))
  have HP3 := Lib.hid (fun w => K.point [101] w (by simp))
  have HF := Lib.hid (fun (W : World) => K.fit [⟨[97], [97] ++ [0]⟩, ⟨[99], [99] ++ [0]⟩, ⟨[101], [101] ++ [0]⟩] (some ⟨W.heap.size, 0, none⟩) 3 2 (W.alloc (.cells #[.string (bs [97]), .string (bs ([97] ++ [0])), .string (bs [99]), .string (bs ([99] ++ [0])), .string (bs [101]), .string (bs ([101] ++ [0]))] 60)) (by simp [okI]) (by omega) (by omega) ⟨Nat.le_refl _, by simp [maxLen], (fun e => by cases e), (RowG.block (heap_alloc_new W _) (fun j u hu => by simpa [flatG, spCells] using hu)).wide (Nat.zero_le _) (by simp)⟩)
  rw [live_fit] at HF
  unfold spVal at HA1 HP1 HP2 HP3
  simp only at HA1 HP1 HP2 HP3
  clear hx0 hb0 K
  go_enter Try.func29, Try.ntmps29
  go_wp2_with fail
  refine HA1.out.mono ?_
  rintro r w1 ⟨A1, c1, rfl, h1, hb1⟩
  have HC1 := Lib.hid h1
  have HB1 := Lib.hid (HB0.out.trans (hb1.mono HB0.out.size))
  clear h1 hb1 HA1 HB0
  go_wp2_with fail
  refine (HP1.out w1).mono ?_
  rintro r w2 ⟨rfl, hb2⟩
  have HB2 := Lib.hid hb2
  clear hb2
  go_wp2_with fail
  refine (HP2.out w2).mono ?_
  rintro r w3 ⟨rfl, hb3⟩
  have HB3 := Lib.hid (HB2.out.trans (hb3.mono HB2.out.size))
  clear hb3
  go_wp2_with fail
  refine (HP3.out w3).mono ?_
  rintro r w4 ⟨rfl, hb4⟩
  have HB4 := Lib.hid (HB3.out.trans (hb4.mono HB3.out.size))
  clear hb4
  go_wp2_with fail
  refine (HF.out w4).mono ?_
  rintro r w5 ⟨A5, c5, rfl, h5, hb5⟩
  have hb5' : Below w1.heap.size w1 w5 := HB4.out.trans (((Below.refl _ w4).alloc (Nat.le_refl _) _).trans (hb5.mono (by simp)) |>.mono HB4.out.size)
  have HB5 := Lib.hid hb5'
  have HC5 := Lib.hid h5
  clear h5 hb5 hb5'
  have hx6 := heap_alloc_new w5 (.cells #[.string (bs [98]), .string (bs [102])] 60)
  have hb6 := (Below.refl w5.heap.size w5).alloc (Nat.le_refl _) (.cells #[.string (bs [98]), .string (bs [102])] 60)
  have HS := Lib.hid (refSameI_any [⟨[98], [102]⟩] [⟨[98], [102]⟩] A1 (some ⟨w5.heap.size, 0, none⟩) c1 1 _ (by simp) (by simp) ((HC1.out.below (HB5.out.trans (hb6.mono HB5.out.size)) (Nat.le_refl _) (Nat.le_trans HB5.out.size hb6.size)).2.2.2) ((RowG.one (cs := spCells) (x := ⟨[98], [102]⟩) hx6).wide (Nat.zero_le _) (lt_of_heap hx6)))
  have HB6 := Lib.hid hb6
  have HR5 := Lib.hid HC5.out.2.2.2
  clear hx6 hb6 HP1 HP2 HP3 HF
  go_wp2_with fail
  refine HS.out.mono ?_
  rintro r w7 ⟨rfl, hb7⟩
  have hb57 := HB6.out.trans (hb7.mono HB6.out.size)
  obtain ⟨b, o, rfl, _, _, hc⟩ := (HC5.out.2.2.2.below hb57 (Nat.le_refl _)).at_ spF (j := 0) (by simp)
  have c0 := hc 0 _ rfl
  have c1 := hc 1 _ rfl
  simp only [Nat.add_zero, Nat.zero_mul, List.getElem_cons_zero] at c0 c1
  have HB7 := Lib.hid (HB1.out.trans ((HB5.out.trans (hb57.mono HB5.out.size)).mono HB1.out.size))
  have q1 : (bs [97]).toList = [97] := bs_list _
  have q2 : (bs [99, 0]).toList = [99, 0] := bs_list _
  have q3 : sameI [⟨[98], [102]⟩] [⟨[98], [102]⟩] = true := by decide
  clear hc hb7 hb57 HS
  rw [q3]
  clear q3
  go_wp2_with fail
  go_ret
  exact ⟨rfl, HB7.out⟩
end Go.Proofs.Ytooegjdppeiccaa
