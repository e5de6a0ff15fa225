import Derived.Test.YtooegjdppeiccaaZC19
import Derived.Deep.LoopGhost
import Derived.Deep.DeepCutAuto
import Derived.Deep.RegionHeld3
import Derived.Test.YtooegjdppeiccaaZC11
/-
  Stores, the document's own answers: Count, fits.
-/
namespace Go.Proofs.Ytooegjdppeiccaa
open Go.RowKit

theorem vers_app (a b : KsS) : versS (a ++ b) = versS a + versS b := by simp [versS]
theorem byts_app (a b : KsS) : bytsS (a ++ b) = bytsS a + bytsS b := by simp [bytsS]
theorem vers_take (K : KsS) {j : Nat} (hj : j < K.length) : versS (K.take (j + 1)) = versS (K.take j) + (K[j]'hj).2.length := by
  rw [List.take_succ_eq_append_getElem hj, vers_app]
  rfl
theorem byts_take (K : KsS) {j : Nat} (hj : j < K.length) : bytsS (K.take (j + 1)) = bytsS (K.take j) + ((K[j]'hj).1.length + sizeH (K[j]'hj).2) := by
  rw [List.take_succ_eq_append_getElem hj, byts_app]
  rfl
theorem vers_le (K : KsS) (j : Nat) : versS (K.take j) ≤ versS K := by
  have h : versS K = versS (K.take j) + versS (K.drop j) := by rw [← vers_app, List.take_append_drop]
  omega
theorem byts_le (K : KsS) (j : Nat) : bytsS (K.take j) ≤ bytsS K := by
  have h : bytsS K = bytsS (K.take j) + bytsS (K.drop j) := by rw [← byts_app, List.take_append_drop]
  omega
def sizesVal (K : KsS) : Value := .agg #[.int .i64 (K.length : Nat), .int .i64 (versS K : Nat), .int .i64 (bytsS K : Nat)]
set_option maxRecDepth 100000 in
set_option maxHeartbeats 8000000 in
theorem refCount_any (p : Nat) (S : Nat → Prop) (L : LimS) (m r v : Int) (time : Nat) (A : Option Addr) (c : Nat) (os : List MOne) (w : World) (h : RefM w p S L m r v time A c os) (hV : versS (os.map MOne.k) ≤ 1099511627776) (hB : bytsS (os.map MOne.k) ≤ 1099511627776) :
    Calls Try.prog 20 #[.pointer (some ⟨p, 0, none⟩)] w fun e w' => e = .returned (sizesVal (os.map MOne.k)) ∧ Below w.heap.size w w' := by
  have hol : os.length ≤ 9223372036854775807 := by have := h.len; have := h.cap; unfold maxLen at *; omega
  obtain ⟨w0, hw0⟩ : ∃ y, w.alloc (.cells #[.int .i64 0, .int .i64 0, .int .i64 0] 49) = y := ⟨_, rfl⟩
  obtain ⟨w1, hw1⟩ : ∃ y, w0.alloc (.cells #[.int .i64 os.length, .int .i64 0, .int .i64 0] 49) = y := ⟨_, rfl⟩
  have s0 : w0.heap.size = w.heap.size + 1 := by rw [← hw0]; simp
  have b0 : Below w.heap.size w w0 := by rw [← hw0]; exact (Below.refl _ w).alloc (Nat.le_refl _) _
  have b1 : Below w.heap.size w w1 := b0.trans (by rw [← hw1]; exact (Below.refl _ w0).alloc (by omega) _)
  have hz : w1.heap[w.heap.size]? = some (.cells #[.int .i64 0, .int .i64 0, .int .i64 0] 49 (0, 0)) := by rw [← hw1]; exact heap_allocs (by rw [← hw0]; exact heap_alloc_new w _) _
  have hu : w1.heap[w0.heap.size]? = some (.cells #[.int .i64 os.length, .int .i64 0, .int .i64 0] 49 (0, 0)) := by rw [← hw1]; exact heap_alloc_new w0 _
  have hx0 := (b0.block p h.lt).trans h.box
  have c8 := cell_of_row w0 p 8 _ _ _ hx0
  have d8 := cell_of_row w1 p 8 _ _ _ ((b1.block p h.lt).trans h.box)
  have HR := Lib.hid (h.row.rowG oneF)
  have HE := Lib.hid h.each
  have HB1 := Lib.hid b1
  have HZ := Lib.hid hz
  have HU := Lib.hid hu
  have HW0 := Lib.hid hw0
  have HW1 := Lib.hid hw1
  have HV := Lib.hid hV
  have HBy := Lib.hid hB
  have HP := Lib.hid h.lt
  have HS0 := Lib.hid s0
  clear h hV hB s0 b0 b1 hz hu hx0 hw0 hw1
  go_enter Try.func20, Try.ntmps20
  go_upto_region 1 with fail
  rw [HW0.out]
  clear HW0
  go_upto_region 2 with fail
  rw [HW1.out]
  clear HW1 c8
  go_wp2_with fail
  go_loopg [17] os.length (fun q i wr => ∃ j : Nat, j + q = os.length ∧ i = .int .i64 j ∧ wr.heap[w.heap.size]? = some (.cells #[.int .i64 0, .int .i64 0, .int .i64 0] 49 (0, 0)) ∧
    wr.heap[w0.heap.size]? = some (.cells #[.int .i64 os.length, .int .i64 (versS ((os.map MOne.k).take j) : Nat), .int .i64 (bytsS ((os.map MOne.k).take j) : Nat)] 49 (0, 0)) ∧ Below w.heap.size w wr)
  case atStart => exact ⟨0, by omega, rfl, HZ.out, HU.out, HB1.out⟩
  case round =>
    obtain ⟨j, hk, rfl, hz, hu, hb⟩ := hrel
    have HK := Lib.hid hk
    have HZ2 := Lib.hid hz
    have HU2 := Lib.hid hu
    have HB := Lib.hid hb
    clear hk hz hu hb d8
    by_cases hj : j < os.length
    · have hlt : decide ((j : Int) < (os.length : Int)) = true := by simpa using hj
      have hlt2 : decide (j < os.length) = true := by simpa using hj
      obtain ⟨b, o, rfl, _, hbh, hcell⟩ := (HR.out.below HB.out (Nat.le_refl _)).at_ oneF hj
      have d0 := hcell 0 _ rfl
      have d1 := hcell 1 _ rfl
      simp only [Nat.add_zero] at d0
      have hjk : j < (os.map MOne.k).length := by simpa using hj
      have HVT := Lib.hid (vers_take (os.map MOne.k) hjk)
      have HBT := Lib.hid (byts_take (os.map MOne.k) hjk)
      have hvle := vers_le (os.map MOne.k) (j + 1)
      have hble := byts_le (os.map MOne.k) (j + 1)
      rw [HVT.out] at hvle
      rw [HBT.out] at hble
      rw [List.getElem_map] at hvle hble HVT HBT
      have HOne := Lib.hid (HE.out _ (List.getElem_mem hj))
      clear hcell hbh
      generalize os[j] = x at *
      obtain ⟨xk, xA, xc, xm⟩ := x
      simp only [MOne.k, List.length_map] at d0 d1 hvle hble HVT HBT HOne
      generalize hV0 : versS ((os.map MOne.k).take j) = V0 at *
      generalize hB0 : bytsS ((os.map MOne.k).take j) = B0 at *
      clear hV0 hB0
      have hv2 : V0 + xm.length ≤ 1099511627776 := Nat.le_trans hvle HV.out
      have hb2 : B0 + (xk.length + sizeH (xm.map MV.v)) ≤ 1099511627776 := Nat.le_trans hble HBy.out
      have hsz := HB.out.size
      have lt1 := lt_of_heap HU2.out
      have hu3 := heap_allocs HU2.out (.cells #[.string (bs xk), .slice xA xm.length xc] 98)
      have f1 := frozen_of hu3 1
      have k1 := cell_of_row _ _ 1 _ _ _ hu3
      obtain ⟨w2, hw2⟩ : ∃ y, (wr.alloc (.cells #[.string (bs xk), .slice xA xm.length xc] 98)).setCell ⟨w0.heap.size, 1, none⟩ (.int .i64 ((V0 + xm.length : Nat) : Int)) = y := ⟨_, rfl⟩
      have hu4 : w2.heap[w0.heap.size]? = some (.cells #[.int .i64 os.length, .int .i64 ((V0 + xm.length : Nat) : Int), .int .i64 (B0 : Nat)] 49 (0, 0)) := by rw [← hw2]; simp [World.setCell, Array.getElem?_modify, hu3]
      have hx4 : w2.heap[wr.heap.size]? = some (.cells #[.string (bs xk), .slice xA xm.length xc] 98 (0, 0)) := by rw [← hw2, box_farJ (by have := HS0.out; omega)]; exact heap_alloc_new wr _
      have hz4 : w2.heap[w.heap.size]? = some (.cells #[.int .i64 0, .int .i64 0, .int .i64 0] 49 (0, 0)) := by rw [← hw2, box_farJ (by have := HS0.out; omega)]; exact heap_allocs HZ2.out _
      have hb4 : Below w.heap.size w w2 := by rw [← hw2]; exact (HB.out.alloc hsz _).setCell (by show w.heap.size ≤ w0.heap.size; have := HS0.out; omega) _
      have HW2 := Lib.hid hw2
      have HU4 := Lib.hid hu4
      have HX4 := Lib.hid hx4
      have HZ4 := Lib.hid hz4
      have HB4 := Lib.hid hb4
      have hri : RowH w w.heap.size xA (xm.map MV.v) := HOne.out.rowM.row
      have hxl : xm.length ≤ 9223372036854775807 := by have := HOne.out.1; have := HOne.out.2.1; unfold maxLen at *; omega
      have HSize : Hid (∀ W, Below w2.heap.size w2 W → Calls Try.prog 71 #[.slice xA xm.length xc] W fun e w' => e = .returned (.int .i64 (sizeH (xm.map MV.v) : Nat)) ∧ Below w2.heap.size w2 w') := Lib.hid fun W hb => by
        have hbw := hb4.trans (hb.mono hb4.size)
        have h := refSize_any (xm.map MV.v) xA xc w.heap.size W (by rw [List.length_map]; exact hxl) (by omega) (hri.below hbw (Nat.le_refl _) (Nat.le_refl _)) hbw.size
        rw [List.length_map] at h
        exact h.mono fun _ _ q => ⟨q.1, hb.trans (q.2.mono hb.size)⟩
      have KEEP : Hid (∀ W, Below w2.heap.size w2 W → W.cell? ⟨wr.heap.size, 0, none⟩ = some (.string (bs xk)) ∧ W.cell? ⟨wr.heap.size, 1, none⟩ = some (.slice xA xm.length xc) ∧ W.cell? ⟨w0.heap.size, 2, none⟩ = some (.int .i64 (B0 : Nat))) := Lib.hid fun W hb => by
        have h1 := heap_below HX4.out hb (lt_of_heap HX4.out)
        have h2 := heap_below HU4.out hb (lt_of_heap HU4.out)
        exact ⟨cell_of_row W _ 0 _ _ _ h1, cell_of_row W _ 1 _ _ _ h1, cell_of_row W _ 2 _ _ _ h2⟩
      have HWW := Lib.hid (show w.heap.size ≤ w0.heap.size by have := HS0.out; omega)
      have e1 := bs_size xk
      clear hu3 hu4 hx4 hz4 hb4 hw2 hvle hble hri hsz lt1
      generalize hSz : sizeH (xm.map MV.v) = sz at *
      clear hSz
      go_upto_region 6 with fail
      simp only [← Int.natCast_add]
      rw [HW2.out]
      clear HW2
      refine wp_region_class_tail (C := fun W => Below w2.heap.size w2 W) 10 (by kernel_rfl) (by kernel_rfl) (Below.refl _ _).drew ?_
      simp only [List.take_succ_cons, List.take_zero, List.drop_succ_cons, List.drop_zero]
      repeat (
        refine no_implicit_lambda% (wpQuiet_step ?_)
        intro K hK
        go_simp
        first
        | (refine no_implicit_lambda% (hK _ ?_); clear hK K)
        | (apply Exists.intro
           refine ⟨fun _ => ?_, hK _ ?_⟩
           (first
             | (intro _; with_reducible rfl)
             | (intro hw; with_reducible exact HSize.out _ hw)
             | (intro hw; obtain ⟨g0, g1, g2⟩ := KEEP.out _ hw; go_simp; with_reducible exact ⟨rfl, rfl⟩)
             | (intro hw; obtain ⟨g0, g1, g2⟩ := KEEP.out _ hw; go_simp; with_reducible rfl))
           clear hK K))
      refine wpQuiet_nil ?_
      intro w8 hb8
      have HB8 := Lib.hid hb8
      have hu8 := heap_below HU4.out hb8 (lt_of_heap HU4.out)
      have hz8 := heap_below HZ4.out hb8 (lt_of_heap HZ4.out)
      have f8 := frozen_of hu8 2
      have k8 := cell_of_row w8 _ 2 _ _ _ hu8
      have HU8 := Lib.hid hu8
      have HZ8 := Lib.hid hz8
      clear hu8 hz8 hb8
      go_wp2_with fail
      go_roundg (gk - 1)
      case measure => have := HK.out; omega
      case rel =>
        have hlen := HB8.out.size
        have hl4 := lt_of_heap HU4.out
        refine ⟨j + 1, by have := HK.out; omega, by go_num, ?_, ?_, ?_⟩
        · rw [box_farJ (by have := HS0.out; omega)]
          exact HZ8.out
        · rw [HVT.out, HBT.out]
          simp only [Int.natCast_add]
          simp [World.setCell, Array.getElem?_modify, HU8.out]
        · exact (HB4.out.trans (HB8.out.mono HB4.out.size)).setCell (by show w.heap.size ≤ w0.heap.size; exact HWW.out) _
    · have hj' : j = os.length := by have := HK.out; omega
      subst hj'
      have hlt : decide ((os.length : Int) < (os.length : Int)) = false := by simp
      have hlt2 : decide (os.length < os.length) = false := by simp
      have HTk := Lib.hid (show (os.map MOne.k).take os.length = os.map MOne.k from List.take_of_length_le (by simp))
      rw [HTk.out] at HU2
      have hu := HU2.out
      have hz := HZ2.out
      have c0 := cell_of_row wr _ 0 _ _ _ hu
      have c1 := cell_of_row wr _ 1 _ _ _ hu
      have c2 := cell_of_row wr _ 2 _ _ _ hu
      have z0 := cell_of_row wr _ 0 _ _ _ hz
      have z1 := cell_of_row wr _ 1 _ _ _ hz
      have z2 := cell_of_row wr _ 2 _ _ _ hz
      have f0 := frozen_of hz 0
      have f1 := frozen_of hz 1
      have f2 := frozen_of hz 2
      clear hu hz
      have hb := HB.out
      have hz1 := heap_setCell_same wr w.heap.size 0 _ _ (.int .i64 os.length) HZ2.out
      have hz2 := heap_setCell_same _ w.heap.size 1 _ _ (.int .i64 (versS (os.map MOne.k) : Nat)) hz1
      have hz3 := heap_setCell_same _ w.heap.size 2 _ _ (.int .i64 (bytsS (os.map MOne.k) : Nat)) hz2
      have HZ3 := Lib.hid hz3
      clear hz1 hz2 hz3
      go_wp2_with fail
      refine bodyPost_ret (results_cell_row (p := 2) rfl _ _ w.heap.size _ _ _ _ (by rfl) HZ3.out Try.underlying49 rfl (by kernel_rfl)) (by rfl) ?_
      have hl : (os.map MOne.k).length = os.length := by simp
      exact ⟨by unfold sizesVal; rw [hl]; rfl, ((hb.setCell (Nat.le_refl _) _).setCell (Nat.le_refl _) _).setCell (Nat.le_refl _) _⟩
end Go.Proofs.Ytooegjdppeiccaa

/-
  Stores, the document's own answers: fits.
-/
namespace Go.Proofs.Ytooegjdppeiccaa
open Go.RowKit

set_option maxRecDepth 100000 in
set_option maxHeartbeats 8000000 in
theorem refFits_any (p : Nat) (S : Nat → Prop) (L : LimS) (m r v : Int) (time : Nat) (A : Option Addr) (c : Nat) (os : List MOne) (w : World) (h : RefM w p S L m r v time A c os) (hV : versS (os.map MOne.k) ≤ 1099511627776) (hB : bytsS (os.map MOne.k) ≤ 1099511627776) :
    Calls Try.prog 93 #[.pointer (some ⟨p, 0, none⟩)] w fun e w' => e = .returned (.bool (fitsS L (os.map MOne.k))) ∧ Below w.heap.size w w' := by
  obtain ⟨b1, hb1⟩ : ∃ b, decide (((os.map MOne.k).length : Int) ≤ L.keys) = b := ⟨_, rfl⟩
  obtain ⟨b2, hb2⟩ : ∃ b, decide ((versS (os.map MOne.k) : Int) ≤ L.vers) = b := ⟨_, rfl⟩
  obtain ⟨b3, hb3⟩ : ∃ b, decide ((bytsS (os.map MOne.k) : Int) ≤ L.byts) = b := ⟨_, rfl⟩
  rw [show fitsS L (os.map MOne.k) = (b1 && b2 && b3) by unfold fitsS; rw [hb1, hb2, hb3]]
  have HCount := Lib.hid (refCount_any p S L m r v time A c os w h hV hB)
  have HBox := Lib.hid h.box
  have HLt := Lib.hid h.lt
  clear h hV hB
  unfold sizesVal at HCount
  generalize (os.map MOne.k).length = n1 at *
  generalize versS (os.map MOne.k) = n2 at *
  generalize bytsS (os.map MOne.k) = n3 at *
  obtain ⟨k1, k2, k3, k4⟩ := L
  simp only at hb1 hb2 hb3 HBox
  go_enter Try.func93, Try.ntmps93
  go_wp2_with fail
  refine HCount.out.mono ?_
  rintro x w1 ⟨rfl, hbw⟩
  obtain ⟨w2, hw2⟩ : ∃ y, w1.alloc (.cells #[.int .i64 n1, .int .i64 n2, .int .i64 n3] 49) = y := ⟨_, rfl⟩
  have hx2 : w2.heap[w1.heap.size]? = some (.cells #[.int .i64 n1, .int .i64 n2, .int .i64 n3] 49 (0, 0)) := by rw [← hw2]; exact heap_alloc_new w1 _
  have hp2 : w2.heap[p]? = _ := (show w2.heap[p]? = w.heap[p]? by rw [← hw2]; exact ((hbw.alloc hbw.size _).block p HLt.out)).trans HBox.out
  have hb2' : Below w.heap.size w w2 := by rw [← hw2]; exact hbw.alloc hbw.size _
  have HB2 := Lib.hid hb2'
  have KEEP : Hid (∀ W, Below w2.heap.size w2 W → W.cell? ⟨w1.heap.size, 0, none⟩ = some (.int .i64 n1) ∧ W.cell? ⟨w1.heap.size, 1, none⟩ = some (.int .i64 n2) ∧ W.cell? ⟨w1.heap.size, 2, none⟩ = some (.int .i64 n3) ∧ W.cell? ⟨p, 0, none⟩ = some (.int .i64 k1) ∧ W.cell? ⟨p, 1, none⟩ = some (.int .i64 k2) ∧ W.cell? ⟨p, 2, none⟩ = some (.int .i64 k3)) := Lib.hid fun W hb => by
    have h1 := heap_below hx2 hb (lt_of_heap hx2)
    have h2 := heap_below hp2 hb (lt_of_heap hp2)
    exact ⟨cell_of_row W _ 0 _ _ _ h1, cell_of_row W _ 1 _ _ _ h1, cell_of_row W _ 2 _ _ _ h1, cell_of_row W _ 0 _ _ _ h2, cell_of_row W _ 1 _ _ _ h2, cell_of_row W _ 2 _ _ _ h2⟩
  clear hx2 hp2 hb2' HBox HLt hbw
  cases b1 <;> cases b2 <;> cases b3 <;> (
    go_upto_region 2 with fail
    (try rw [hw2])
    clear hw2
    refine wp_region_classJ (C := fun W => Below w2.heap.size w2 W) (by kernel_rfl) (by kernel_rfl) (Below.refl _ _).drew ?_
    repeat (
      refine no_implicit_lambda% (wpQuiet_step ?_)
      intro K hK
      go_simp
      first
      | (refine no_implicit_lambda% (hK _ ?_); clear hK K)
      | (apply Exists.intro
         refine ⟨fun _ => ?_, hK _ ?_⟩
         (first
           | (intro _; with_reducible rfl)
           | (intro hw; obtain ⟨g0, g1, g2, g3, g4, g5⟩ := KEEP.out _ hw; go_simp; with_reducible exact ⟨rfl, rfl⟩)
           | (intro hw; obtain ⟨g0, g1, g2, g3, g4, g5⟩ := KEEP.out _ hw; go_simp; with_reducible rfl))
         clear hK K))
    refine wpQuiet_nil ?_
    intro w8 hb8
    have HB8 := Lib.hid hb8
    clear hb8
    go_wp2_with fail
    go_ret
    exact ⟨rfl, HB2.out.trans (HB8.out.mono HB2.out.size)⟩)
end Go.Proofs.Ytooegjdppeiccaa
