/-
  Stretches, the document's own answers: Point, Right, Has, touches.
-/
import Derived.Test.YtooegjdppeiccaaIRow
import Derived.Laws.Cover1
import Derived.Deep.DeepCutAuto
namespace Go.Proofs.Ytooegjdppeiccaa
open Go.RowKit

theorem nil_q {h : List UInt8} (e : h.isEmpty = true) : ((bs h).toList == []) = true ∧ (bs h).toList = [] := by
  rw [List.isEmpty_iff] at e
  subst e
  rw [bs_list]
  exact ⟨rfl, rfl⟩
theorem nil_n {h : List UInt8} (e : h.isEmpty = false) : ((bs h).toList == []) = false ∧ ¬ (bs h).toList = [] := by
  rw [List.isEmpty_eq_false_iff] at e
  rw [bs_list]
  exact ⟨beq_eq_false_iff_ne.2 e, e⟩
set_option maxRecDepth 100000 in
set_option maxHeartbeats 2000000 in
theorem refRightI_any (s : Sp) (w : World) : Calls Try.prog 34 #[spVal s] w fun r w' => r = .returned (.bool (rightS s)) ∧ Below w.heap.size w w' := by
  obtain ⟨lo, hi⟩ := s
  have HB := Lib.hid ((Below.refl w.heap.size w).alloc (Nat.le_refl _) (.cells #[.string (bs lo), .string (bs hi)] 60))
  have h0 := sp_less lo hi
  unfold rightS endS spVal
  cases hq : hi.isEmpty with
  | true =>
    obtain ⟨q1, q2⟩ := nil_q hq
    clear hq
    go_enter Try.func34, Try.ntmps34
    go_wp2
    go_ret
    exact ⟨rfl, HB.out⟩
  | false =>
    obtain ⟨q1, q2⟩ := nil_n hq
    clear hq
    rw [Bool.false_or]
    generalize blt lo hi = x at *
    go_enter Try.func34, Try.ntmps34
    go_wp2
    go_ret
    exact ⟨rfl, HB.out⟩

set_option maxRecDepth 100000 in
set_option maxHeartbeats 2000000 in
theorem refHasI_any (s : Sp) (k : List UInt8) (w : World) : Calls Try.prog 36 #[spVal s, .string (bs k)] w fun r w' => r = .returned (.bool (hasS s k)) ∧ Below w.heap.size w w' := by
  obtain ⟨lo, hi⟩ := s
  have HB := Lib.hid ((Below.refl w.heap.size w).alloc (Nat.le_refl _) (.cells #[.string (bs lo), .string (bs hi)] 60))
  have h0 := sp_geq k lo
  have h1 := sp_less k hi
  unfold hasS endS blo spVal
  simp only
  cases hl : blt k lo with
  | true =>
    rw [hl] at h0
    clear hl h1
    rw [Bool.not_true, Bool.false_and]
    go_enter Try.func36, Try.ntmps36
    go_wp2
    go_ret
    exact ⟨rfl, HB.out⟩
  | false =>
    rw [hl] at h0
    clear hl
    rw [Bool.not_false, Bool.true_and]
    cases hq : hi.isEmpty with
    | true =>
      obtain ⟨q1, q2⟩ := nil_q hq
      clear hq h1
      rw [Bool.true_or]
      go_enter Try.func36, Try.ntmps36
      go_wp2
      go_ret
      exact ⟨rfl, HB.out⟩
    | false =>
      obtain ⟨q1, q2⟩ := nil_n hq
      clear hq
      rw [Bool.false_or]
      generalize blt k hi = x at *
      go_enter Try.func36, Try.ntmps36
      go_wp2
      go_ret
      exact ⟨rfl, HB.out⟩
theorem str_geq (a b : List UInt8) : Op.stringOp .geq (bs a) (bs b) = pure (.bool !(blt a b)) := by simp [Op.stringOp, bs_list]
theorem str_leq (a b : List UInt8) : Op.stringOp .leq (bs a) (bs b) = pure (.bool !(blt b a)) := sp_leq a b 0
theorem run_max_sp {P : Program} (w : World) (ts : Array TypeId) (t : TypeId) (a b : List UInt8) : (Builtin.max_ ts t #[.string (bs a), .string (bs b)]).run P w = .ok (.string (bs (maxS a b))) w := by
  have h := str_geq a b
  unfold maxS
  cases q : blt a b <;> rw [q] at h <;> simp [Builtin.max_, Builtin.max2, h, asBool]
theorem run_min_sp {P : Program} (w : World) (ts : Array TypeId) (t : TypeId) (a b : List UInt8) : (Builtin.min_ ts t #[.string (bs a), .string (bs b)]).run P w = .ok (.string (bs (minS a b))) w := by
  have h := str_leq a b
  unfold minS
  rcases blt_tri a b with g | g | g
  · have g2 := blt_asymm g
    rw [g2] at h
    simp [Builtin.min_, Builtin.min2, h, asBool, show blt a b = true from g]
  · subst g
    rw [blt_self] at h
    simp [Builtin.min_, Builtin.min2, h, asBool]
  · have g2 := blt_asymm g
    rw [g] at h
    simp [Builtin.min_, Builtin.min2, h, asBool, show blt a b = false from g2]
set_option maxRecDepth 100000 in
set_option maxHeartbeats 2000000 in
theorem refMeetsI_any (a b : Sp) (w : World) : Calls Try.prog 38 #[spVal a, spVal b] w fun r w' => r = .returned (.bool (meetsS a b)) ∧ Below w.heap.size w w' := by
  obtain ⟨w0, hw0⟩ : ∃ y, (w.alloc (.cells #[.string (bs a.lo), .string (bs a.hi)] 60)).alloc (.cells #[.string (bs b.lo), .string (bs b.hi)] 60) = y := ⟨_, rfl⟩
  have hb0 : Below w.heap.size w w0 := by rw [← hw0]; exact ((Below.refl _ w).alloc (Nat.le_refl _) _).alloc (by simp) _
  have ha : w0.heap[w.heap.size]? = some (.cells #[.string (bs a.lo), .string (bs a.hi)] 60 (0, 0)) := by rw [← hw0]; exact heap_allocs (heap_alloc_new w _) _
  have hb : w0.heap[w.heap.size + 1]? = some (.cells #[.string (bs b.lo), .string (bs b.hi)] 60 (0, 0)) := by rw [← hw0]; exact heap_new2 w _ _
  have HM := run_max_sp (P := Try.prog) w0 #[9, 9] 9 a.lo b.lo
  unfold meetsS
  generalize maxS a.lo b.lo = m at *
  have H1 := Lib.hid (refHasI_any a m)
  have H2 := Lib.hid (refHasI_any b m)
  obtain ⟨alo, ahi⟩ := a
  obtain ⟨blo', bhi⟩ := b
  simp only at ha hb HM hw0
  have KB : Hid (∀ w', Below w0.heap.size w0 w' → w'.cell? ⟨w.heap.size + 1, 0, none⟩ = some (.string (bs blo')) ∧ w'.cell? ⟨w.heap.size + 1, 1, none⟩ = some (.string (bs bhi))) := Lib.hid fun w' h => by
    have := heap_below hb h (lt_of_heap hb)
    exact ⟨cell_of_row _ _ 0 _ _ _ this, cell_of_row _ _ 1 _ _ _ this⟩
  have a0 := cell_of_row _ _ 0 _ _ _ ha
  have a1 := cell_of_row _ _ 1 _ _ _ ha
  have b0 := cell_of_row _ _ 0 _ _ _ hb
  have HB := Lib.hid hb0
  have HW := Lib.hid hw0
  clear ha hb hb0 hw0
  unfold spVal
  simp only
  generalize hasS ⟨alo, ahi⟩ m = x at *
  generalize hasS ⟨blo', bhi⟩ m = y at *
  go_enter Try.func38, Try.ntmps38
  go_upto_region 1 with fail
  rw [HW.out]
  clear HW
  cases x with
  | true =>
    go_wp2_with fail
    refine (H1.out w0).mono ?_
    rintro r w1 ⟨rfl, hb1⟩
    obtain ⟨b0, b1⟩ := KB.out w1 hb1
    have HB1 := Lib.hid (HB.out.trans (hb1.mono HB.out.size))
    clear hb1
    go_wp2_with fail
    refine (H2.out w1).mono ?_
    rintro r w2 ⟨rfl, hb2⟩
    have HB2 := Lib.hid (HB1.out.trans (hb2.mono HB1.out.size))
    clear hb2
    go_wp2_with fail
    go_ret
    exact ⟨rfl, HB2.out⟩
  | false =>
    go_wp2_with fail
    refine (H1.out w0).mono ?_
    rintro r w1 ⟨rfl, hb1⟩
    have HB1 := Lib.hid (HB.out.trans (hb1.mono HB.out.size))
    clear hb1
    go_wp2_with fail
    go_ret
    exact ⟨rfl, HB1.out⟩
end Go.Proofs.Ytooegjdppeiccaa
