import Derived.Test.YtjkmodfbbiojmaaZC32
import Derived.Test.YtjkmodfbbiojmaaZC30
import Derived.Test.YtjkmodfbbiojmaaZC26
import Derived.Test.YtjkmodfbbiojmaaZC07
import Derived.Deep.DeepCutAuto
import Derived.Lib.MinMax
/-
  Package ssi as it landed: what is known of either side of t (sides), and the closure that tells a record.
-/
namespace Go.Proofs.Ytjkmodfbbiojmaa
open Go.RowKit

/-- Only block g may have changed, beside new ones. -/
structure MutM (g : Nat) (w w' : World) : Prop where
  os : w'.os = w.os
  tape : w'.tape = w.tape
  output : w'.output = w.output
  size : w.heap.size ≤ w'.heap.size
  block : ∀ k, k < w.heap.size → k ≠ g → w'.heap[k]? = w.heap[k]?
section
variable {w w' w'' : World} {g B : Nat}
theorem MutM.trans (h : MutM g w w') (k : MutM g w' w'') : MutM g w w'' := ⟨k.os.trans h.os, k.tape.trans h.tape, k.output.trans h.output, Nat.le_trans h.size k.size, fun i hi hf => (k.block i (Nat.lt_of_lt_of_le hi h.size) hf).trans (h.block i hi hf)⟩
theorem MutM.of (h : Below w.heap.size w w') (g : Nat) : MutM g w w' := ⟨h.os, h.tape, h.output, h.size, fun k hk _ => h.block k hk⟩
theorem MutM.set (w : World) (g o : Nat) (v : Value) : MutM g w (w.setCell ⟨g, o, none⟩ v) := ⟨rfl, rfl, rfl, by simp [World.setCell], fun k _ hf => set_far hf o v⟩
theorem MutM.below (h : MutM g w w') (hB : B ≤ w.heap.size) (hg : B ≤ g) : Below B w w' := ⟨h.os, h.tape, h.output, h.size, fun k hk => h.block k (Nat.lt_of_lt_of_le hk hB) (by omega)⟩
end
/-- What is known, in a box of four cells. -/
def SideAt (w : World) (g : Nat) (s : SideS) : Prop := w.heap[g]? = some (.cells #[.bool s.ahead, .bool s.behind, .int .u64 s.reach, .int .u64 s.first] 54 (0, 0))
theorem four_of {w : World} {b : Nat} {e : TypeId} {fz : Nat × Nat} {a0 a1 a2 a3 : Value} (h : w.heap[b]? = some (.cells #[a0, a1, a2, a3] e fz)) :
    w.cell? ⟨b, 0, none⟩ = some a0 ∧ w.cell? ⟨b, 1, none⟩ = some a1 ∧ w.cell? ⟨b, 2, none⟩ = some a2 ∧ w.cell? ⟨b, 3, none⟩ = some a3 :=
  ⟨cell_of_row w b 0 _ _ _ h, cell_of_row w b 1 _ _ _ h, cell_of_row w b 2 _ _ _ h, cell_of_row w b 3 _ _ _ h⟩
set_option maxRecDepth 100000 in
set_option maxHeartbeats 4000000 in
theorem reach_any (x : MR) (w : World) (hx : OkMR w w.heap.size x) : Calls Try.prog 43 #[recVal x] w fun r w' => r = .returned (.int .u64 (reachR x.r : Nat)) ∧ Below w.heap.size w w' := by
  have hl := hx.writes.1
  obtain ⟨⟨xf, xl, xb, xo, xr, xw⟩, xA, xc, xB, xd⟩ := x
  unfold recVal
  simp only at hl
  have HB := Lib.hid ((Below.refl w.heap.size w).alloc (Nat.le_refl _) (.cells #[.int .u64 xf, .int .u64 xl, .int .u64 xb, .int .u64 xo, .slice xA xr.length xc, .slice xB xw.length xd] 29))
  clear hx
  cases h : xw with
  | nil =>
    have e : reachR ⟨xf, xl, xb, xo, xr, []⟩ = xb := rfl
    rw [e]
    subst h
    clear e
    go_enter Try.func43, Try.ntmps43
    go_wp2
    go_ret
    exact ⟨rfl, HB.out⟩
  | cons s m =>
    have e : reachR ⟨xf, xl, xb, xo, xr, s :: m⟩ = xl := rfl
    rw [e]
    have d1 : (((s :: m).length : Int) == 0) = false := by rw [beq_eq_false_iff_ne]; simp; omega
    rw [← h] at d1
    have d2 : (xw.length == 0) = false := by rw [h]; rfl
    have d3 : ¬ xw = [] := by rw [h]; simp
    rw [← h]
    clear e h
    go_enter Try.func43, Try.ntmps43
    go_wp2
    go_ret
    exact ⟨rfl, HB.out⟩
theorem reach_lt {x : MR} {w : World} {hi : Nat} (h : OkMR w hi x) : reachR x.r < 18446744073709551616 := by
  have h1 := h.last
  have h2 := h.began
  unfold reachR
  split <;> omega

set_option maxRecDepth 100000 in
set_option maxHeartbeats 8000000 in
theorem addAhead_any (x : MR) (s : SideS) (g : Nat) (w : World) (hx : OkMR w w.heap.size x) (hs : SideAt w g s) (hr : s.reach < 18446744073709551616) (hf : s.first < 18446744073709551616) :
    Calls Try.prog 40 #[.pointer (some ⟨g, 0, none⟩), recVal x] w fun r w' => r = .returned (.tuple #[]) ∧ SideAt w' g (addAheadS s x.r) ∧ MutM g w w' := by
  obtain ⟨⟨xf, xl, xb, xo, xr, xw⟩, xA, xc, xB, xd⟩ := x
  obtain ⟨sa, sb, sr, sf⟩ := s
  unfold recVal
  have HX := Lib.hid hx
  have HS := Lib.hid (show w.heap[g]? = some (.cells #[.bool sa, .bool sb, .int .u64 sr, .int .u64 sf] 54 (0, 0)) from hs)
  clear hx hs
  simp only at HX hr hf
  obtain ⟨w1, hw1⟩ : ∃ y, w.alloc (.cells #[.int .u64 xf, .int .u64 xl, .int .u64 xb, .int .u64 xo, .slice xA xr.length xc, .slice xB xw.length xd] 29) = y := ⟨_, rfl⟩
  have hb1 : Below w.heap.size w w1 := by rw [← hw1]; exact (Below.refl _ w).alloc (Nat.le_refl _) _
  have hx1 : w1.heap[w.heap.size]? = some (.cells #[.int .u64 xf, .int .u64 xl, .int .u64 xb, .int .u64 xo, .slice xA xr.length xc, .slice xB xw.length xd] 29 (0, 0)) := by rw [← hw1]; exact heap_alloc_new w _
  have hs1 : w1.heap[g]? = some (.cells #[.bool sa, .bool sb, .int .u64 sr, .int .u64 sf] 54 (0, 0)) := heap_below HS.out hb1 (lt_of_heap HS.out)
  have HB1 := Lib.hid hb1
  have HW1 := Lib.hid hw1
  have HS1 := Lib.hid hs1
  have HX1 := Lib.hid hx1
  have HCl := Lib.hid (fun (W : World) (h : Below w1.heap.size w1 W) => And.intro (six_of (heap_below hx1 h (lt_of_heap hx1))) (four_of (heap_below hs1 h (lt_of_heap hs1))))
  have hRe := fun (W : World) (h : Below w1.heap.size w1 W) => (reach_any ⟨⟨xf, xl, xb, xo, xr, xw⟩, xA, xc, xB, xd⟩ W (HX.out.below (hb1.trans (h.mono hb1.size)) (Nat.le_refl _) (Nat.le_trans hb1.size h.size))).mono fun r w' (q : r = .returned (.int .u64 (reachR ⟨xf, xl, xb, xo, xr, xw⟩ : Nat)) ∧ Below W.heap.size W w') => (⟨q.1, h.trans (q.2.mono h.size)⟩ : r = .returned (.int .u64 (reachR ⟨xf, xl, xb, xo, xr, xw⟩ : Nat)) ∧ Below w1.heap.size w1 w')
  unfold recVal at hRe
  simp only at hRe
  have hrl := reach_lt HX.out
  simp only at hrl
  unfold SideAt addAheadS
  simp only
  generalize reachR ⟨xf, xl, xb, xo, xr, xw⟩ = R at *
  have HRe := Lib.hid hRe
  clear hRe hb1 hw1 hx1 hs1
  go_enter Try.func40, Try.ntmps40
  go_upto_region 1 with fail
  rw [HW1.out]
  clear HW1
  refine wp_region_class_tail (C := fun W => Below w1.heap.size w1 W) 10 (by kernel_rfl) (by kernel_rfl) (Below.refl _ _).drew ?_
  simp only [List.take_succ_cons, List.take_zero, List.drop_succ_cons, List.drop_zero]
  repeat (
    refine no_implicit_lambda% (wpQuiet_step ?_)
    intro K hK
    go_simp
    first
    | (refine no_implicit_lambda% (hK _ ?_); clear hK K)
    | (apply Exists.intro
       refine ⟨fun _ => ?_, hK _ ?_⟩
       (first
         | (intro _; with_reducible rfl)
         | (intro hw; with_reducible exact HRe.out _ hw)
         | (intro hw; obtain ⟨⟨z0, z1, z2, z3, z4, z5⟩, ⟨s0, s1, s2, s3⟩⟩ := HCl.out _ hw; go_simp; with_reducible exact ⟨rfl, rfl⟩)
         | (intro hw; obtain ⟨⟨z0, z1, z2, z3, z4, z5⟩, ⟨s0, s1, s2, s3⟩⟩ := HCl.out _ hw; go_simp; with_reducible rfl))
       clear hK K))
  refine wpQuiet_nil ?_
  intro w8 hb8
  have hs8 := heap_below HS1.out hb8 (lt_of_heap HS1.out)
  have HS8 := Lib.hid hs8
  have HB8 := Lib.hid (HB1.out.trans (hb8.mono HB1.out.size))
  obtain ⟨q0, q1, q2, q3⟩ := four_of hs8
  have f0 := frozen_of hs8 0
  have f2 := frozen_of hs8 2
  clear hb8 hs8
  go_wp2_with fail
  refine bodyPost_end (v := .tuple #[]) (by simp [results, Try.results40]) rfl ?_
  refine ⟨rfl, ?_, (MutM.of HB8.out g).trans ((MutM.set w8 g 2 _).trans (MutM.set _ g 0 _))⟩
  rw [set_at (set_at HS8.out 2 _) 0 _, show ((max sr R : Nat) : Int) = max (sr : Int) (R : Int) by omega]
  rfl
set_option maxRecDepth 100000 in
set_option maxHeartbeats 8000000 in
theorem addBehind_any (x : MR) (s : SideS) (g : Nat) (w : World) (hx : OkMR w w.heap.size x) (hs : SideAt w g s) (hr : s.reach < 18446744073709551616) (hf : s.first < 18446744073709551616) :
    Calls Try.prog 41 #[.pointer (some ⟨g, 0, none⟩), recVal x] w fun r w' => r = .returned (.tuple #[]) ∧ SideAt w' g (addBehindS s x.r) ∧ MutM g w w' := by
  obtain ⟨⟨xf, xl, xb, xo, xr, xw⟩, xA, xc, xB, xd⟩ := x
  obtain ⟨sa, sb, sr, sf⟩ := s
  unfold recVal
  have HX := Lib.hid hx
  have HS := Lib.hid (show w.heap[g]? = some (.cells #[.bool sa, .bool sb, .int .u64 sr, .int .u64 sf] 54 (0, 0)) from hs)
  clear hx hs
  simp only at HX hr hf
  obtain ⟨w1, hw1⟩ : ∃ y, w.alloc (.cells #[.int .u64 xf, .int .u64 xl, .int .u64 xb, .int .u64 xo, .slice xA xr.length xc, .slice xB xw.length xd] 29) = y := ⟨_, rfl⟩
  have hb1 : Below w.heap.size w w1 := by rw [← hw1]; exact (Below.refl _ w).alloc (Nat.le_refl _) _
  have hx1 : w1.heap[w.heap.size]? = some (.cells #[.int .u64 xf, .int .u64 xl, .int .u64 xb, .int .u64 xo, .slice xA xr.length xc, .slice xB xw.length xd] 29 (0, 0)) := by rw [← hw1]; exact heap_alloc_new w _
  have hs1 : w1.heap[g]? = some (.cells #[.bool sa, .bool sb, .int .u64 sr, .int .u64 sf] 54 (0, 0)) := heap_below HS.out hb1 (lt_of_heap HS.out)
  have HB1 := Lib.hid hb1
  have HW1 := Lib.hid hw1
  have HS1 := Lib.hid hs1
  have HX1 := Lib.hid hx1
  have HCl := Lib.hid (fun (W : World) (h : Below w1.heap.size w1 W) => And.intro (six_of (heap_below hx1 h (lt_of_heap hx1))) (four_of (heap_below hs1 h (lt_of_heap hs1))))
  have hff := HX.out.first
  simp only at hff
  unfold SideAt addBehindS
  simp only
  clear hb1 hw1 hx1 hs1
  cases sb with
  | false =>
    rw [show (!false || decide (xf < sf)) = true from rfl]
    simp only [if_true]
    go_enter Try.func41, Try.ntmps41
    go_upto_region 1 with fail
    rw [HW1.out]
    clear HW1
    refine wp_region_classJ (C := fun W => Below w1.heap.size w1 W) (by kernel_rfl) (by kernel_rfl) ((Below.refl _ _).drew) ?_
    repeat (
      refine no_implicit_lambda% (wpQuiet_step ?_)
      intro K hK
      go_simp
      first
      | (refine no_implicit_lambda% (hK _ ?_); clear hK K)
      | (apply Exists.intro
         refine ⟨fun _ => ?_, hK _ ?_⟩
         (first
             | (intro hw; obtain ⟨⟨z0, z1, z2, z3, z4, z5⟩, ⟨s0, s1, s2, s3⟩⟩ := HCl.out _ hw; go_simp; with_reducible exact ⟨rfl, rfl⟩)
             | (intro hw; obtain ⟨⟨z0, z1, z2, z3, z4, z5⟩, ⟨s0, s1, s2, s3⟩⟩ := HCl.out _ hw; go_simp; with_reducible rfl)
             | (intro _; with_reducible rfl)
             | (intro hw; go_simp; with_reducible exact ⟨rfl, rfl⟩)
             | (intro hw; go_simp; with_reducible exact rfl))
         clear hK K))
    refine wpQuiet_nil ?_
    intro w8 hb8
    have hs8 := heap_below HS1.out hb8 (lt_of_heap HS1.out)
    have HS8 := Lib.hid hs8
    have HB8 := Lib.hid (HB1.out.trans (hb8.mono HB1.out.size))
    obtain ⟨⟨z0, z1, z2, z3, z4, z5⟩, _⟩ := HCl.out _ hb8
    obtain ⟨q0, q1, q2, q3⟩ := four_of hs8
    have f1 := frozen_of hs8 1
    have f3 := frozen_of hs8 3
    clear hb8 hs8
    go_wp2_with fail
    refine bodyPost_end (v := .tuple #[]) (by simp [results, Try.results41]) rfl ?_
    refine ⟨rfl, ?_, (MutM.of HB8.out g).trans ((MutM.set w8 g 3 _).trans (MutM.set _ g 1 _))⟩
    rw [set_at (set_at HS8.out 3 _) 1 _]
    rfl
  | true =>
    by_cases hlt : xf < sf
    · have d1 : decide ((xf : Int) < (sf : Int)) = true := by rw [decide_eq_true_iff]; omega
      have d2 : decide (xf < sf) = true := by rw [decide_eq_true_iff]; omega
      rw [d2]
      simp only [Bool.or_true, if_true]
      clear hlt
      go_enter Try.func41, Try.ntmps41
      go_upto_region 1 with fail
      rw [HW1.out]
      clear HW1
      refine wp_region_classJ (C := fun W => Below w1.heap.size w1 W) (by kernel_rfl) (by kernel_rfl) ((Below.refl _ _).drew) ?_
      repeat (
        refine no_implicit_lambda% (wpQuiet_step ?_)
        intro K hK
        go_simp
        first
        | (refine no_implicit_lambda% (hK _ ?_); clear hK K)
        | (apply Exists.intro
           refine ⟨fun _ => ?_, hK _ ?_⟩
           (first
               | (intro hw; obtain ⟨⟨z0, z1, z2, z3, z4, z5⟩, ⟨s0, s1, s2, s3⟩⟩ := HCl.out _ hw; go_simp; with_reducible exact ⟨rfl, rfl⟩)
               | (intro hw; obtain ⟨⟨z0, z1, z2, z3, z4, z5⟩, ⟨s0, s1, s2, s3⟩⟩ := HCl.out _ hw; go_simp; with_reducible rfl)
               | (intro _; with_reducible rfl)
               | (intro hw; go_simp; with_reducible exact ⟨rfl, rfl⟩)
               | (intro hw; go_simp; with_reducible exact rfl))
           clear hK K))
      refine wpQuiet_nil ?_
      intro w8 hb8
      have hs8 := heap_below HS1.out hb8 (lt_of_heap HS1.out)
      have HS8 := Lib.hid hs8
      have HB8 := Lib.hid (HB1.out.trans (hb8.mono HB1.out.size))
      obtain ⟨⟨z0, z1, z2, z3, z4, z5⟩, _⟩ := HCl.out _ hb8
      obtain ⟨q0, q1, q2, q3⟩ := four_of hs8
      have f1 := frozen_of hs8 1
      have f3 := frozen_of hs8 3
      clear hb8 hs8
      go_wp2_with fail
      refine bodyPost_end (v := .tuple #[]) (by simp [results, Try.results41]) rfl ?_
      refine ⟨rfl, ?_, (MutM.of HB8.out g).trans ((MutM.set w8 g 3 _).trans (MutM.set _ g 1 _))⟩
      rw [set_at (set_at HS8.out 3 _) 1 _]
      rfl
    · have d1 : decide ((xf : Int) < (sf : Int)) = false := by rw [decide_eq_false_iff_not]; omega
      have d2 : decide (xf < sf) = false := by rw [decide_eq_false_iff_not]; omega
      rw [d2]
      simp only [Bool.not_true, Bool.or_false, Bool.false_eq_true, if_false]
      clear hlt
      go_enter Try.func41, Try.ntmps41
      go_upto_region 1 with fail
      rw [HW1.out]
      clear HW1
      refine wp_region_classJ (C := fun W => Below w1.heap.size w1 W) (by kernel_rfl) (by kernel_rfl) ((Below.refl _ _).drew) ?_
      repeat (
        refine no_implicit_lambda% (wpQuiet_step ?_)
        intro K hK
        go_simp
        first
        | (refine no_implicit_lambda% (hK _ ?_); clear hK K)
        | (apply Exists.intro
           refine ⟨fun _ => ?_, hK _ ?_⟩
           (first
               | (intro hw; obtain ⟨⟨z0, z1, z2, z3, z4, z5⟩, ⟨s0, s1, s2, s3⟩⟩ := HCl.out _ hw; go_simp; with_reducible exact ⟨rfl, rfl⟩)
               | (intro hw; obtain ⟨⟨z0, z1, z2, z3, z4, z5⟩, ⟨s0, s1, s2, s3⟩⟩ := HCl.out _ hw; go_simp; with_reducible rfl)
               | (intro _; with_reducible rfl)
               | (intro hw; go_simp; with_reducible exact ⟨rfl, rfl⟩)
               | (intro hw; go_simp; with_reducible exact rfl))
           clear hK K))
      refine wpQuiet_nil ?_
      intro w8 hb8
      have hs8 := heap_below HS1.out hb8 (lt_of_heap HS1.out)
      have HS8 := Lib.hid hs8
      have HB8 := Lib.hid (HB1.out.trans (hb8.mono HB1.out.size))
      obtain ⟨⟨z0, z1, z2, z3, z4, z5⟩, _⟩ := HCl.out _ hb8
      obtain ⟨q0, q1, q2, q3⟩ := four_of hs8
      have f1 := frozen_of hs8 1
      have f3 := frozen_of hs8 3
      clear hb8 hs8
      go_wp2_with fail
      refine bodyPost_end (v := .tuple #[]) (by simp [results, Try.results41]) rfl ?_
      refine ⟨rfl, ?_, (MutM.of HB8.out g).trans (MutM.set w8 g 1 _)⟩
      rw [set_at HS8.out 1 _]
      rfl

set_option maxRecDepth 100000 in
set_option maxHeartbeats 8000000 in
theorem danger_any (s : SideS) (g : Nat) (w : World) (hs : SideAt w g s) (hr : s.reach < 18446744073709551616) (hf : s.first < 18446744073709551616) :
    Calls Try.prog 42 #[.pointer (some ⟨g, 0, none⟩)] w fun r w' => r = .returned (.bool (dangerS s)) ∧ Below w.heap.size w w' := by
  obtain ⟨sa, sb, sr, sf⟩ := s
  have HS := Lib.hid (show w.heap[g]? = some (.cells #[.bool sa, .bool sb, .int .u64 sr, .int .u64 sf] 54 (0, 0)) from hs)
  clear hs
  simp only at hr hf
  have HCl := Lib.hid (fun (W : World) (h : Below w.heap.size w W) => four_of (heap_below HS.out h (lt_of_heap HS.out)))
  unfold dangerS
  simp only
  cases sa with
  | false =>
    rw [Bool.false_and, Bool.false_and]
    go_enter Try.func42, Try.ntmps42
    go_upto_region 1 with fail
    refine wp_region_classJ (C := fun W => Below w.heap.size w W) (by kernel_rfl) (by kernel_rfl) ((Below.refl _ _).drew) ?_
    repeat (
      refine no_implicit_lambda% (wpQuiet_step ?_)
      intro K hK
      go_simp
      first
      | (refine no_implicit_lambda% (hK _ ?_); clear hK K)
      | (apply Exists.intro
         refine ⟨fun _ => ?_, hK _ ?_⟩
         (first
             | (intro hw; obtain ⟨s0, s1, s2, s3⟩ := HCl.out _ hw; go_simp; with_reducible exact ⟨rfl, rfl⟩)
             | (intro hw; obtain ⟨s0, s1, s2, s3⟩ := HCl.out _ hw; go_simp; with_reducible rfl)
             | (intro _; with_reducible rfl)
             | (intro hw; go_simp; with_reducible exact ⟨rfl, rfl⟩)
             | (intro hw; go_simp; with_reducible exact rfl))
         clear hK K))
    refine wpQuiet_nil ?_
    intro w8 hb8
    go_wp2_with fail
    go_ret
    exact ⟨rfl, hb8⟩
  | true =>
    cases sb with
    | false =>
      rw [Bool.and_false, Bool.false_and]
      go_enter Try.func42, Try.ntmps42
      go_upto_region 1 with fail
      refine wp_region_classJ (C := fun W => Below w.heap.size w W) (by kernel_rfl) (by kernel_rfl) ((Below.refl _ _).drew) ?_
      repeat (
        refine no_implicit_lambda% (wpQuiet_step ?_)
        intro K hK
        go_simp
        first
        | (refine no_implicit_lambda% (hK _ ?_); clear hK K)
        | (apply Exists.intro
           refine ⟨fun _ => ?_, hK _ ?_⟩
           (first
               | (intro hw; obtain ⟨s0, s1, s2, s3⟩ := HCl.out _ hw; go_simp; with_reducible exact ⟨rfl, rfl⟩)
               | (intro hw; obtain ⟨s0, s1, s2, s3⟩ := HCl.out _ hw; go_simp; with_reducible rfl)
               | (intro _; with_reducible rfl)
               | (intro hw; go_simp; with_reducible exact ⟨rfl, rfl⟩)
               | (intro hw; go_simp; with_reducible exact rfl))
           clear hK K))
      refine wpQuiet_nil ?_
      intro w8 hb8
      go_wp2_with fail
      go_ret
      exact ⟨rfl, hb8⟩
    | true =>
      rw [Bool.and_true, Bool.true_and]
      by_cases hlt : sf ≤ sr
      · have d1 : decide ((sf : Int) ≤ (sr : Int)) = true := by rw [decide_eq_true_iff]; omega
        have d2 : decide (sf ≤ sr) = true := by rw [decide_eq_true_iff]; omega
        rw [d2]
        clear hlt
        go_enter Try.func42, Try.ntmps42
        go_upto_region 1 with fail
        refine wp_region_classJ (C := fun W => Below w.heap.size w W) (by kernel_rfl) (by kernel_rfl) ((Below.refl _ _).drew) ?_
        repeat (
          refine no_implicit_lambda% (wpQuiet_step ?_)
          intro K hK
          go_simp
          first
          | (refine no_implicit_lambda% (hK _ ?_); clear hK K)
          | (apply Exists.intro
             refine ⟨fun _ => ?_, hK _ ?_⟩
             (first
                 | (intro hw; obtain ⟨s0, s1, s2, s3⟩ := HCl.out _ hw; go_simp; with_reducible exact ⟨rfl, rfl⟩)
                 | (intro hw; obtain ⟨s0, s1, s2, s3⟩ := HCl.out _ hw; go_simp; with_reducible rfl)
                 | (intro _; with_reducible rfl)
                 | (intro hw; go_simp; with_reducible exact ⟨rfl, rfl⟩)
                 | (intro hw; go_simp; with_reducible exact rfl))
             clear hK K))
        refine wpQuiet_nil ?_
        intro w8 hb8
        go_wp2_with fail
        go_ret
        exact ⟨rfl, hb8⟩
      · have d1 : decide ((sf : Int) ≤ (sr : Int)) = false := by rw [decide_eq_false_iff_not]; omega
        have d2 : decide (sf ≤ sr) = false := by rw [decide_eq_false_iff_not]; omega
        rw [d2]
        clear hlt
        go_enter Try.func42, Try.ntmps42
        go_upto_region 1 with fail
        refine wp_region_classJ (C := fun W => Below w.heap.size w W) (by kernel_rfl) (by kernel_rfl) ((Below.refl _ _).drew) ?_
        repeat (
          refine no_implicit_lambda% (wpQuiet_step ?_)
          intro K hK
          go_simp
          first
          | (refine no_implicit_lambda% (hK _ ?_); clear hK K)
          | (apply Exists.intro
             refine ⟨fun _ => ?_, hK _ ?_⟩
             (first
                 | (intro hw; obtain ⟨s0, s1, s2, s3⟩ := HCl.out _ hw; go_simp; with_reducible exact ⟨rfl, rfl⟩)
                 | (intro hw; obtain ⟨s0, s1, s2, s3⟩ := HCl.out _ hw; go_simp; with_reducible rfl)
                 | (intro _; with_reducible rfl)
                 | (intro hw; go_simp; with_reducible exact ⟨rfl, rfl⟩)
                 | (intro hw; go_simp; with_reducible exact rfl))
             clear hK K))
        refine wpQuiet_nil ?_
        intro w8 hb8
        go_wp2_with fail
        go_ret
        exact ⟨rfl, hb8⟩
end Go.Proofs.Ytjkmodfbbiojmaa
