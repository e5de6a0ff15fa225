import Derived.Test.YtdpbllacfljmoaaGreatZF28
import Derived.Test.YtdpbllacfljmoaaGreatZF18
import Derived.Test.YtdpbllacfljmoaaGreatZF03
import Derived.Deep.DeepCutAuto
import Derived.Lib.MinMax
set_option maxRecDepth 100000
set_option maxHeartbeats 16000000
set_option linter.unusedVariables false
namespace Go.Proofs.YtdpbllacfljmoaaGreat
open Go.RowKit
structure MutM (g : Nat) (w w' : World) : Prop where
 os : w'.os = w.os
 tape : w'.tape = w.tape
 output : w'.output = w.output
 size : w.heap.size ≤ w'.heap.size
 block : ∀ k, k < w.heap.size → k ≠ g → w'.heap[k]? = w.heap[k]?
section
variable {w w' w'' : World} {g B : Nat}
theorem MutM.trans (h : MutM g w w') (k : MutM g w' w'') : MutM g w w'' := ⟨k.os.trans h.os, k.tape.trans h.tape, k.output.trans h.output, Nat.le_trans h.size k.size, fun i hi hf => (k.block i (Nat.lt_of_lt_of_le hi h.size) hf).trans (h.block i hi hf)⟩
theorem MutM.of (h : Below w.heap.size w w') (g : Nat) : MutM g w w' := ⟨h.os, h.tape, h.output, h.size, fun k hk _ => h.block k hk⟩
theorem MutM.set (w : World) (g o : Nat) (v : Value) : MutM g w (w.setCell ⟨g, o, none⟩ v) := ⟨rfl, rfl, rfl, by simp [World.setCell], fun k _ hf => q1p hf o v⟩
theorem MutM.below (h : MutM g w w') (hB : B ≤ w.heap.size) (hg : B ≤ g) : Below B w w' := ⟨h.os, h.tape, h.output, h.size, fun k hk => h.block k (Nat.lt_of_lt_of_le hk hB) (by omega)⟩
end
def q1H (w : World) (g : Nat) (s : q2t) : Prop := w.heap[g]? = some (.cells #[.bool s.ahead, .bool s.behind, .int .u64 s.reach, .int .u64 s.first] 239 (0, 0))
theorem q3y {w : World} {b : Nat} {e : TypeId} {fz : Nat × Nat} {a0 a1 a2 a3 : Value} (h : w.heap[b]? = some (.cells #[a0, a1, a2, a3] e fz)) :
  w.cell? ⟨b, 0, none⟩ = some a0 ∧ w.cell? ⟨b, 1, none⟩ = some a1 ∧ w.cell? ⟨b, 2, none⟩ = some a2 ∧ w.cell? ⟨b, 3, none⟩ = some a3 :=
 ⟨cell_of_row w b 0 _ _ _ h, cell_of_row w b 1 _ _ _ h, cell_of_row w b 2 _ _ _ h, cell_of_row w b 3 _ _ _ h⟩
theorem q6z (x : MR) (w : World) (hx : OkMR w w.heap.size x) : Calls Tryz.prog 196 #[q0u x] w fun r w' => r = .returned (.int .u64 (q0A x.r : Nat)) ∧ Below w.heap.size w w' := by
 have hl := hx.writes.1
 obtain ⟨⟨xf, xl, xb, xo, xr, xw⟩, xA, xc, xB, xd⟩ := x
 unfold q0u
 simp only at hl
 have HB := qh ((Below.refl w.heap.size w).alloc (Nat.le_refl _) (.cells #[.int .u64 xf, .int .u64 xl, .int .u64 xb, .int .u64 xo, .slice xA xr.length xc, .slice xB xw.length xd] 86))
 clear hx
 cases h : xw with
 | nil =>
  have e : q0A ⟨xf, xl, xb, xo, xr, []⟩ = xb := rfl
  rw [e]
  subst h
  clear e
  go_enter Tryz.func196, Tryz.ntmps196
  go_wp2
  go_ret
  exact ⟨rfl, HB.out⟩
 | cons s m =>
  have e : q0A ⟨xf, xl, xb, xo, xr, s :: m⟩ = xl := rfl
  rw [e]
  have d1 : (((s :: m).length : Int) == 0) = false := by rw [beq_eq_false_iff_ne]; simp; omega
  rw [← h] at d1
  have d2 : (xw.length == 0) = false := by rw [h]; rfl
  have d3 : ¬ xw = [] := by rw [h]; simp
  rw [← h]
  clear e h
  go_enter Tryz.func196, Tryz.ntmps196
  go_wp2
  go_ret
  exact ⟨rfl, HB.out⟩
theorem qb6 {x : MR} {w : World} {hi : Nat} (h : OkMR w hi x) : q0A x.r < 18446744073709551616 := by
 have h1 := h.last
 have h2 := h.began
 unfold q0A
 split <;> omega
theorem q5h (x : MR) (s : q2t) (g : Nat) (w : World) (hx : OkMR w w.heap.size x) (hs : q1H w g s) (hr : s.reach < 18446744073709551616) (hf : s.first < 18446744073709551616) :
    Calls Tryz.prog 193 #[.pointer (some ⟨g, 0, none⟩), q0u x] w fun r w' => r = .returned (.tuple #[]) ∧ q1H w' g (q0v s x.r) ∧ MutM g w w' := by
  obtain ⟨⟨xf, xl, xb, xo, xr, xw⟩, xA, xc, xB, xd⟩ := x
  obtain ⟨sa, sb, sr, sf⟩ := s
  unfold q0u
  have HX := qh hx
  have HS := qh (show w.heap[g]? = some (.cells #[.bool sa, .bool sb, .int .u64 sr, .int .u64 sf] 239 (0, 0)) from hs)
  clear hx hs
  simp only at HX hr hf
  obtain ⟨w1, hw1⟩ : ∃ y, w.alloc (.cells #[.int .u64 xf, .int .u64 xl, .int .u64 xb, .int .u64 xo, .slice xA xr.length xc, .slice xB xw.length xd] 86) = y := ⟨_, rfl⟩
  have hb1 : Below w.heap.size w w1 := by rw [← hw1]; exact (Below.refl _ w).alloc (Nat.le_refl _) _
  have hx1 : w1.heap[w.heap.size]? = some (.cells #[.int .u64 xf, .int .u64 xl, .int .u64 xb, .int .u64 xo, .slice xA xr.length xc, .slice xB xw.length xd] 86 (0, 0)) := by rw [← hw1]; exact heap_alloc_new w _
  have hs1 : w1.heap[g]? = some (.cells #[.bool sa, .bool sb, .int .u64 sr, .int .u64 sf] 239 (0, 0)) := q01 HS.out hb1 (q00 HS.out)
  have HB1 := qh hb1
  have HW1 := qh hw1
  have HS1 := qh hs1
  have HX1 := qh hx1
  have HCl := qh (fun (W : World) (h : Below w1.heap.size w1 W) => And.intro (q0O (q01 hx1 h (q00 hx1))) (q3y (q01 hs1 h (q00 hs1))))
  have hRe := fun (W : World) (h : Below w1.heap.size w1 W) => (q6z ⟨⟨xf, xl, xb, xo, xr, xw⟩, xA, xc, xB, xd⟩ W (HX.out.below (hb1.trans (h.mono hb1.size)) (Nat.le_refl _) (Nat.le_trans hb1.size h.size))).mono fun r w' (q : r = .returned (.int .u64 (q0A ⟨xf, xl, xb, xo, xr, xw⟩ : Nat)) ∧ Below W.heap.size W w') => (⟨q.1, h.trans (q.2.mono h.size)⟩ : r = .returned (.int .u64 (q0A ⟨xf, xl, xb, xo, xr, xw⟩ : Nat)) ∧ Below w1.heap.size w1 w')
  unfold q0u at hRe
  simp only at hRe
  have hrl := qb6 HX.out
  simp only at hrl
  unfold q1H q0v
  simp only
  generalize q0A ⟨xf, xl, xb, xo, xr, xw⟩ = R at *
  have HRe := qh hRe
  clear hRe hb1 hw1 hx1 hs1
  go_enter Tryz.func193, Tryz.ntmps193
  go_upto_region 1 with fail
  rw [HW1.out]
  clear HW1
  refine q1E (C := fun W => Below w1.heap.size w1 W) 10 (by kernel_rfl) (by kernel_rfl) (Below.refl _ _).drew ?_
  simp only [List.take_succ_cons, List.take_zero, List.drop_succ_cons, List.drop_zero]
  repeat (
    refine no_implicit_lambda% (wpQuiet_step ?_)
    intro K hK
    go_simp
    first
    | (refine no_implicit_lambda% (hK _ ?_); clear hK K)
    | (apply Exists.intro
       refine ⟨fun _ => ?_, hK _ ?_⟩
       (first
         | (intro _; with_reducible rfl)
         | (intro hw; with_reducible exact HRe.out _ hw)
         | (intro hw; obtain ⟨⟨z0, z1, z2, z3, z4, z5⟩, ⟨s0, s1, s2, s3⟩⟩ := HCl.out _ hw; go_simp; with_reducible exact ⟨rfl, rfl⟩)
         | (intro hw; obtain ⟨⟨z0, z1, z2, z3, z4, z5⟩, ⟨s0, s1, s2, s3⟩⟩ := HCl.out _ hw; go_simp; with_reducible rfl))
       clear hK K))
  refine wpQuiet_nil ?_
  intro w8 hb8
  have hs8 := q01 HS1.out hb8 (q00 HS1.out)
  have HS8 := qh hs8
  have HB8 := qh (HB1.out.trans (hb8.mono HB1.out.size))
  obtain ⟨q0, q1, q2, q3⟩ := q3y hs8
  have f0 := q02 hs8 0
  have f2 := q02 hs8 2
  clear hb8 hs8
  go_wp2_with fail
  refine bodyPost_end (v := .tuple #[]) (by simp [results, Tryz.results193]) rfl ?_
  refine ⟨rfl, ?_, (MutM.of HB8.out g).trans ((MutM.set w8 g 2 _).trans (MutM.set _ g 0 _))⟩
  rw [q1n (q1n HS8.out 2 _) 0 _, show ((max sr R : Nat) : Int) = max (sr : Int) (R : Int) by omega]
  rfl
theorem q4r (x : MR) (s : q2t) (g : Nat) (w : World) (hx : OkMR w w.heap.size x) (hs : q1H w g s) (hr : s.reach < 18446744073709551616) (hf : s.first < 18446744073709551616) :
    Calls Tryz.prog 194 #[.pointer (some ⟨g, 0, none⟩), q0u x] w fun r w' => r = .returned (.tuple #[]) ∧ q1H w' g (q0i s x.r) ∧ MutM g w w' := by
  obtain ⟨⟨xf, xl, xb, xo, xr, xw⟩, xA, xc, xB, xd⟩ := x
  obtain ⟨sa, sb, sr, sf⟩ := s
  unfold q0u
  have HX := qh hx
  have HS := qh (show w.heap[g]? = some (.cells #[.bool sa, .bool sb, .int .u64 sr, .int .u64 sf] 239 (0, 0)) from hs)
  clear hx hs
  simp only at HX hr hf
  obtain ⟨w1, hw1⟩ : ∃ y, w.alloc (.cells #[.int .u64 xf, .int .u64 xl, .int .u64 xb, .int .u64 xo, .slice xA xr.length xc, .slice xB xw.length xd] 86) = y := ⟨_, rfl⟩
  have hb1 : Below w.heap.size w w1 := by rw [← hw1]; exact (Below.refl _ w).alloc (Nat.le_refl _) _
  have hx1 : w1.heap[w.heap.size]? = some (.cells #[.int .u64 xf, .int .u64 xl, .int .u64 xb, .int .u64 xo, .slice xA xr.length xc, .slice xB xw.length xd] 86 (0, 0)) := by rw [← hw1]; exact heap_alloc_new w _
  have hs1 : w1.heap[g]? = some (.cells #[.bool sa, .bool sb, .int .u64 sr, .int .u64 sf] 239 (0, 0)) := q01 HS.out hb1 (q00 HS.out)
  have HB1 := qh hb1
  have HW1 := qh hw1
  have HS1 := qh hs1
  have HX1 := qh hx1
  have HCl := qh (fun (W : World) (h : Below w1.heap.size w1 W) => And.intro (q0O (q01 hx1 h (q00 hx1))) (q3y (q01 hs1 h (q00 hs1))))
  have hff := HX.out.first
  simp only at hff
  unfold q1H q0i
  simp only
  clear hb1 hw1 hx1 hs1
  cases sb with
  | false =>
    rw [show (!false || decide (xf < sf)) = true from rfl]
    simp only [if_true]
    go_enter Tryz.func194, Tryz.ntmps194
    go_upto_region 1 with fail
    rw [HW1.out]
    clear HW1
    refine q04 (C := fun W => Below w1.heap.size w1 W) (by kernel_rfl) (by kernel_rfl) ((Below.refl _ _).drew) ?_
    repeat (
      refine no_implicit_lambda% (wpQuiet_step ?_)
      intro K hK
      go_simp
      first
      | (refine no_implicit_lambda% (hK _ ?_); clear hK K)
      | (apply Exists.intro
         refine ⟨fun _ => ?_, hK _ ?_⟩
         (first
             | (intro hw; obtain ⟨⟨z0, z1, z2, z3, z4, z5⟩, ⟨s0, s1, s2, s3⟩⟩ := HCl.out _ hw; go_simp; with_reducible exact ⟨rfl, rfl⟩)
             | (intro hw; obtain ⟨⟨z0, z1, z2, z3, z4, z5⟩, ⟨s0, s1, s2, s3⟩⟩ := HCl.out _ hw; go_simp; with_reducible rfl)
             | (intro _; with_reducible rfl)
             | (intro hw; go_simp; with_reducible exact ⟨rfl, rfl⟩)
             | (intro hw; go_simp; with_reducible exact rfl))
         clear hK K))
    refine wpQuiet_nil ?_
    intro w8 hb8
    have hs8 := q01 HS1.out hb8 (q00 HS1.out)
    have HS8 := qh hs8
    have HB8 := qh (HB1.out.trans (hb8.mono HB1.out.size))
    obtain ⟨⟨z0, z1, z2, z3, z4, z5⟩, _⟩ := HCl.out _ hb8
    obtain ⟨q0, q1, q2, q3⟩ := q3y hs8
    have f1 := q02 hs8 1
    have f3 := q02 hs8 3
    clear hb8 hs8
    go_wp2_with fail
    refine bodyPost_end (v := .tuple #[]) (by simp [results, Tryz.results194]) rfl ?_
    refine ⟨rfl, ?_, (MutM.of HB8.out g).trans ((MutM.set w8 g 3 _).trans (MutM.set _ g 1 _))⟩
    rw [q1n (q1n HS8.out 3 _) 1 _]
    rfl
  | true =>
    by_cases hlt : xf < sf
    · have d1 : decide ((xf : Int) < (sf : Int)) = true := by rw [decide_eq_true_iff]; omega
      have d2 : decide (xf < sf) = true := by rw [decide_eq_true_iff]; omega
      rw [d2]
      simp only [Bool.or_true, if_true]
      clear hlt
      go_enter Tryz.func194, Tryz.ntmps194
      go_upto_region 1 with fail
      rw [HW1.out]
      clear HW1
      refine q04 (C := fun W => Below w1.heap.size w1 W) (by kernel_rfl) (by kernel_rfl) ((Below.refl _ _).drew) ?_
      repeat (
        refine no_implicit_lambda% (wpQuiet_step ?_)
        intro K hK
        go_simp
        first
        | (refine no_implicit_lambda% (hK _ ?_); clear hK K)
        | (apply Exists.intro
           refine ⟨fun _ => ?_, hK _ ?_⟩
           (first
               | (intro hw; obtain ⟨⟨z0, z1, z2, z3, z4, z5⟩, ⟨s0, s1, s2, s3⟩⟩ := HCl.out _ hw; go_simp; with_reducible exact ⟨rfl, rfl⟩)
               | (intro hw; obtain ⟨⟨z0, z1, z2, z3, z4, z5⟩, ⟨s0, s1, s2, s3⟩⟩ := HCl.out _ hw; go_simp; with_reducible rfl)
               | (intro _; with_reducible rfl)
               | (intro hw; go_simp; with_reducible exact ⟨rfl, rfl⟩)
               | (intro hw; go_simp; with_reducible exact rfl))
           clear hK K))
      refine wpQuiet_nil ?_
      intro w8 hb8
      have hs8 := q01 HS1.out hb8 (q00 HS1.out)
      have HS8 := qh hs8
      have HB8 := qh (HB1.out.trans (hb8.mono HB1.out.size))
      obtain ⟨⟨z0, z1, z2, z3, z4, z5⟩, _⟩ := HCl.out _ hb8
      obtain ⟨q0, q1, q2, q3⟩ := q3y hs8
      have f1 := q02 hs8 1
      have f3 := q02 hs8 3
      clear hb8 hs8
      go_wp2_with fail
      refine bodyPost_end (v := .tuple #[]) (by simp [results, Tryz.results194]) rfl ?_
      refine ⟨rfl, ?_, (MutM.of HB8.out g).trans ((MutM.set w8 g 3 _).trans (MutM.set _ g 1 _))⟩
      rw [q1n (q1n HS8.out 3 _) 1 _]
      rfl
    · have d1 : decide ((xf : Int) < (sf : Int)) = false := by rw [decide_eq_false_iff_not]; omega
      have d2 : decide (xf < sf) = false := by rw [decide_eq_false_iff_not]; omega
      rw [d2]
      simp only [Bool.not_true, Bool.or_false, Bool.false_eq_true, if_false]
      clear hlt
      go_enter Tryz.func194, Tryz.ntmps194
      go_upto_region 1 with fail
      rw [HW1.out]
      clear HW1
      refine q04 (C := fun W => Below w1.heap.size w1 W) (by kernel_rfl) (by kernel_rfl) ((Below.refl _ _).drew) ?_
      repeat (
        refine no_implicit_lambda% (wpQuiet_step ?_)
        intro K hK
        go_simp
        first
        | (refine no_implicit_lambda% (hK _ ?_); clear hK K)
        | (apply Exists.intro
           refine ⟨fun _ => ?_, hK _ ?_⟩
           (first
               | (intro hw; obtain ⟨⟨z0, z1, z2, z3, z4, z5⟩, ⟨s0, s1, s2, s3⟩⟩ := HCl.out _ hw; go_simp; with_reducible exact ⟨rfl, rfl⟩)
               | (intro hw; obtain ⟨⟨z0, z1, z2, z3, z4, z5⟩, ⟨s0, s1, s2, s3⟩⟩ := HCl.out _ hw; go_simp; with_reducible rfl)
               | (intro _; with_reducible rfl)
               | (intro hw; go_simp; with_reducible exact ⟨rfl, rfl⟩)
               | (intro hw; go_simp; with_reducible exact rfl))
           clear hK K))
      refine wpQuiet_nil ?_
      intro w8 hb8
      have hs8 := q01 HS1.out hb8 (q00 HS1.out)
      have HS8 := qh hs8
      have HB8 := qh (HB1.out.trans (hb8.mono HB1.out.size))
      obtain ⟨⟨z0, z1, z2, z3, z4, z5⟩, _⟩ := HCl.out _ hb8
      obtain ⟨q0, q1, q2, q3⟩ := q3y hs8
      have f1 := q02 hs8 1
      have f3 := q02 hs8 3
      clear hb8 hs8
      go_wp2_with fail
      refine bodyPost_end (v := .tuple #[]) (by simp [results, Tryz.results194]) rfl ?_
      refine ⟨rfl, ?_, (MutM.of HB8.out g).trans (MutM.set w8 g 1 _)⟩
      rw [q1n HS8.out 1 _]
      rfl
theorem q53 (s : q2t) (g : Nat) (w : World) (hs : q1H w g s) (hr : s.reach < 18446744073709551616) (hf : s.first < 18446744073709551616) :
    Calls Tryz.prog 195 #[.pointer (some ⟨g, 0, none⟩)] w fun r w' => r = .returned (.bool (q1B s)) ∧ Below w.heap.size w w' := by
  obtain ⟨sa, sb, sr, sf⟩ := s
  have HS := qh (show w.heap[g]? = some (.cells #[.bool sa, .bool sb, .int .u64 sr, .int .u64 sf] 239 (0, 0)) from hs)
  clear hs
  simp only at hr hf
  have HCl := qh (fun (W : World) (h : Below w.heap.size w W) => q3y (q01 HS.out h (q00 HS.out)))
  unfold q1B
  simp only
  cases sa with
  | false =>
    rw [Bool.false_and, Bool.false_and]
    go_enter Tryz.func195, Tryz.ntmps195
    go_upto_region 1 with fail
    refine q04 (C := fun W => Below w.heap.size w W) (by kernel_rfl) (by kernel_rfl) ((Below.refl _ _).drew) ?_
    repeat (
      refine no_implicit_lambda% (wpQuiet_step ?_)
      intro K hK
      go_simp
      first
      | (refine no_implicit_lambda% (hK _ ?_); clear hK K)
      | (apply Exists.intro
         refine ⟨fun _ => ?_, hK _ ?_⟩
         (first
             | (intro hw; obtain ⟨s0, s1, s2, s3⟩ := HCl.out _ hw; go_simp; with_reducible exact ⟨rfl, rfl⟩)
             | (intro hw; obtain ⟨s0, s1, s2, s3⟩ := HCl.out _ hw; go_simp; with_reducible rfl)
             | (intro _; with_reducible rfl)
             | (intro hw; go_simp; with_reducible exact ⟨rfl, rfl⟩)
             | (intro hw; go_simp; with_reducible exact rfl))
         clear hK K))
    refine wpQuiet_nil ?_
    intro w8 hb8
    go_wp2_with fail
    go_ret
    exact ⟨rfl, hb8⟩
  | true =>
    cases sb with
    | false =>
      rw [Bool.and_false, Bool.false_and]
      go_enter Tryz.func195, Tryz.ntmps195
      go_upto_region 1 with fail
      refine q04 (C := fun W => Below w.heap.size w W) (by kernel_rfl) (by kernel_rfl) ((Below.refl _ _).drew) ?_
      repeat (
        refine no_implicit_lambda% (wpQuiet_step ?_)
        intro K hK
        go_simp
        first
        | (refine no_implicit_lambda% (hK _ ?_); clear hK K)
        | (apply Exists.intro
           refine ⟨fun _ => ?_, hK _ ?_⟩
           (first
               | (intro hw; obtain ⟨s0, s1, s2, s3⟩ := HCl.out _ hw; go_simp; with_reducible exact ⟨rfl, rfl⟩)
               | (intro hw; obtain ⟨s0, s1, s2, s3⟩ := HCl.out _ hw; go_simp; with_reducible rfl)
               | (intro _; with_reducible rfl)
               | (intro hw; go_simp; with_reducible exact ⟨rfl, rfl⟩)
               | (intro hw; go_simp; with_reducible exact rfl))
           clear hK K))
      refine wpQuiet_nil ?_
      intro w8 hb8
      go_wp2_with fail
      go_ret
      exact ⟨rfl, hb8⟩
    | true =>
      rw [Bool.and_true, Bool.true_and]
      by_cases hlt : sf ≤ sr
      · have d1 : decide ((sf : Int) ≤ (sr : Int)) = true := by rw [decide_eq_true_iff]; omega
        have d2 : decide (sf ≤ sr) = true := by rw [decide_eq_true_iff]; omega
        rw [d2]
        clear hlt
        go_enter Tryz.func195, Tryz.ntmps195
        go_upto_region 1 with fail
        refine q04 (C := fun W => Below w.heap.size w W) (by kernel_rfl) (by kernel_rfl) ((Below.refl _ _).drew) ?_
        repeat (
          refine no_implicit_lambda% (wpQuiet_step ?_)
          intro K hK
          go_simp
          first
          | (refine no_implicit_lambda% (hK _ ?_); clear hK K)
          | (apply Exists.intro
             refine ⟨fun _ => ?_, hK _ ?_⟩
             (first
                 | (intro hw; obtain ⟨s0, s1, s2, s3⟩ := HCl.out _ hw; go_simp; with_reducible exact ⟨rfl, rfl⟩)
                 | (intro hw; obtain ⟨s0, s1, s2, s3⟩ := HCl.out _ hw; go_simp; with_reducible rfl)
                 | (intro _; with_reducible rfl)
                 | (intro hw; go_simp; with_reducible exact ⟨rfl, rfl⟩)
                 | (intro hw; go_simp; with_reducible exact rfl))
             clear hK K))
        refine wpQuiet_nil ?_
        intro w8 hb8
        go_wp2_with fail
        go_ret
        exact ⟨rfl, hb8⟩
      · have d1 : decide ((sf : Int) ≤ (sr : Int)) = false := by rw [decide_eq_false_iff_not]; omega
        have d2 : decide (sf ≤ sr) = false := by rw [decide_eq_false_iff_not]; omega
        rw [d2]
        clear hlt
        go_enter Tryz.func195, Tryz.ntmps195
        go_upto_region 1 with fail
        refine q04 (C := fun W => Below w.heap.size w W) (by kernel_rfl) (by kernel_rfl) ((Below.refl _ _).drew) ?_
        repeat (
          refine no_implicit_lambda% (wpQuiet_step ?_)
          intro K hK
          go_simp
          first
          | (refine no_implicit_lambda% (hK _ ?_); clear hK K)
          | (apply Exists.intro
             refine ⟨fun _ => ?_, hK _ ?_⟩
             (first
                 | (intro hw; obtain ⟨s0, s1, s2, s3⟩ := HCl.out _ hw; go_simp; with_reducible exact ⟨rfl, rfl⟩)
                 | (intro hw; obtain ⟨s0, s1, s2, s3⟩ := HCl.out _ hw; go_simp; with_reducible rfl)
                 | (intro _; with_reducible rfl)
                 | (intro hw; go_simp; with_reducible exact ⟨rfl, rfl⟩)
                 | (intro hw; go_simp; with_reducible exact rfl))
             clear hK K))
        refine wpQuiet_nil ?_
        intro w8 hb8
        go_wp2_with fail
        go_ret
        exact ⟨rfl, hb8⟩
open Go.RowKit
def q56 (t r : RecS) : Nat := (if q1h t r = true then 1 else 0) + (if q1I t r = true then 2 else 0)
theorem qdq {t r : RecS} (h : ¬ t.began < r.last) : q56 t r = 0 := by
 unfold q56 q1h q1I
 rw [decide_eq_false h]
 rfl
theorem qdr {t r : RecS} (h : t.began < r.last) : q56 t r = (if q28 r.reads t.writes = true then 1 else 0) + (if q28 t.reads r.writes = true then 2 else 0) := by
 unfold q56 q1h q1I
 rw [decide_eq_true h, Bool.true_and, Bool.true_and]
theorem qfy (K : q9u) (x : MR) (tf tl tb to_ : Nat) (tr tw : List Sp) (tA tB : Option Addr) (tc td : Nat) (lv : Int) (p : Nat) (w : World) (hox : okR x.r) (hx : OkMR w w.heap.size x) (hot : tr.length ≤ 1000 ∧ tw.length ≤ 1000) (htb : tb < 18446744073709551616)
  (htr : ChI w w.heap.size tA tc tr) (htw : ChI w w.heap.size tB td tw) (hp : w.heap[p]? = some (.cells #[.int .u64 tf, .int .u64 lv, .int .u64 tb, .int .u64 to_, .slice tA tr.length tc, .slice tB tw.length td] 86 (0, 0))) :
  Calls Tryz.prog 191 #[q0u x, .pointer (some ⟨p, 0, none⟩)] w fun r w' => r = .returned (.int .i64 (q56 ⟨tf, tl, tb, to_, tr, tw⟩ x.r : Nat)) ∧ Below w.heap.size w w' := by
 have hxl := hx.last
 obtain ⟨⟨xf, xl, xb, xo, xr, xw⟩, xA, xc, xB, xd⟩ := x
 unfold q0u
 simp only at hox hxl
 obtain ⟨w1, hw1⟩ : ∃ y, w.alloc (.cells #[.int .u64 xf, .int .u64 xl, .int .u64 xb, .int .u64 xo, .slice xA xr.length xc, .slice xB xw.length xd] 86) = y := ⟨_, rfl⟩
 have hb1 : Below w.heap.size w w1 := by rw [← hw1]; exact (Below.refl _ w).alloc (Nat.le_refl _) _
 have hx1 : w1.heap[w.heap.size]? = some (.cells #[.int .u64 xf, .int .u64 xl, .int .u64 xb, .int .u64 xo, .slice xA xr.length xc, .slice xB xw.length xd] 86 (0, 0)) := by rw [← hw1]; exact heap_alloc_new w _
 have hp1 : w1.heap[p]? = some (.cells #[.int .u64 tf, .int .u64 lv, .int .u64 tb, .int .u64 to_, .slice tA tr.length tc, .slice tB tw.length td] 86 (0, 0)) := q01 hp hb1 (q00 hp)
 have HB1 := qh hb1
 have HW1 := qh hw1
 have HCl := qh (fun (W : World) (h : Below w1.heap.size w1 W) => And.intro (q0O (q01 hx1 h (q00 hx1))) (q0O (q01 hp1 h (q00 hp1))))
 have HM1 := qh (fun (W : World) (h : Below w1.heap.size w1 W) => (K.meet xr tw xA tB xc td W hox.1 hot.2 ((hx.reads.below hb1 (Nat.le_refl _) hb1.size).below h (Nat.le_refl _) h.size) ((htw.below hb1 (Nat.le_refl _) hb1.size).below h (Nat.le_refl _) h.size)).mono fun r w' (q : r = .returned (.bool (q28 xr tw)) ∧ Below W.heap.size W w') => (⟨q.1, h.trans (q.2.mono h.size)⟩ : r = .returned (.bool (q28 xr tw)) ∧ Below w1.heap.size w1 w'))
 have HM2 := qh (fun (W : World) (h : Below w1.heap.size w1 W) => (K.meet tr xw tA xB tc xd W hot.1 hox.2 ((htr.below hb1 (Nat.le_refl _) hb1.size).below h (Nat.le_refl _) h.size) ((hx.writes.below hb1 (Nat.le_refl _) hb1.size).below h (Nat.le_refl _) h.size)).mono fun r w' (q : r = .returned (.bool (q28 tr xw)) ∧ Below W.heap.size W w') => (⟨q.1, h.trans (q.2.mono h.size)⟩ : r = .returned (.bool (q28 tr xw)) ∧ Below w1.heap.size w1 w'))
 clear hb1 hw1 hx1 hp1 hx hp htr htw hox hot
 by_cases hlt : tb < xl
 ·have d1 : decide ((xl : Int) ≤ (tb : Int)) = false := by rw [decide_eq_false_iff_not]; omega
  have d2 : decide (xl ≤ tb) = false := by rw [decide_eq_false_iff_not]; omega
  rw [qdr (t := ⟨tf, tl, tb, to_, tr, tw⟩) (r := ⟨xf, xl, xb, xo, xr, xw⟩) hlt]
  simp only
  generalize q28 xr tw = m1 at *
  generalize q28 tr xw = m2 at *
  clear hlt
  go_enter Tryz.func191, Tryz.ntmps191
  go_upto_region 1 with fail
  rw [HW1.out]
  clear HW1
  obtain ⟨⟨z0, z1, z2, z3, z4, z5⟩, ⟨s0, s1, s2, s3, s4, s5⟩⟩ := HCl.out _ (Below.refl _ _)
  go_wp2_with fail
  refine (HM1.out _ (Below.refl _ _)).mono ?_
  rintro r w2 ⟨rfl, hb2⟩
  clear z0 z1 z2 z3 z4 z5 s0 s1 s2 s3 s4 s5
  obtain ⟨⟨z0, z1, z2, z3, z4, z5⟩, ⟨s0, s1, s2, s3, s4, s5⟩⟩ := HCl.out _ hb2
  have HC2 := qh (HM2.out _ hb2)
  clear HM1 HM2 hb2
  cases m1
  all_goals
   go_wp2_with fail
   refine HC2.out.mono ?_
   rintro r w3 ⟨rfl, hb3⟩
   have HB3 := qh (HB1.out.trans (hb3.mono HB1.out.size))
   clear z0 z1 z2 z3 z4 z5 s0 s1 s2 s3 s4 s5 hb3
   cases m2
   all_goals
    go_wp2_with fail
    go_ret
    exact ⟨rfl, HB3.out⟩
 ·have d1 : decide ((xl : Int) ≤ (tb : Int)) = true := by rw [decide_eq_true_iff]; omega
  have d2 : decide (xl ≤ tb) = true := by rw [decide_eq_true_iff]; omega
  rw [qdq (t := ⟨tf, tl, tb, to_, tr, tw⟩) (r := ⟨xf, xl, xb, xo, xr, xw⟩) hlt]
  clear hlt
  go_enter Tryz.func191, Tryz.ntmps191
  go_upto_region 1 with fail
  rw [HW1.out]
  clear HW1
  obtain ⟨⟨z0, z1, z2, z3, z4, z5⟩, ⟨s0, s1, s2, s3, s4, s5⟩⟩ := HCl.out _ (Below.refl _ _)
  go_wp2_with fail
  go_ret
  exact ⟨rfl, HB1.out⟩
end Go.Proofs.YtdpbllacfljmoaaGreat
