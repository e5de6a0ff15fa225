import Derived.Test.YtdpbllacfljmoaaGreatZF28
import Derived.Lib.MinMax
import Derived.Deep.DeepCutAuto
import Derived.Test.YtdpbllacfljmoaaGreatZF11
import Derived.Test.YtdpbllacfljmoaaGreatZF31
set_option maxRecDepth 100000
set_option maxHeartbeats 16000000
set_option linter.unusedVariables false
namespace Go.Proofs.YtdpbllacfljmoaaGreat
open Go.RowKit
structure FrMR (w : World) (lo hi : Nat) (x : MR) : Prop where
 ok : OkMR w hi x
 reads : RowG q07 w lo hi x.A x.r.reads
 writes : RowG q07 w lo hi x.B x.r.writes
def qfO (m : RecS) (w : World) (r : Ending) (w' : World) : Prop := ∃ x : MR, x.r = m ∧ r = .returned (q0u x) ∧ FrMR w' w.heap.size w'.heap.size x ∧ Below w.heap.size w w'
section
variable {w w' : World}
theorem FrMR.retOne {m : RecS} {r : Ending} (h : qfO m w r w') : qcm m w r w' := by
 obtain ⟨x, e, hr, hf, hb⟩ := h
 exact ⟨x, e, hr, hf.ok, hb⟩
end
theorem ChF.set6f {w : World} {b : Nat} {A : Option Addr} {c : Nat} {l : List Sp} {v0 v1 v2 v3 v4 v5 : Value} {lo hi : Nat} (h : ChF w lo hi A c l) (hs : ∀ o s, w.cell? ⟨b, o, none⟩ ≠ some (.string s)) : ChF (Go.Proofs.YtdpbllacfljmoaaGreat.set6 w b v0 v1 v2 v3 v4 v5) lo hi A c l := by
 refine ⟨h.1, h.2.1, h.2.2.1, fun hn => ?_⟩
 have h0 := (h.ch.set6z (v0 := v0) (v1 := v1) (v2 := v2) (v3 := v3) (v4 := v4) (v5 := v5) hs).2.2.2 hn
 obtain ⟨b1, o1, e1, k1, k2, _⟩ := h.2.2.2 hn
 obtain ⟨b2, o2, e2, _, _, k5⟩ := h0
 rw [e1] at e2
 injection e2 with e2
 injection e2 with e3 e4
 subst e3 e4
 exact ⟨b1, o1, e1, k1, k2, k5⟩
theorem FrMR.set6f {w : World} {b : Nat} {x : MR} {v0 v1 v2 v3 v4 v5 : Value} {lo hi : Nat} (h : FrMR w lo hi x) (hs : ∀ o s, w.cell? ⟨b, o, none⟩ ≠ some (.string s)) : FrMR (Go.Proofs.YtdpbllacfljmoaaGreat.set6 w b v0 v1 v2 v3 v4 v5) lo hi x :=
 ⟨⟨h.ok.first, h.ok.last, h.ok.began, h.ok.out, h.ok.reads.set6z hs, h.ok.writes.set6z hs⟩, (ChF.set6f (w := w) (b := b) ⟨h.ok.reads.1, h.ok.reads.2.1, h.ok.reads.2.2.1, h.reads⟩ hs).2.2.2, (ChF.set6f (w := w) (b := b) ⟨h.ok.writes.1, h.ok.writes.2.1, h.ok.writes.2.2.1, h.writes⟩ hs).2.2.2⟩
theorem q74 (K : q9u) (x y : MR) (n : Int) (w : World) (hl1 : x.r.reads.length + y.r.reads.length ≤ 1000) (hl2 : x.r.writes.length + y.r.writes.length ≤ 1000) (hn1 : -9223372036854775808 ≤ n) (hn2 : n ≤ 9223372036854775807) (hx : OkMR w w.heap.size x) (hy : OkMR w w.heap.size y) :
  Calls Tryz.prog 202 #[q0u x, q0u y, .int .i64 n] w (qfO (q2B (jI n) x.r y.r) w) := by
 obtain ⟨⟨xf, xl, xb, xo, xr, xw⟩, xA, xc, xB, xd⟩ := x
 obtain ⟨⟨yf, yl, yb, yo, yr, yw⟩, yA, yc, yB, yd⟩ := y
 unfold q0u
 have HX := qh hx
 have HY := qh hy
 have HL1 := qh hl1
 have HL2 := qh hl2
 have HN1 := qh hn1
 have HN2 := qh hn2
 clear hx hy hl1 hl2 hn1 hn2
 simp only at HX HY HL1 HL2
 have HJ1 := qh (show (q0a (xr ++ yr)).length ≤ 1000 from Nat.le_trans (q1u _) (by rw [List.length_append]; exact HL1.out))
 have HJ2 := qh (show (q0a (xw ++ yw)).length ≤ 1000 from Nat.le_trans (q1u _) (by rw [List.length_append]; exact HL2.out))
 go_enter Tryz.func202, Tryz.ntmps202
 go_upto_region 1 with fail
 obtain ⟨w1, hw1⟩ : ∃ y, ((w.alloc (.cells #[.int .u64 xf, .int .u64 xl, .int .u64 xb, .int .u64 xo, .slice xA xr.length xc, .slice xB xw.length xd] 86)).alloc (.cells #[.int .u64 yf, .int .u64 yl, .int .u64 yb, .int .u64 yo, .slice yA yr.length yc, .slice yB yw.length yd] 86)).alloc (.cells #[.int .u64 0, .int .u64 0, .int .u64 0, .int .u64 0, .slice none 0 0, .slice none 0 0] 86) = y := ⟨_, rfl⟩
 rw [hw1]
 have hb1 : Below w.heap.size w w1 := by rw [← hw1]; exact (((Below.refl _ w).alloc (Nat.le_refl _) _).alloc (by simp) _).alloc (by simp; omega) _
 have hx1 : w1.heap[w.heap.size]? = some (.cells #[.int .u64 xf, .int .u64 xl, .int .u64 xb, .int .u64 xo, .slice xA xr.length xc, .slice xB xw.length xd] 86 (0, 0)) := by rw [← hw1]; exact q0G (q0G (heap_alloc_new w _) _) _
 have hx2 : w1.heap[w.heap.size + 1]? = some (.cells #[.int .u64 yf, .int .u64 yl, .int .u64 yb, .int .u64 yo, .slice yA yr.length yc, .slice yB yw.length yd] 86 (0, 0)) := by rw [← hw1]; exact q0G (q23 w _ _) _
 have hx3 : Box6 w1 (w.heap.size + 2) 86 := by
  rw [← hw1]
  have h := Box6.new ((w.alloc (.cells #[.int .u64 xf, .int .u64 xl, .int .u64 xb, .int .u64 xo, .slice xA xr.length xc, .slice xB xw.length xd] 86)).alloc (.cells #[.int .u64 yf, .int .u64 yl, .int .u64 yb, .int .u64 yo, .slice yA yr.length yc, .slice yB yw.length yd] 86)) (.int .u64 0) (.int .u64 0) (.int .u64 0) (.int .u64 0) (.slice none 0 0) (.slice none 0 0) 86
  rwa [show ((w.alloc (.cells #[.int .u64 xf, .int .u64 xl, .int .u64 xb, .int .u64 xo, .slice xA xr.length xc, .slice xB xw.length xd] 86)).alloc (.cells #[.int .u64 yf, .int .u64 yl, .int .u64 yb, .int .u64 yo, .slice yA yr.length yc, .slice yB yw.length yd] 86)).heap.size = w.heap.size + 2 from by simp] at h
 have hz3 : w1.heap[w.heap.size + 2]? = some (.cells #[.int .u64 0, .int .u64 0, .int .u64 0, .int .u64 0, .slice none 0 0, .slice none 0 0] 86 (0, 0)) := by
  rw [← hw1]
  have h := heap_alloc_new ((w.alloc (.cells #[.int .u64 xf, .int .u64 xl, .int .u64 xb, .int .u64 xo, .slice xA xr.length xc, .slice xB xw.length xd] 86)).alloc (.cells #[.int .u64 yf, .int .u64 yl, .int .u64 yb, .int .u64 yo, .slice yA yr.length yc, .slice yB yw.length yd] 86)) (.cells #[.int .u64 0, .int .u64 0, .int .u64 0, .int .u64 0, .slice none 0 0, .slice none 0 0] 86)
  rwa [show ((w.alloc (.cells #[.int .u64 xf, .int .u64 xl, .int .u64 xb, .int .u64 xo, .slice xA xr.length xc, .slice xB xw.length xd] 86)).alloc (.cells #[.int .u64 yf, .int .u64 yl, .int .u64 yb, .int .u64 yo, .slice yA yr.length yc, .slice yB yw.length yd] 86)).heap.size = w.heap.size + 2 from by simp] at h
 clear hw1
 have HB1 := qh hb1
 have HX3 := qh hx3
 have HZ := qh hz3
 have HCl := qh (fun (W : World) (h : Below w1.heap.size w1 W) => And.intro (q0O (q01 hx1 h (q00 hx1))) (q0O (q01 hx2 h (q00 hx2))))
 have HXr := qh (fun (W : World) (h : Below w1.heap.size w1 W) => ((HX.out.reads.below hb1 (Nat.le_refl _) hb1.size).below h (Nat.le_refl _) h.size : ChI W W.heap.size xA xc xr))
 have HXw := qh (fun (W : World) (h : Below w1.heap.size w1 W) => ((HX.out.writes.below hb1 (Nat.le_refl _) hb1.size).below h (Nat.le_refl _) h.size : ChI W W.heap.size xB xd xw))
 have HYr := qh (fun (W : World) (h : Below w1.heap.size w1 W) => ((HY.out.reads.below hb1 (Nat.le_refl _) hb1.size).below h (Nat.le_refl _) h.size : ChI W W.heap.size yA yc yr))
 have HYw := qh (fun (W : World) (h : Below w1.heap.size w1 W) => ((HY.out.writes.below hb1 (Nat.le_refl _) hb1.size).below h (Nat.le_refl _) h.size : ChI W W.heap.size yB yd yw))
 have HP := qh (And.intro (And.intro HX.out.first (And.intro HX.out.last (And.intro HX.out.began HX.out.out))) (And.intro HY.out.first (And.intro HY.out.last (And.intro HY.out.began HY.out.out))))
 have ho1 := HX.out.out
 have ho2 := HY.out.out
 simp only at ho1 ho2
 have C1 : Hid (∀ (W : World), Below w1.heap.size w1 W → Calls Tryz.prog 244 #[.int .u64 xo, .int .u64 yo] W fun r w' => r = .returned (.int .u64 (q3t xo yo : Nat)) ∧ Below w1.heap.size w1 w') :=
  qh fun W h => (q9T xo yo W ho1 ho2).mono fun _ _ q => ⟨q.1, h.trans (q.2.mono h.size)⟩
 have C2 : Hid (∀ (W : World), Below w1.heap.size w1 W → Calls Tryz.prog 245 #[.slice xA xr.length xc, .slice yA yr.length yc] W fun r w' => ∃ A5 c5, r = .returned (.slice A5 (q0a (xr ++ yr)).length c5) ∧ ChI w' w'.heap.size A5 c5 (q0a (xr ++ yr)) ∧ Below w1.heap.size w1 w') :=
  qh fun W h => (K.join xr yr xA yA xc yc W (by have := HL1.out; unfold okI; omega) (by have := HL1.out; unfold okI; omega) (HXr.out W h) (HYr.out W h)).mono fun _ _ ⟨A5, c5, e, h5, q⟩ => ⟨A5, c5, e, h5, h.trans (q.mono h.size)⟩
 have C3 : Hid (∀ (A5 : Option Addr) (c5 : Nat) (W : World), ChI W W.heap.size A5 c5 (q0a (xr ++ yr)) → Below w1.heap.size w1 W → Calls Tryz.prog 121 #[.slice A5 (q0a (xr ++ yr)).length c5, .int .i64 n] W fun r w' => ∃ A6 c6, r = .returned (.slice A6 (jI n xr yr).length c6) ∧ ChF w' w1.heap.size w'.heap.size A6 c6 (jI n xr yr) ∧ Below w1.heap.size w1 w') :=
  qh fun A5 c5 W h5 h => by
   have q := q3x (q0a (xr ++ yr)) A5 c5 n W HJ1.out HN1.out HN2.out h5
   rw [q7d] at q
   exact q.mono fun _ _ ⟨A6, c6, e, h6, q⟩ => ⟨A6, c6, e, h6.lower h.size, h.trans (q.mono h.size)⟩
 have C4 : Hid (∀ (A6 : Option Addr) (c6 : Nat) (W : World), ChF W w1.heap.size W.heap.size A6 c6 (jI n xr yr) → Below w1.heap.size w1 W → Calls Tryz.prog 245 #[.slice xB xw.length xd, .slice yB yw.length yd] W fun r w' => ∃ A7 c7, r = .returned (.slice A7 (q0a (xw ++ yw)).length c7) ∧ ChI w' w'.heap.size A7 c7 (q0a (xw ++ yw)) ∧ ChF w' w1.heap.size w'.heap.size A6 c6 (jI n xr yr) ∧ Below w1.heap.size w1 w') :=
  qh fun A6 c6 W h6 h => (K.join xw yw xB yB xd yd W (by have := HL2.out; unfold okI; omega) (by have := HL2.out; unfold okI; omega) (HXw.out W h) (HYw.out W h)).mono fun _ _ ⟨A7, c7, e, h7, q⟩ => ⟨A7, c7, e, h7, h6.below q (Nat.le_refl _) q.size, h.trans (q.mono h.size)⟩
 have C5 : Hid (∀ (A5 A6 : Option Addr) (c5 c6 : Nat) (W : World), ChI W W.heap.size A5 c5 (q0a (xw ++ yw)) → ChF W w1.heap.size W.heap.size A6 c6 (jI n xr yr) → Below w1.heap.size w1 W → Calls Tryz.prog 121 #[.slice A5 (q0a (xw ++ yw)).length c5, .int .i64 n] W fun r w' => ∃ A8 c8, r = .returned (.slice A8 (jI n xw yw).length c8) ∧ ChF w' w1.heap.size w'.heap.size A8 c8 (jI n xw yw) ∧ ChF w' w1.heap.size w'.heap.size A6 c6 (jI n xr yr) ∧ Below w1.heap.size w1 w') :=
  qh fun A5 A6 c5 c6 W h5 h6 h => by
   have q := q3x (q0a (xw ++ yw)) A5 c5 n W HJ2.out HN1.out HN2.out h5
   rw [q7d] at q
   exact q.mono fun _ _ ⟨A8, c8, e, h8, q⟩ => ⟨A8, c8, e, h8.lower h.size, h6.below q (Nat.le_refl _) q.size, h.trans (q.mono h.size)⟩
 obtain ⟨S, hS1, hS2, hS3⟩ : ∃ S : World → Prop, (∀ W : World, Below w1.heap.size w1 W → S W) ∧ (∀ (W : World) (v0 v1 v2 v3 v4 v5 : Value), Below w1.heap.size w1 W → S (set6 W (w.heap.size + 2) v0 v1 v2 v3 v4 v5)) ∧ ∀ W : World, S W → W.cell? ⟨w.heap.size, 0, none⟩ = some (.int .u64 xf) ∧ W.cell? ⟨w.heap.size, 1, none⟩ = some (.int .u64 xl) ∧ W.cell? ⟨w.heap.size, 2, none⟩ = some (.int .u64 xb) ∧ W.cell? ⟨w.heap.size, 3, none⟩ = some (.int .u64 xo) ∧ W.cell? ⟨w.heap.size, 4, none⟩ = some (.slice xA xr.length xc) ∧ W.cell? ⟨w.heap.size, 5, none⟩ = some (.slice xB xw.length xd) ∧ W.cell? ⟨w.heap.size + 1, 0, none⟩ = some (.int .u64 yf) ∧ W.cell? ⟨w.heap.size + 1, 1, none⟩ = some (.int .u64 yl) ∧ W.cell? ⟨w.heap.size + 1, 2, none⟩ = some (.int .u64 yb) ∧ W.cell? ⟨w.heap.size + 1, 3, none⟩ = some (.int .u64 yo) ∧ W.cell? ⟨w.heap.size + 1, 4, none⟩ = some (.slice yA yr.length yc) ∧ W.cell? ⟨w.heap.size + 1, 5, none⟩ = some (.slice yB yw.length yd) := by
  refine ⟨fun W => W.cell? ⟨w.heap.size, 0, none⟩ = some (.int .u64 xf) ∧ W.cell? ⟨w.heap.size, 1, none⟩ = some (.int .u64 xl) ∧ W.cell? ⟨w.heap.size, 2, none⟩ = some (.int .u64 xb) ∧ W.cell? ⟨w.heap.size, 3, none⟩ = some (.int .u64 xo) ∧ W.cell? ⟨w.heap.size, 4, none⟩ = some (.slice xA xr.length xc) ∧ W.cell? ⟨w.heap.size, 5, none⟩ = some (.slice xB xw.length xd) ∧ W.cell? ⟨w.heap.size + 1, 0, none⟩ = some (.int .u64 yf) ∧ W.cell? ⟨w.heap.size + 1, 1, none⟩ = some (.int .u64 yl) ∧ W.cell? ⟨w.heap.size + 1, 2, none⟩ = some (.int .u64 yb) ∧ W.cell? ⟨w.heap.size + 1, 3, none⟩ = some (.int .u64 yo) ∧ W.cell? ⟨w.heap.size + 1, 4, none⟩ = some (.slice yA yr.length yc) ∧ W.cell? ⟨w.heap.size + 1, 5, none⟩ = some (.slice yB yw.length yd), fun W h => ?_, fun W v0 v1 v2 v3 v4 v5 h => ?_, fun _ h => h⟩
  ·obtain ⟨⟨z0, z1, z2, z3, z4, z5⟩, ⟨y0, y1, y2, y3, y4, y5⟩⟩ := HCl.out W h
   exact ⟨z0, z1, z2, z3, z4, z5, y0, y1, y2, y3, y4, y5⟩
  ·obtain ⟨⟨z0, z1, z2, z3, z4, z5⟩, ⟨y0, y1, y2, y3, y4, y5⟩⟩ := HCl.out W h
   have f0 := fun o => cell_far (q4L (w := W) (b := w.heap.size + 2) (g := w.heap.size) (v0 := v0) (v1 := v1) (v2 := v2) (v3 := v3) (v4 := v4) (v5 := v5) (by omega)) o
   have f1 := fun o => cell_far (q4L (w := W) (b := w.heap.size + 2) (g := w.heap.size + 1) (v0 := v0) (v1 := v1) (v2 := v2) (v3 := v3) (v4 := v4) (v5 := v5) (by omega)) o
   exact ⟨(f0 _).trans z0, (f0 _).trans z1, (f0 _).trans z2, (f0 _).trans z3, (f0 _).trans z4, (f0 _).trans z5, (f1 _).trans y0, (f1 _).trans y1, (f1 _).trans y2, (f1 _).trans y3, (f1 _).trans y4, (f1 _).trans y5⟩
 have HKp := qh hS1
 have HKs := qh hS2
 have HRd := qh hS3
 clear hb1 hx1 hx2 hx3 hz3 ho1 ho2 hS1 hS2 hS3 HCl
 refine wp_region_held_drew (S := S) (by kernel_rfl) ?_ (fun hGd => ?_)
 ·exact HKp.out _ (Below.refl _ _).drew
 refine tkS (i := 0) (v := ?_) ?_
 (try simp only [Act.put, qA, qB, qC])
 refine tkH (i := 1) (v := ?_) (fun w hSw => ?_) ?_
 rotate_left
 ·obtain ⟨z0, z1, z2, z3, z4, z5, y0, y1, y2, y3, y4, y5⟩ := HRd.out _ hSw; go_simp <;> with_reducible rfl
 (try simp only [Act.put, qA, qB, qC])
 refine tkS (i := 2) (v := ?_) ?_
 (try simp only [Act.put, qA, qB, qC])
 refine tkH (i := 3) (v := ?_) (fun w hSw => ?_) ?_
 rotate_left
 ·obtain ⟨z0, z1, z2, z3, z4, z5, y0, y1, y2, y3, y4, y5⟩ := HRd.out _ hSw; go_simp <;> with_reducible rfl
 (try simp only [Act.put, qA, qB, qC])
 refine tkS (i := 4) (v := ?_) ?_
 (try simp only [Act.put, qA, qB, qC])
 refine tkS (i := 5) (v := ?_) ?_
 (try simp only [Act.put, qA, qB, qC])
 refine tkH (i := 6) (v := ?_) (fun w hSw => ?_) ?_
 rotate_left
 ·obtain ⟨z0, z1, z2, z3, z4, z5, y0, y1, y2, y3, y4, y5⟩ := HRd.out _ hSw; go_simp <;> with_reducible rfl
 (try simp only [Act.put, qA, qB, qC])
 refine tkS (i := 7) (v := ?_) ?_
 (try simp only [Act.put, qA, qB, qC])
 refine tkH (i := 8) (v := ?_) (fun w hSw => ?_) ?_
 rotate_left
 ·obtain ⟨z0, z1, z2, z3, z4, z5, y0, y1, y2, y3, y4, y5⟩ := HRd.out _ hSw; go_simp <;> with_reducible rfl
 (try simp only [Act.put, qA, qB, qC])
 refine tkS (i := 9) (v := ?_) ?_
 (try simp only [Act.put, qA, qB, qC])
 refine tkS (i := 10) (v := ?_) ?_
 (try simp only [Act.put, qA, qB, qC])
 refine tkH (i := 11) (v := ?_) (fun w hSw => ?_) ?_
 rotate_left
 ·obtain ⟨z0, z1, z2, z3, z4, z5, y0, y1, y2, y3, y4, y5⟩ := HRd.out _ hSw; go_simp <;> with_reducible rfl
 (try simp only [Act.put, qA, qB, qC])
 refine tkS (i := 12) (v := ?_) ?_
 (try simp only [Act.put, qA, qB, qC])
 refine tkH (i := 13) (v := ?_) (fun w hSw => ?_) ?_
 rotate_left
 ·obtain ⟨z0, z1, z2, z3, z4, z5, y0, y1, y2, y3, y4, y5⟩ := HRd.out _ hSw; go_simp <;> with_reducible rfl
 (try simp only [Act.put, qA, qB, qC])
 refine tkS (i := 14) (v := ?_) ?_
 (try simp only [Act.put, qA, qB, qC])
 refine tkS (i := 15) (v := ?_) ?_
 (try simp only [Act.put, qA, qB, qC])
 refine tkH (i := 16) (v := ?_) (fun w hSw => ?_) ?_
 rotate_left
 ·obtain ⟨z0, z1, z2, z3, z4, z5, y0, y1, y2, y3, y4, y5⟩ := HRd.out _ hSw; go_simp <;> with_reducible rfl
 (try simp only [Act.put, qA, qB, qC])
 refine tkS (i := 17) (v := ?_) ?_
 (try simp only [Act.put, qA, qB, qC])
 refine tkH (i := 18) (v := ?_) (fun w hSw => ?_) ?_
 rotate_left
 ·obtain ⟨z0, z1, z2, z3, z4, z5, y0, y1, y2, y3, y4, y5⟩ := HRd.out _ hSw; go_simp <;> with_reducible rfl
 (try simp only [Act.put, qA, qB, qC])
 refine tkS (i := 20) (v := ?_) ?_
 (try simp only [Act.put, qA, qB, qC])
 refine tkH (i := 21) (v := ?_) (fun w hSw => ?_) ?_
 rotate_left
 ·obtain ⟨z0, z1, z2, z3, z4, z5, y0, y1, y2, y3, y4, y5⟩ := HRd.out _ hSw; go_simp <;> with_reducible rfl
 (try simp only [Act.put, qA, qB, qC])
 refine tkS (i := 22) (v := ?_) ?_
 (try simp only [Act.put, qA, qB, qC])
 refine tkH (i := 23) (v := ?_) (fun w hSw => ?_) ?_
 rotate_left
 ·obtain ⟨z0, z1, z2, z3, z4, z5, y0, y1, y2, y3, y4, y5⟩ := HRd.out _ hSw; go_simp <;> with_reducible rfl
 (try simp only [Act.put, qA, qB, qC])
 refine tkS (i := 25) (v := ?_) ?_
 (try simp only [Act.put, qA, qB, qC])
 refine tkS (i := 27) (v := ?_) ?_
 (try simp only [Act.put, qA, qB, qC])
 refine tkH (i := 28) (v := ?_) (fun w hSw => ?_) ?_
 rotate_left
 ·obtain ⟨z0, z1, z2, z3, z4, z5, y0, y1, y2, y3, y4, y5⟩ := HRd.out _ hSw; go_simp <;> with_reducible rfl
 (try simp only [Act.put, qA, qB, qC])
 refine tkS (i := 29) (v := ?_) ?_
 (try simp only [Act.put, qA, qB, qC])
 refine tkH (i := 30) (v := ?_) (fun w hSw => ?_) ?_
 rotate_left
 ·obtain ⟨z0, z1, z2, z3, z4, z5, y0, y1, y2, y3, y4, y5⟩ := HRd.out _ hSw; go_simp <;> with_reducible rfl
 (try simp only [Act.put, qA, qB, qC])
 refine tkS (i := 32) (v := ?_) ?_
 (try simp only [Act.put, qA, qB, qC])
 refine stH (i := 19) (fun K' hK => ?_)
 go_simp
 go_at_call 244; with_reducible refine (C1.out _ (Below.refl _ _).drew).mono ?_; rintro r w2 ⟨rfl, hb2⟩
 (first | (refine hK.out _ _ ?_ (fun hG2 => ?_)) | (go_wp2_with fail; refine hK.out _ _ ?_ (fun hG2 => ?_)))
 ·exact HKp.out _ hb2
 clear hK K' hGd
 have hGd := hG2
 clear hG2
 (try simp only [Act.put, qA, qB, qC])
 refine stH (i := 24) (fun K' hK => ?_)
 go_simp
 go_at_call 245; with_reducible refine (C2.out _ hb2).mono ?_; rintro r w3 ⟨A5, c5, rfl, h5, hb3⟩; clear hb2
 (first | (refine hK.out _ _ ?_ (fun hG2 => ?_)) | (go_wp2_with fail; refine hK.out _ _ ?_ (fun hG2 => ?_)))
 ·exact HKp.out _ hb3
 clear hK K' hGd
 have hGd := hG2
 clear hG2
 (try simp only [Act.put, qA, qB, qC])
 refine stH (i := 26) (fun K' hK => ?_)
 go_simp
 go_at_call 121; with_reducible refine (C3.out _ _ _ h5 hb3).mono ?_; rintro r w4 ⟨A6, c6, rfl, h6, hb4⟩; clear hb3 h5
 (first | (refine hK.out _ _ ?_ (fun hG2 => ?_)) | (go_wp2_with fail; refine hK.out _ _ ?_ (fun hG2 => ?_)))
 ·exact HKp.out _ hb4
 clear hK K' hGd
 have hGd := hG2
 clear hG2
 (try simp only [Act.put, qA, qB, qC])
 refine stH (i := 31) (fun K' hK => ?_)
 go_simp
 go_at_call 245; with_reducible refine (C4.out _ _ _ h6 hb4).mono ?_; rintro r w5 ⟨A7, c7, rfl, h7, h6b, hb5⟩; clear h6 hb4
 (first | (refine hK.out _ _ ?_ (fun hG2 => ?_)) | (go_wp2_with fail; refine hK.out _ _ ?_ (fun hG2 => ?_)))
 ·exact HKp.out _ hb5
 clear hK K' hGd
 have hGd := hG2
 clear hG2
 (try simp only [Act.put, qA, qB, qC])
 refine stH (i := 33) (fun K' hK => ?_)
 go_simp
 go_at_call 121; with_reducible refine (C5.out _ _ _ _ _ h7 h6b hb5).mono ?_; rintro r w6 ⟨A8, c8, rfl, h8, h6, hb6⟩; clear h7 h6b hb5
 (first | (refine hK.out _ _ ?_ (fun hG2 => ?_)) | (go_wp2_with fail; refine hK.out _ _ ?_ (fun hG2 => ?_)))
 ·exact HKp.out _ hb6
 clear hK K' hGd
 have hGd := hG2
 clear hG2
 (try simp only [Act.put, qA, qB, qC])
 refine tkS (i := 34) (v := ?_) ?_
 (try simp only [Act.put, qA, qB, qC])
 obtain ⟨a0, a1, a2, a3, a4, a5, q0, q1, q2, q3, q4, q5, g0, g1, g2, g3, g4, g5⟩ := (HX3.out.below hb6 HX3.out.lt).cells
 refine stH (i := 35) (fun K' hK => ?_)
 go_simp
 (first | (refine hK.out _ _ ?_ (fun hG2 => ?_)) | (go_wp2_with fail; refine hK.out _ _ ?_ (fun hG2 => ?_)))
 ·exact HKs.out _ _ _ _ _ _ _ hb6
 clear hK K' hGd
 have hGd := hG2
 clear hG2
 (try simp only [Act.put, qA, qB, qC])
 refine wpAnyH_done (by kernel_rfl) ?_ _
 go_wp2_with fail
 refine bodyPost_ret (results6 (k := 6) (h := w.heap.size + 2) rfl rfl (by rfl) (Box6.set (HX3.out.below hb6 HX3.out.lt))) (by rfl) ?_
 obtain ⟨⟨p1, p2, p3, p4⟩, ⟨r1, r2, r3, r4⟩⟩ := HP.out
 have e0 : ((min xf yf : Nat) : Int) = min (xf : Int) (yf : Int) := by omega
 have e1 : ((max xl yl : Nat) : Int) = max (xl : Int) (yl : Int) := by omega
 have e2 : ((max xb yb : Nat) : Int) = max (xb : Int) (yb : Int) := by omega
 have hns := fun o s => qai (q01 HZ.out hb6 (q00 HZ.out)) o s
 refine ⟨⟨⟨min xf yf, max xl yl, max xb yb, q3t xo yo, jI n xr yr, jI n xw yw⟩, A6, c6, A8, c8⟩, rfl, ?_, ?_, ?_⟩
 ·unfold q0u
  simp only
  rw [e0, e1, e2]
 ·rw [show (World.setCell _ _ _).heap.size = w6.heap.size from q39]
  refine ⟨⟨?_, ?_, ?_, ?_, ?_, ?_⟩, ?_, ?_⟩
  ·show min xf yf < _; omega
  ·show max xl yl < _; omega
  ·show max xb yb < _; omega
  ·show q3t xo yo < _; unfold q3t; split <;> omega
  ·exact h6.ch.set6z hns
  ·exact h8.ch.set6z hns
  ·exact (h6.set6f hns).lower HB1.out.size |>.2.2.2
  ·exact (h8.set6f hns).lower HB1.out.size |>.2.2.2
 ·exact Below.set6 (HB1.out.trans (hb6.mono HB1.out.size)) (by omega)
theorem qbz (K : q9u) (x y : MR) (n : Int) (w : World) (hl1 : x.r.reads.length + y.r.reads.length ≤ 1000) (hl2 : x.r.writes.length + y.r.writes.length ≤ 1000) (hn1 : -9223372036854775808 ≤ n) (hn2 : n ≤ 9223372036854775807) (hx : OkMR w w.heap.size x) (hy : OkMR w w.heap.size y) :
  Calls Tryz.prog 202 #[q0u x, q0u y, .int .i64 n] w (qcm (q2B (jI n) x.r y.r) w) := (q74 K x y n w hl1 hl2 hn1 hn2 hx hy).mono fun _ _ h => FrMR.retOne h
end Go.Proofs.YtdpbllacfljmoaaGreat
