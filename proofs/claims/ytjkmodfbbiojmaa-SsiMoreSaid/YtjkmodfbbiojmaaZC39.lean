import Derived.Test.YtjkmodfbbiojmaaZC38
/-
  Package ssi as it landed: the closure that tells on which side of t a record stands.
-/
namespace Go.Proofs.Ytjkmodfbbiojmaa
open Go.RowKit

/-- The closure's answer. -/
def kindR (t r : RecS) : Nat := (if readsB t r = true then 1 else 0) + (if writesB t r = true then 2 else 0)
theorem kind_none {t r : RecS} (h : ¬ t.began < r.last) : kindR t r = 0 := by
  unfold kindR readsB writesB
  rw [decide_eq_false h]
  rfl
theorem kind_some {t r : RecS} (h : t.began < r.last) : kindR t r = (if meetB r.reads t.writes = true then 1 else 0) + (if meetB t.reads r.writes = true then 2 else 0) := by
  unfold kindR readsB writesB
  rw [decide_eq_true h, Bool.true_and, Bool.true_and]
set_option maxRecDepth 100000 in
set_option maxHeartbeats 8000000 in
theorem tell_any (K : SpanC) (x : MR) (tf tl tb to_ : Nat) (tr tw : List Sp) (tA tB : Option Addr) (tc td : Nat) (lv : Int) (p : Nat) (w : World) (hox : okR x.r) (hx : OkMR w w.heap.size x) (hot : tr.length ≤ 1000 ∧ tw.length ≤ 1000) (htb : tb < 18446744073709551616)
    (htr : ChI w w.heap.size tA tc tr) (htw : ChI w w.heap.size tB td tw) (hp : w.heap[p]? = some (.cells #[.int .u64 tf, .int .u64 lv, .int .u64 tb, .int .u64 to_, .slice tA tr.length tc, .slice tB tw.length td] 29 (0, 0))) :
    Calls Try.prog 38 #[recVal x, .pointer (some ⟨p, 0, none⟩)] w fun r w' => r = .returned (.int .i64 (kindR ⟨tf, tl, tb, to_, tr, tw⟩ x.r : Nat)) ∧ Below w.heap.size w w' := by
  have hxl := hx.last
  obtain ⟨⟨xf, xl, xb, xo, xr, xw⟩, xA, xc, xB, xd⟩ := x
  unfold recVal
  simp only at hox hxl
  obtain ⟨w1, hw1⟩ : ∃ y, w.alloc (.cells #[.int .u64 xf, .int .u64 xl, .int .u64 xb, .int .u64 xo, .slice xA xr.length xc, .slice xB xw.length xd] 29) = y := ⟨_, rfl⟩
  have hb1 : Below w.heap.size w w1 := by rw [← hw1]; exact (Below.refl _ w).alloc (Nat.le_refl _) _
  have hx1 : w1.heap[w.heap.size]? = some (.cells #[.int .u64 xf, .int .u64 xl, .int .u64 xb, .int .u64 xo, .slice xA xr.length xc, .slice xB xw.length xd] 29 (0, 0)) := by rw [← hw1]; exact heap_alloc_new w _
  have hp1 : w1.heap[p]? = some (.cells #[.int .u64 tf, .int .u64 lv, .int .u64 tb, .int .u64 to_, .slice tA tr.length tc, .slice tB tw.length td] 29 (0, 0)) := heap_below hp hb1 (lt_of_heap hp)
  have HB1 := Lib.hid hb1
  have HW1 := Lib.hid hw1
  have HCl := Lib.hid (fun (W : World) (h : Below w1.heap.size w1 W) => And.intro (six_of (heap_below hx1 h (lt_of_heap hx1))) (six_of (heap_below hp1 h (lt_of_heap hp1))))
  have HM1 := Lib.hid (fun (W : World) (h : Below w1.heap.size w1 W) => (K.meet xr tw xA tB xc td W hox.1 hot.2 ((hx.reads.below hb1 (Nat.le_refl _) hb1.size).below h (Nat.le_refl _) h.size) ((htw.below hb1 (Nat.le_refl _) hb1.size).below h (Nat.le_refl _) h.size)).mono fun r w' (q : r = .returned (.bool (meetB xr tw)) ∧ Below W.heap.size W w') => (⟨q.1, h.trans (q.2.mono h.size)⟩ : r = .returned (.bool (meetB xr tw)) ∧ Below w1.heap.size w1 w'))
  have HM2 := Lib.hid (fun (W : World) (h : Below w1.heap.size w1 W) => (K.meet tr xw tA xB tc xd W hot.1 hox.2 ((htr.below hb1 (Nat.le_refl _) hb1.size).below h (Nat.le_refl _) h.size) ((hx.writes.below hb1 (Nat.le_refl _) hb1.size).below h (Nat.le_refl _) h.size)).mono fun r w' (q : r = .returned (.bool (meetB tr xw)) ∧ Below W.heap.size W w') => (⟨q.1, h.trans (q.2.mono h.size)⟩ : r = .returned (.bool (meetB tr xw)) ∧ Below w1.heap.size w1 w'))
  clear hb1 hw1 hx1 hp1 hx hp htr htw hox hot
  by_cases hlt : tb < xl
  · have d1 : decide ((xl : Int) ≤ (tb : Int)) = false := by rw [decide_eq_false_iff_not]; omega
    have d2 : decide (xl ≤ tb) = false := by rw [decide_eq_false_iff_not]; omega
    rw [kind_some (t := ⟨tf, tl, tb, to_, tr, tw⟩) (r := ⟨xf, xl, xb, xo, xr, xw⟩) hlt]
    simp only
    generalize meetB xr tw = m1 at *
    generalize meetB tr xw = m2 at *
    clear hlt
    go_enter Try.func38, Try.ntmps38
    go_upto_region 1 with fail
    rw [HW1.out]
    clear HW1
    obtain ⟨⟨z0, z1, z2, z3, z4, z5⟩, ⟨s0, s1, s2, s3, s4, s5⟩⟩ := HCl.out _ (Below.refl _ _)
    go_wp2_with fail
    refine (HM1.out _ (Below.refl _ _)).mono ?_
    rintro r w2 ⟨rfl, hb2⟩
    clear z0 z1 z2 z3 z4 z5 s0 s1 s2 s3 s4 s5
    obtain ⟨⟨z0, z1, z2, z3, z4, z5⟩, ⟨s0, s1, s2, s3, s4, s5⟩⟩ := HCl.out _ hb2
    have HC2 := Lib.hid (HM2.out _ hb2)
    clear HM1 HM2 hb2
    cases m1
    all_goals
      go_wp2_with fail
      refine HC2.out.mono ?_
      rintro r w3 ⟨rfl, hb3⟩
      have HB3 := Lib.hid (HB1.out.trans (hb3.mono HB1.out.size))
      clear z0 z1 z2 z3 z4 z5 s0 s1 s2 s3 s4 s5 hb3
      cases m2
      all_goals
        go_wp2_with fail
        go_ret
        exact ⟨rfl, HB3.out⟩
  · have d1 : decide ((xl : Int) ≤ (tb : Int)) = true := by rw [decide_eq_true_iff]; omega
    have d2 : decide (xl ≤ tb) = true := by rw [decide_eq_true_iff]; omega
    rw [kind_none (t := ⟨tf, tl, tb, to_, tr, tw⟩) (r := ⟨xf, xl, xb, xo, xr, xw⟩) hlt]
    clear hlt
    go_enter Try.func38, Try.ntmps38
    go_upto_region 1 with fail
    rw [HW1.out]
    clear HW1
    obtain ⟨⟨z0, z1, z2, z3, z4, z5⟩, ⟨s0, s1, s2, s3, s4, s5⟩⟩ := HCl.out _ (Below.refl _ _)
    go_wp2_with fail
    go_ret
    exact ⟨rfl, HB1.out⟩
end Go.Proofs.Ytjkmodfbbiojmaa
