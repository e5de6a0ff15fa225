import Derived.Test.YtidomoibhjgkjaaGreatDoorZC11
import Derived.Deep.DeepCutAuto
import Derived.Laws.Cover1
import Derived.Test.YtidomoibhjgkjaaGreatDoorZC10
/-
  Package eval: two values that are joined, compared, put one behind the other, reckoned with.
-/
namespace Go.Proofs.YtidomoibhjgkjaaGreatDoor
open Go.RowKit

/-- What a call that gives a value and a number gives. -/
def RetG (x : V × Int) (w : World) (r : Ending) (w' : World) : Prop := r = .returned (.tuple #[x.1.val, .int .i64 x.2]) ∧ Below w.heap.size w w'

/-! ### two values and a place for the answer, boxed one behind the other -/
def three (w : World) (a b : V) : World :=
  ((w.alloc (.cells #[.int .i64 a.k, .int .i64 a.n, .string a.s] 27)).alloc (.cells #[.int .i64 b.k, .int .i64 b.n, .string b.s] 27)).alloc (.cells #[.int .i64 0, .int .i64 0, .string ⟨#[]⟩] 27)
theorem three_def (w : World) (ak an bk bn : Int) (sa sb : ByteArray) : ((w.alloc (.cells #[.int .i64 ak, .int .i64 an, .string sa] 27)).alloc (.cells #[.int .i64 bk, .int .i64 bn, .string sb] 27)).alloc (.cells #[.int .i64 0, .int .i64 0, .string ⟨#[]⟩] 27) = three w ⟨ak, an, sa⟩ ⟨bk, bn, sb⟩ := rfl
structure Three (w w' : World) (g : Nat) (a b : V) : Prop where
  a : Boxed w' g a
  b : Boxed w' (g + 1) b
  r : Boxed w' (g + 1 + 1) V0
  hb : Below w.heap.size w w'
  hg : w.heap.size ≤ g
theorem Three.new (w : World) (a b : V) : Three w (three w a b) w.heap.size a b := by
  have h1 := Boxed.new w a.k a.n a.s
  have h2 := Boxed.new (w.alloc (.cells #[.int .i64 a.k, .int .i64 a.n, .string a.s] 27)) b.k b.n b.s
  have h3 := Boxed.new ((w.alloc (.cells #[.int .i64 a.k, .int .i64 a.n, .string a.s] 27)).alloc (.cells #[.int .i64 b.k, .int .i64 b.n, .string b.s] 27)) 0 0 ⟨#[]⟩
  have b2 := box_below (w.alloc (.cells #[.int .i64 a.k, .int .i64 a.n, .string a.s] 27)) #[.int .i64 b.k, .int .i64 b.n, .string b.s] 27
  have b3 := box_below ((w.alloc (.cells #[.int .i64 a.k, .int .i64 a.n, .string a.s] 27)).alloc (.cells #[.int .i64 b.k, .int .i64 b.n, .string b.s] 27)) #[.int .i64 0, .int .i64 0, .string ⟨#[]⟩] 27
  have e1 : (w.alloc (.cells #[.int .i64 a.k, .int .i64 a.n, .string a.s] 27)).heap.size = w.heap.size + 1 := by simp
  have e2 : ((w.alloc (.cells #[.int .i64 a.k, .int .i64 a.n, .string a.s] 27)).alloc (.cells #[.int .i64 b.k, .int .i64 b.n, .string b.s] 27)).heap.size = w.heap.size + 2 := by simp
  rw [e1] at h2
  rw [e2] at h3
  exact ⟨(h1.below b2).below b3, h2.below b3, h3, (((Below.refl _ w).alloc (Nat.le_refl _) _).alloc (by simp) _).alloc (by simp; omega) _, Nat.le_refl _⟩
theorem Three.below {w w1 w2 : World} {g : Nat} {a b : V} (h : Three w w1 g a b) (hb : Below w1.heap.size w1 w2) : Three w w2 g a b :=
  ⟨h.a.below hb, h.b.below hb, h.r.below hb, h.hb.trans (hb.mono h.hb.size), h.hg⟩
theorem Three.alloc {w w1 : World} {g : Nat} {a b : V} (h : Three w w1 g a b) (o : Obj) : Three w (w1.alloc o) g a b := h.below ((Below.refl _ w1).alloc (Nat.le_refl _) o)
theorem Boxed.put {w : World} {g : Nat} {v : V} (h : Boxed w g v) (x : V) : Boxed (((w.setCell ⟨g, 0, none⟩ (.int .i64 x.k)).setCell ⟨g, 1, none⟩ (.int .i64 x.n)).setCell ⟨g, 2, none⟩ (.string x.s)) g x := h.set3' x.k x.n x.s
theorem Three.put {w w1 : World} {g : Nat} {a b : V} (h : Three w w1 g a b) (x : V) : Below w.heap.size w (((w1.setCell ⟨g + 1 + 1, 0, none⟩ (.int .i64 x.k)).setCell ⟨g + 1 + 1, 1, none⟩ (.int .i64 x.n)).setCell ⟨g + 1 + 1, 2, none⟩ (.string x.s)) :=
  Below.set3' h.hb (by have := h.hg; omega) _ _ _

theorem Three.put3 {w w1 : World} {g : Nat} {a b : V} (h : Three w w1 g a b) (x y z : Value) : Below w.heap.size w (((w1.setCell ⟨g + 1 + 1, 0, none⟩ x).setCell ⟨g + 1 + 1, 1, none⟩ y).setCell ⟨g + 1 + 1, 2, none⟩ z) :=
  Below.set3' h.hb (by have := h.hg; omega) _ _ _

/-! ### two truths -/
def joinG (all : Bool) (a b : V) : V × Int := if (a.k == 2 && b.k == 2) = true then (truthV (if all = true then !(a.n == 0) && !(b.n == 0) else !(a.n == 0) || !(b.n == 0)), 0) else (V0, 40)
theorem truthV_val (b : Bool) : (truthV b).val = .agg #[.int .i64 2, .int .i64 (if b = true then 1 else 0), .string ⟨#[]⟩] := rfl

set_option maxHeartbeats 4000000 in
theorem gAnd_any (a b : V) (w : World) : Calls Tryz.prog 56 #[.int .i64 17, a.val, b.val] w (RetG (joinG true a b) w) := by
  obtain ⟨ak, an, sa⟩ := a
  obtain ⟨bk, bn, sb⟩ := b
  have HQ := Lib.hid (fun g c W => gAre_two 2 ⟨ak, an, sa⟩ ⟨bk, bn, sb⟩ g c W)
  have HT1 := Lib.hid (fun W => gIsTrue_any ⟨ak, an, sa⟩ W)
  have HT2 := Lib.hid (fun W => gIsTrue_any ⟨bk, bn, sb⟩ W)
  simp only [V.val] at HT1 HT2 HQ ⊢
  obtain ⟨X, hX⟩ : ∃ X, joinG true ⟨ak, an, sa⟩ ⟨bk, bn, sb⟩ = X := ⟨_, rfl⟩
  rw [hX]
  unfold joinG at hX
  simp only at hX
  have H3 := Lib.hid (Three.new w ⟨ak, an, sa⟩ ⟨bk, bn, sb⟩)
  obtain ⟨q, hq⟩ : ∃ q, (ak == 2 && bk == 2) = q := ⟨_, rfl⟩
  obtain ⟨x, hx⟩ : ∃ x, (!(an == 0)) = x := ⟨_, rfl⟩
  obtain ⟨y, hy⟩ : ∃ y, (!(bn == 0)) = y := ⟨_, rfl⟩
  rw [hq] at HQ hX
  rw [hx] at HT1 hX
  rw [hy] at HT2 hX
  have HX := Lib.hid hX.symm
  clear hq hx hy hX
  go_enter Tryz.func56, Tryz.ntmps56
  go_upto_region 1 with fail
  simp only [three_def]
  obtain ⟨g, hg⟩ : ∃ g, w.heap.size = g := ⟨_, rfl⟩
  rw [hg] at H3
  obtain ⟨w3, hw3⟩ : ∃ y, three w ⟨ak, an, sa⟩ ⟨bk, bn, sb⟩ = y := ⟨_, rfl⟩
  rw [hw3] at H3 ⊢
  simp only [hg]
  clear hw3 hg
  obtain ⟨a0, a1, a2⟩ := H3.out.a.cells
  obtain ⟨b0, b1, b2⟩ := H3.out.b.cells
  simp only at a0 a1 a2 b0 b1 b2
  obtain ⟨r0, r1, r2⟩ := H3.out.r.cells
  have f0 := H3.out.r.frozen 0
  have f1 := H3.out.r.frozen 1
  have f2 := H3.out.r.frozen 2
  go_wp2_with fail
  refine (HQ.out _ _ _ (by simp) (by simp) (by simp) (by simp) (by simp) (by simp)).mono ?_
  rintro r w4 ⟨rfl, hb4⟩
  have H4 := Lib.hid ((H3.out.alloc _).below hb4)
  clear hb4 a0 a1 a2 b0 b1 b2 r0 r1 r2 f0 f1 f2 H3
  have H3 := H4
  clear H4
  obtain ⟨a0, a1, a2⟩ := H3.out.a.cells
  obtain ⟨b0, b1, b2⟩ := H3.out.b.cells
  simp only at a0 a1 a2 b0 b1 b2
  obtain ⟨r0, r1, r2⟩ := H3.out.r.cells
  have f0 := H3.out.r.frozen 0
  have f1 := H3.out.r.frozen 1
  have f2 := H3.out.r.frozen 2
  cases q
  · obtain ⟨t0, t1, t2⟩ := (H3.out.r.set3' (0) (0) (⟨#[]⟩)).cells
    have HP := Lib.hid (H3.out.put3 (.int .i64 (0)) (.int .i64 (0)) (.string (⟨#[]⟩)))
    go_wp2
    refine bodyPost_ret (v := .tuple #[.agg #[.int .i64 (0), .int .i64 (0), .string (⟨#[]⟩)], .int .i64 40]) (by simp [results, Tryz.results56, go_sem, t0, t1, t2]) rfl ⟨?_, HP.out⟩
    rw [HX.out]
    rfl
  cases x <;> cases y
  · go_wp2_with fail
    refine (HT1.out _).mono ?_
    rintro r w5 ⟨rfl, hb5⟩
    have H4 := Lib.hid (H3.out.below hb5)
    clear hb5 a0 a1 a2 b0 b1 b2 r0 r1 r2 f0 f1 f2 H3
    have H3 := H4
    clear H4
    obtain ⟨a0, a1, a2⟩ := H3.out.a.cells
    obtain ⟨b0, b1, b2⟩ := H3.out.b.cells
    simp only at a0 a1 a2 b0 b1 b2
    obtain ⟨r0, r1, r2⟩ := H3.out.r.cells
    have f0 := H3.out.r.frozen 0
    have f1 := H3.out.r.frozen 1
    have f2 := H3.out.r.frozen 2
    go_wp2_with fail
    refine (vBool_any _ _).mono ?_
    rintro r w7 ⟨rfl, hb7⟩
    have H4 := Lib.hid (H3.out.below hb7)
    clear hb7 a0 a1 a2 b0 b1 b2 r0 r1 r2 f0 f1 f2 H3
    have H3 := H4
    clear H4
    obtain ⟨a0, a1, a2⟩ := H3.out.a.cells
    obtain ⟨b0, b1, b2⟩ := H3.out.b.cells
    simp only at a0 a1 a2 b0 b1 b2
    obtain ⟨r0, r1, r2⟩ := H3.out.r.cells
    have f0 := H3.out.r.frozen 0
    have f1 := H3.out.r.frozen 1
    have f2 := H3.out.r.frozen 2
    obtain ⟨t0, t1, t2⟩ := (H3.out.r.set3' (2) (0) (⟨#[]⟩)).cells
    have HP := Lib.hid (H3.out.put3 (.int .i64 (2)) (.int .i64 (0)) (.string (⟨#[]⟩)))
    go_wp2
    refine bodyPost_ret (v := .tuple #[.agg #[.int .i64 (2), .int .i64 (0), .string (⟨#[]⟩)], .int .i64 0]) (by simp [results, Tryz.results56, go_sem, t0, t1, t2]) rfl ⟨?_, HP.out⟩
    rw [HX.out]
    rfl
  · go_wp2_with fail
    refine (HT1.out _).mono ?_
    rintro r w5 ⟨rfl, hb5⟩
    have H4 := Lib.hid (H3.out.below hb5)
    clear hb5 a0 a1 a2 b0 b1 b2 r0 r1 r2 f0 f1 f2 H3
    have H3 := H4
    clear H4
    obtain ⟨a0, a1, a2⟩ := H3.out.a.cells
    obtain ⟨b0, b1, b2⟩ := H3.out.b.cells
    simp only at a0 a1 a2 b0 b1 b2
    obtain ⟨r0, r1, r2⟩ := H3.out.r.cells
    have f0 := H3.out.r.frozen 0
    have f1 := H3.out.r.frozen 1
    have f2 := H3.out.r.frozen 2
    go_wp2_with fail
    refine (vBool_any _ _).mono ?_
    rintro r w7 ⟨rfl, hb7⟩
    have H4 := Lib.hid (H3.out.below hb7)
    clear hb7 a0 a1 a2 b0 b1 b2 r0 r1 r2 f0 f1 f2 H3
    have H3 := H4
    clear H4
    obtain ⟨a0, a1, a2⟩ := H3.out.a.cells
    obtain ⟨b0, b1, b2⟩ := H3.out.b.cells
    simp only at a0 a1 a2 b0 b1 b2
    obtain ⟨r0, r1, r2⟩ := H3.out.r.cells
    have f0 := H3.out.r.frozen 0
    have f1 := H3.out.r.frozen 1
    have f2 := H3.out.r.frozen 2
    obtain ⟨t0, t1, t2⟩ := (H3.out.r.set3' (2) (0) (⟨#[]⟩)).cells
    have HP := Lib.hid (H3.out.put3 (.int .i64 (2)) (.int .i64 (0)) (.string (⟨#[]⟩)))
    go_wp2
    refine bodyPost_ret (v := .tuple #[.agg #[.int .i64 (2), .int .i64 (0), .string (⟨#[]⟩)], .int .i64 0]) (by simp [results, Tryz.results56, go_sem, t0, t1, t2]) rfl ⟨?_, HP.out⟩
    rw [HX.out]
    rfl
  · go_wp2_with fail
    refine (HT1.out _).mono ?_
    rintro r w5 ⟨rfl, hb5⟩
    have H4 := Lib.hid (H3.out.below hb5)
    clear hb5 a0 a1 a2 b0 b1 b2 r0 r1 r2 f0 f1 f2 H3
    have H3 := H4
    clear H4
    obtain ⟨a0, a1, a2⟩ := H3.out.a.cells
    obtain ⟨b0, b1, b2⟩ := H3.out.b.cells
    simp only at a0 a1 a2 b0 b1 b2
    obtain ⟨r0, r1, r2⟩ := H3.out.r.cells
    have f0 := H3.out.r.frozen 0
    have f1 := H3.out.r.frozen 1
    have f2 := H3.out.r.frozen 2
    go_wp2_with fail
    refine (HT2.out _).mono ?_
    rintro r w6 ⟨rfl, hb6⟩
    have H4 := Lib.hid (H3.out.below hb6)
    clear hb6 a0 a1 a2 b0 b1 b2 r0 r1 r2 f0 f1 f2 H3
    have H3 := H4
    clear H4
    obtain ⟨a0, a1, a2⟩ := H3.out.a.cells
    obtain ⟨b0, b1, b2⟩ := H3.out.b.cells
    simp only at a0 a1 a2 b0 b1 b2
    obtain ⟨r0, r1, r2⟩ := H3.out.r.cells
    have f0 := H3.out.r.frozen 0
    have f1 := H3.out.r.frozen 1
    have f2 := H3.out.r.frozen 2
    go_wp2_with fail
    refine (vBool_any _ _).mono ?_
    rintro r w7 ⟨rfl, hb7⟩
    have H4 := Lib.hid (H3.out.below hb7)
    clear hb7 a0 a1 a2 b0 b1 b2 r0 r1 r2 f0 f1 f2 H3
    have H3 := H4
    clear H4
    obtain ⟨a0, a1, a2⟩ := H3.out.a.cells
    obtain ⟨b0, b1, b2⟩ := H3.out.b.cells
    simp only at a0 a1 a2 b0 b1 b2
    obtain ⟨r0, r1, r2⟩ := H3.out.r.cells
    have f0 := H3.out.r.frozen 0
    have f1 := H3.out.r.frozen 1
    have f2 := H3.out.r.frozen 2
    obtain ⟨t0, t1, t2⟩ := (H3.out.r.set3' (2) (0) (⟨#[]⟩)).cells
    have HP := Lib.hid (H3.out.put3 (.int .i64 (2)) (.int .i64 (0)) (.string (⟨#[]⟩)))
    go_wp2
    refine bodyPost_ret (v := .tuple #[.agg #[.int .i64 (2), .int .i64 (0), .string (⟨#[]⟩)], .int .i64 0]) (by simp [results, Tryz.results56, go_sem, t0, t1, t2]) rfl ⟨?_, HP.out⟩
    rw [HX.out]
    rfl
  · go_wp2_with fail
    refine (HT1.out _).mono ?_
    rintro r w5 ⟨rfl, hb5⟩
    have H4 := Lib.hid (H3.out.below hb5)
    clear hb5 a0 a1 a2 b0 b1 b2 r0 r1 r2 f0 f1 f2 H3
    have H3 := H4
    clear H4
    obtain ⟨a0, a1, a2⟩ := H3.out.a.cells
    obtain ⟨b0, b1, b2⟩ := H3.out.b.cells
    simp only at a0 a1 a2 b0 b1 b2
    obtain ⟨r0, r1, r2⟩ := H3.out.r.cells
    have f0 := H3.out.r.frozen 0
    have f1 := H3.out.r.frozen 1
    have f2 := H3.out.r.frozen 2
    go_wp2_with fail
    refine (HT2.out _).mono ?_
    rintro r w6 ⟨rfl, hb6⟩
    have H4 := Lib.hid (H3.out.below hb6)
    clear hb6 a0 a1 a2 b0 b1 b2 r0 r1 r2 f0 f1 f2 H3
    have H3 := H4
    clear H4
    obtain ⟨a0, a1, a2⟩ := H3.out.a.cells
    obtain ⟨b0, b1, b2⟩ := H3.out.b.cells
    simp only at a0 a1 a2 b0 b1 b2
    obtain ⟨r0, r1, r2⟩ := H3.out.r.cells
    have f0 := H3.out.r.frozen 0
    have f1 := H3.out.r.frozen 1
    have f2 := H3.out.r.frozen 2
    go_wp2_with fail
    refine (vBool_any _ _).mono ?_
    rintro r w7 ⟨rfl, hb7⟩
    have H4 := Lib.hid (H3.out.below hb7)
    clear hb7 a0 a1 a2 b0 b1 b2 r0 r1 r2 f0 f1 f2 H3
    have H3 := H4
    clear H4
    obtain ⟨a0, a1, a2⟩ := H3.out.a.cells
    obtain ⟨b0, b1, b2⟩ := H3.out.b.cells
    simp only at a0 a1 a2 b0 b1 b2
    obtain ⟨r0, r1, r2⟩ := H3.out.r.cells
    have f0 := H3.out.r.frozen 0
    have f1 := H3.out.r.frozen 1
    have f2 := H3.out.r.frozen 2
    obtain ⟨t0, t1, t2⟩ := (H3.out.r.set3' (2) (1) (⟨#[]⟩)).cells
    have HP := Lib.hid (H3.out.put3 (.int .i64 (2)) (.int .i64 (1)) (.string (⟨#[]⟩)))
    go_wp2
    refine bodyPost_ret (v := .tuple #[.agg #[.int .i64 (2), .int .i64 (1), .string (⟨#[]⟩)], .int .i64 0]) (by simp [results, Tryz.results56, go_sem, t0, t1, t2]) rfl ⟨?_, HP.out⟩
    rw [HX.out]
    rfl
set_option maxHeartbeats 4000000 in
theorem gOr_any (a b : V) (w : World) : Calls Tryz.prog 56 #[.int .i64 18, a.val, b.val] w (RetG (joinG false a b) w) := by
  obtain ⟨ak, an, sa⟩ := a
  obtain ⟨bk, bn, sb⟩ := b
  have HQ := Lib.hid (fun g c W => gAre_two 2 ⟨ak, an, sa⟩ ⟨bk, bn, sb⟩ g c W)
  have HT1 := Lib.hid (fun W => gIsTrue_any ⟨ak, an, sa⟩ W)
  have HT2 := Lib.hid (fun W => gIsTrue_any ⟨bk, bn, sb⟩ W)
  simp only [V.val] at HT1 HT2 HQ ⊢
  obtain ⟨X, hX⟩ : ∃ X, joinG false ⟨ak, an, sa⟩ ⟨bk, bn, sb⟩ = X := ⟨_, rfl⟩
  rw [hX]
  unfold joinG at hX
  simp only at hX
  have H3 := Lib.hid (Three.new w ⟨ak, an, sa⟩ ⟨bk, bn, sb⟩)
  obtain ⟨q, hq⟩ : ∃ q, (ak == 2 && bk == 2) = q := ⟨_, rfl⟩
  obtain ⟨x, hx⟩ : ∃ x, (!(an == 0)) = x := ⟨_, rfl⟩
  obtain ⟨y, hy⟩ : ∃ y, (!(bn == 0)) = y := ⟨_, rfl⟩
  rw [hq] at HQ hX
  rw [hx] at HT1 hX
  rw [hy] at HT2 hX
  have HX := Lib.hid hX.symm
  clear hq hx hy hX
  go_enter Tryz.func56, Tryz.ntmps56
  go_upto_region 1 with fail
  simp only [three_def]
  obtain ⟨g, hg⟩ : ∃ g, w.heap.size = g := ⟨_, rfl⟩
  rw [hg] at H3
  obtain ⟨w3, hw3⟩ : ∃ y, three w ⟨ak, an, sa⟩ ⟨bk, bn, sb⟩ = y := ⟨_, rfl⟩
  rw [hw3] at H3 ⊢
  simp only [hg]
  clear hw3 hg
  obtain ⟨a0, a1, a2⟩ := H3.out.a.cells
  obtain ⟨b0, b1, b2⟩ := H3.out.b.cells
  simp only at a0 a1 a2 b0 b1 b2
  obtain ⟨r0, r1, r2⟩ := H3.out.r.cells
  have f0 := H3.out.r.frozen 0
  have f1 := H3.out.r.frozen 1
  have f2 := H3.out.r.frozen 2
  go_wp2_with fail
  refine (HQ.out _ _ _ (by simp) (by simp) (by simp) (by simp) (by simp) (by simp)).mono ?_
  rintro r w4 ⟨rfl, hb4⟩
  have H4 := Lib.hid ((H3.out.alloc _).below hb4)
  clear hb4 a0 a1 a2 b0 b1 b2 r0 r1 r2 f0 f1 f2 H3
  have H3 := H4
  clear H4
  obtain ⟨a0, a1, a2⟩ := H3.out.a.cells
  obtain ⟨b0, b1, b2⟩ := H3.out.b.cells
  simp only at a0 a1 a2 b0 b1 b2
  obtain ⟨r0, r1, r2⟩ := H3.out.r.cells
  have f0 := H3.out.r.frozen 0
  have f1 := H3.out.r.frozen 1
  have f2 := H3.out.r.frozen 2
  cases q
  · obtain ⟨t0, t1, t2⟩ := (H3.out.r.set3' (0) (0) (⟨#[]⟩)).cells
    have HP := Lib.hid (H3.out.put3 (.int .i64 (0)) (.int .i64 (0)) (.string (⟨#[]⟩)))
    go_wp2
    refine bodyPost_ret (v := .tuple #[.agg #[.int .i64 (0), .int .i64 (0), .string (⟨#[]⟩)], .int .i64 40]) (by simp [results, Tryz.results56, go_sem, t0, t1, t2]) rfl ⟨?_, HP.out⟩
    rw [HX.out]
    rfl
  cases x <;> cases y
  · go_wp2_with fail
    refine (HT1.out _).mono ?_
    rintro r w5 ⟨rfl, hb5⟩
    have H4 := Lib.hid (H3.out.below hb5)
    clear hb5 a0 a1 a2 b0 b1 b2 r0 r1 r2 f0 f1 f2 H3
    have H3 := H4
    clear H4
    obtain ⟨a0, a1, a2⟩ := H3.out.a.cells
    obtain ⟨b0, b1, b2⟩ := H3.out.b.cells
    simp only at a0 a1 a2 b0 b1 b2
    obtain ⟨r0, r1, r2⟩ := H3.out.r.cells
    have f0 := H3.out.r.frozen 0
    have f1 := H3.out.r.frozen 1
    have f2 := H3.out.r.frozen 2
    go_wp2_with fail
    refine (HT2.out _).mono ?_
    rintro r w6 ⟨rfl, hb6⟩
    have H4 := Lib.hid (H3.out.below hb6)
    clear hb6 a0 a1 a2 b0 b1 b2 r0 r1 r2 f0 f1 f2 H3
    have H3 := H4
    clear H4
    obtain ⟨a0, a1, a2⟩ := H3.out.a.cells
    obtain ⟨b0, b1, b2⟩ := H3.out.b.cells
    simp only at a0 a1 a2 b0 b1 b2
    obtain ⟨r0, r1, r2⟩ := H3.out.r.cells
    have f0 := H3.out.r.frozen 0
    have f1 := H3.out.r.frozen 1
    have f2 := H3.out.r.frozen 2
    go_wp2_with fail
    refine (vBool_any _ _).mono ?_
    rintro r w7 ⟨rfl, hb7⟩
    have H4 := Lib.hid (H3.out.below hb7)
    clear hb7 a0 a1 a2 b0 b1 b2 r0 r1 r2 f0 f1 f2 H3
    have H3 := H4
    clear H4
    obtain ⟨a0, a1, a2⟩ := H3.out.a.cells
    obtain ⟨b0, b1, b2⟩ := H3.out.b.cells
    simp only at a0 a1 a2 b0 b1 b2
    obtain ⟨r0, r1, r2⟩ := H3.out.r.cells
    have f0 := H3.out.r.frozen 0
    have f1 := H3.out.r.frozen 1
    have f2 := H3.out.r.frozen 2
    obtain ⟨t0, t1, t2⟩ := (H3.out.r.set3' (2) (0) (⟨#[]⟩)).cells
    have HP := Lib.hid (H3.out.put3 (.int .i64 (2)) (.int .i64 (0)) (.string (⟨#[]⟩)))
    go_wp2
    refine bodyPost_ret (v := .tuple #[.agg #[.int .i64 (2), .int .i64 (0), .string (⟨#[]⟩)], .int .i64 0]) (by simp [results, Tryz.results56, go_sem, t0, t1, t2]) rfl ⟨?_, HP.out⟩
    rw [HX.out]
    rfl
  · go_wp2_with fail
    refine (HT1.out _).mono ?_
    rintro r w5 ⟨rfl, hb5⟩
    have H4 := Lib.hid (H3.out.below hb5)
    clear hb5 a0 a1 a2 b0 b1 b2 r0 r1 r2 f0 f1 f2 H3
    have H3 := H4
    clear H4
    obtain ⟨a0, a1, a2⟩ := H3.out.a.cells
    obtain ⟨b0, b1, b2⟩ := H3.out.b.cells
    simp only at a0 a1 a2 b0 b1 b2
    obtain ⟨r0, r1, r2⟩ := H3.out.r.cells
    have f0 := H3.out.r.frozen 0
    have f1 := H3.out.r.frozen 1
    have f2 := H3.out.r.frozen 2
    go_wp2_with fail
    refine (HT2.out _).mono ?_
    rintro r w6 ⟨rfl, hb6⟩
    have H4 := Lib.hid (H3.out.below hb6)
    clear hb6 a0 a1 a2 b0 b1 b2 r0 r1 r2 f0 f1 f2 H3
    have H3 := H4
    clear H4
    obtain ⟨a0, a1, a2⟩ := H3.out.a.cells
    obtain ⟨b0, b1, b2⟩ := H3.out.b.cells
    simp only at a0 a1 a2 b0 b1 b2
    obtain ⟨r0, r1, r2⟩ := H3.out.r.cells
    have f0 := H3.out.r.frozen 0
    have f1 := H3.out.r.frozen 1
    have f2 := H3.out.r.frozen 2
    go_wp2_with fail
    refine (vBool_any _ _).mono ?_
    rintro r w7 ⟨rfl, hb7⟩
    have H4 := Lib.hid (H3.out.below hb7)
    clear hb7 a0 a1 a2 b0 b1 b2 r0 r1 r2 f0 f1 f2 H3
    have H3 := H4
    clear H4
    obtain ⟨a0, a1, a2⟩ := H3.out.a.cells
    obtain ⟨b0, b1, b2⟩ := H3.out.b.cells
    simp only at a0 a1 a2 b0 b1 b2
    obtain ⟨r0, r1, r2⟩ := H3.out.r.cells
    have f0 := H3.out.r.frozen 0
    have f1 := H3.out.r.frozen 1
    have f2 := H3.out.r.frozen 2
    obtain ⟨t0, t1, t2⟩ := (H3.out.r.set3' (2) (1) (⟨#[]⟩)).cells
    have HP := Lib.hid (H3.out.put3 (.int .i64 (2)) (.int .i64 (1)) (.string (⟨#[]⟩)))
    go_wp2
    refine bodyPost_ret (v := .tuple #[.agg #[.int .i64 (2), .int .i64 (1), .string (⟨#[]⟩)], .int .i64 0]) (by simp [results, Tryz.results56, go_sem, t0, t1, t2]) rfl ⟨?_, HP.out⟩
    rw [HX.out]
    rfl
  · go_wp2_with fail
    refine (HT1.out _).mono ?_
    rintro r w5 ⟨rfl, hb5⟩
    have H4 := Lib.hid (H3.out.below hb5)
    clear hb5 a0 a1 a2 b0 b1 b2 r0 r1 r2 f0 f1 f2 H3
    have H3 := H4
    clear H4
    obtain ⟨a0, a1, a2⟩ := H3.out.a.cells
    obtain ⟨b0, b1, b2⟩ := H3.out.b.cells
    simp only at a0 a1 a2 b0 b1 b2
    obtain ⟨r0, r1, r2⟩ := H3.out.r.cells
    have f0 := H3.out.r.frozen 0
    have f1 := H3.out.r.frozen 1
    have f2 := H3.out.r.frozen 2
    go_wp2_with fail
    refine (vBool_any _ _).mono ?_
    rintro r w7 ⟨rfl, hb7⟩
    have H4 := Lib.hid (H3.out.below hb7)
    clear hb7 a0 a1 a2 b0 b1 b2 r0 r1 r2 f0 f1 f2 H3
    have H3 := H4
    clear H4
    obtain ⟨a0, a1, a2⟩ := H3.out.a.cells
    obtain ⟨b0, b1, b2⟩ := H3.out.b.cells
    simp only at a0 a1 a2 b0 b1 b2
    obtain ⟨r0, r1, r2⟩ := H3.out.r.cells
    have f0 := H3.out.r.frozen 0
    have f1 := H3.out.r.frozen 1
    have f2 := H3.out.r.frozen 2
    obtain ⟨t0, t1, t2⟩ := (H3.out.r.set3' (2) (1) (⟨#[]⟩)).cells
    have HP := Lib.hid (H3.out.put3 (.int .i64 (2)) (.int .i64 (1)) (.string (⟨#[]⟩)))
    go_wp2
    refine bodyPost_ret (v := .tuple #[.agg #[.int .i64 (2), .int .i64 (1), .string (⟨#[]⟩)], .int .i64 0]) (by simp [results, Tryz.results56, go_sem, t0, t1, t2]) rfl ⟨?_, HP.out⟩
    rw [HX.out]
    rfl
  · go_wp2_with fail
    refine (HT1.out _).mono ?_
    rintro r w5 ⟨rfl, hb5⟩
    have H4 := Lib.hid (H3.out.below hb5)
    clear hb5 a0 a1 a2 b0 b1 b2 r0 r1 r2 f0 f1 f2 H3
    have H3 := H4
    clear H4
    obtain ⟨a0, a1, a2⟩ := H3.out.a.cells
    obtain ⟨b0, b1, b2⟩ := H3.out.b.cells
    simp only at a0 a1 a2 b0 b1 b2
    obtain ⟨r0, r1, r2⟩ := H3.out.r.cells
    have f0 := H3.out.r.frozen 0
    have f1 := H3.out.r.frozen 1
    have f2 := H3.out.r.frozen 2
    go_wp2_with fail
    refine (vBool_any _ _).mono ?_
    rintro r w7 ⟨rfl, hb7⟩
    have H4 := Lib.hid (H3.out.below hb7)
    clear hb7 a0 a1 a2 b0 b1 b2 r0 r1 r2 f0 f1 f2 H3
    have H3 := H4
    clear H4
    obtain ⟨a0, a1, a2⟩ := H3.out.a.cells
    obtain ⟨b0, b1, b2⟩ := H3.out.b.cells
    simp only at a0 a1 a2 b0 b1 b2
    obtain ⟨r0, r1, r2⟩ := H3.out.r.cells
    have f0 := H3.out.r.frozen 0
    have f1 := H3.out.r.frozen 1
    have f2 := H3.out.r.frozen 2
    obtain ⟨t0, t1, t2⟩ := (H3.out.r.set3' (2) (1) (⟨#[]⟩)).cells
    have HP := Lib.hid (H3.out.put3 (.int .i64 (2)) (.int .i64 (1)) (.string (⟨#[]⟩)))
    go_wp2
    refine bodyPost_ret (v := .tuple #[.agg #[.int .i64 (2), .int .i64 (1), .string (⟨#[]⟩)], .int .i64 0]) (by simp [results, Tryz.results56, go_sem, t0, t1, t2]) rfl ⟨?_, HP.out⟩
    rw [HX.out]
    rfl
end Go.Proofs.YtidomoibhjgkjaaGreatDoor

/-
  Package value: Compare, by cmp.Compare and cmp.Or.
-/
namespace Go.Proofs.YtidomoibhjgkjaaGreatDoor
open Go.RowKit

theorem same_from {P : Program} {f : FuncId} {args : Array Value} {v : Value} {W wx : World} (hb : Below W.heap.size W wx) (h : Calls P f args wx fun r w' => r = .returned v ∧ w' = wx) :
    Calls P f args wx fun r w' => r = .returned v ∧ Below W.heap.size W w' := h.mono fun _ _ ⟨a, b⟩ => ⟨a, by rw [b]; exact hb⟩

theorem nanL_any (a : Int) (w : World) : Calls Tryz.prog 120 #[.int .i64 a] w fun r w' => r = .returned (.bool false) ∧ w' = w := by
  go_enter Tryz.func120, Tryz.ntmps120
  go_wp2
  go_ret
  simp
theorem nanS_any (a : ByteArray) (w : World) : Calls Tryz.prog 121 #[.string a] w fun r w' => r = .returned (.bool false) ∧ w' = w := by
  go_enter Tryz.func121, Tryz.ntmps121
  go_wp2
  go_ret
  simp

theorem cmpL_any (a b : Int) (w : World) : Calls Tryz.prog 89 #[.int .i64 a, .int .i64 b] w fun r w' => r = .returned (.int .i64 (cmpI a b)) ∧ w' = w := by
  have HC := Lib.hid (show (a < b ∧ cmpI a b = -1) ∨ (¬ a < b ∧ b < a ∧ cmpI a b = 1) ∨ (¬ a < b ∧ ¬ b < a ∧ cmpI a b = 0) by
    unfold cmpI; split
    · exact .inl ⟨by assumption, rfl⟩
    · split
      · exact .inr (.inl ⟨by assumption, by assumption, rfl⟩)
      · exact .inr (.inr ⟨by assumption, by assumption, rfl⟩))
  generalize cmpI a b = z at *
  rcases HC.out with ⟨h1, h⟩ | ⟨h1, h2, h⟩ | ⟨h1, h2, h⟩
  all_goals
    subst h
    clear HC
    (try have b1 : decide (a < b) = false := by simpa using h1)
    (try have b1 : decide (a < b) = true := by simpa using h1)
    (try have b2 : decide (b < a) = false := by simpa using h2)
    (try have b2 : decide (b < a) = true := by simpa using h2)
    go_enter Tryz.func89, Tryz.ntmps89
    go_wp2_with (go_at_call 120; refine (nanL_any _ _).mono ?_; rintro r w' ⟨rfl, rfl⟩)
    go_ret
    exact ⟨rfl, rfl⟩
theorem cmpT_any (s t : ByteArray) (w : World) : Calls Tryz.prog 90 #[.string s, .string t] w fun r w' => r = .returned (.int .i64 (cmpS s.data.toList t.data.toList)) ∧ w' = w := by
  have e1 : Op.bytesLess s.toList t.toList = blt s.data.toList t.data.toList := by rw [ByteArray.toList_eq, ByteArray.toList_eq]
  have e2 : Op.bytesLess t.toList s.toList = blt t.data.toList s.data.toList := by rw [ByteArray.toList_eq, ByteArray.toList_eq]
  have HC := Lib.hid (show (blt s.data.toList t.data.toList = true ∧ blt t.data.toList s.data.toList = false ∧ (s.toList == t.toList) = false ∧ cmpS s.data.toList t.data.toList = -1) ∨ (blt s.data.toList t.data.toList = false ∧ blt t.data.toList s.data.toList = true ∧ (s.toList == t.toList) = false ∧ cmpS s.data.toList t.data.toList = 1) ∨ (blt s.data.toList t.data.toList = false ∧ blt t.data.toList s.data.toList = false ∧ (s.toList == t.toList) = true ∧ cmpS s.data.toList t.data.toList = 0) by
    rw [ByteArray.toList_eq, ByteArray.toList_eq]
    rcases blt_tri s.data.toList t.data.toList with h | h | h
    · exact .inl ⟨h, blt_asymm h, beq_eq_false_iff_ne.2 (fun e => by rw [e, blt_self] at h; cases h), cmpS_lt h⟩
    · rw [h]; exact .inr (.inr ⟨blt_self _, blt_self _, beq_self_eq_true _, cmpS_self _⟩)
    · exact .inr (.inl ⟨blt_asymm h, h, beq_eq_false_iff_ne.2 (fun e => by rw [e, blt_self] at h; cases h), cmpS_gt h⟩))
  generalize cmpS s.data.toList t.data.toList = z at *
  rcases HC.out with ⟨h1, h2, e3, h⟩ | ⟨h1, h2, e3, h⟩ | ⟨h1, h2, e3, h⟩
  all_goals
    subst h
    clear HC
    rw [h1] at e1
    rw [h2] at e2
    clear h1 h2
    go_enter Tryz.func90, Tryz.ntmps90
    go_wp2_with (go_at_call 121; refine (nanS_any _ _).mono ?_; rintro r w' ⟨rfl, rfl⟩)
    go_ret
    exact ⟨rfl, rfl⟩

end Go.Proofs.YtidomoibhjgkjaaGreatDoor
