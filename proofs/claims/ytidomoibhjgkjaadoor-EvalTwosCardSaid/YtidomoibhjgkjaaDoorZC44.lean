import Derived.Test.YtidomoibhjgkjaaDoorZC37
import Derived.Test.YtidomoibhjgkjaaDoorZC43
import Derived.Test.YtidomoibhjgkjaaDoorZC41
/-
  EvalTwos: what any two values come to by any Op of two, or what is wrong.
-/
namespace Go.Proofs.YtidomoibhjgkjaaDoor
open Go.RowKit

namespace evalTwos
set_option maxRecDepth 100000 in
set_option maxHeartbeats 4000000 in
theorem walkG (op : Int) (a : V) (ha : ValIn a) (b : V) (hb : ValIn b) (w : World) (hG : GlobW w) :
    Calls Tryd.prog 4 #[.int .i64 op, a.val, b.val] w fun r w' => r = .returned (.bool true) ∧ Below w.heap.size w w' := by
  obtain ⟨ak, an, sa⟩ := a
  obtain ⟨bk, bn, sb⟩ := b
  have HLv := Lib.hid (fun W (hb : Below w.heap.size w W) => live6_any W (hG.below hb hG.big))
  have hB := box_below w #[.int .i64 ak, .int .i64 an, .string sa] 23
  have hxa := Boxed.new w ak an sa
  have hB2 := box_below (w.alloc (.cells #[.int .i64 ak, .int .i64 an, .string sa] 23)) #[.int .i64 bk, .int .i64 bn, .string sb] 23
  have hxb := Boxed.new (w.alloc (.cells #[.int .i64 ak, .int .i64 an, .string sa] 23)) bk bn sb
  rw [show (w.alloc (.cells #[.int .i64 ak, .int .i64 an, .string sa] 23)).heap.size = w.heap.size + 1 from by simp] at hxb
  have hxa := hxa.below hB2
  have hB := hB.trans (hB2.mono hB.size)
  obtain ⟨w1, hw⟩ : ∃ y, (w.alloc (.cells #[.int .i64 ak, .int .i64 an, .string sa] 23)).alloc (.cells #[.int .i64 bk, .int .i64 bn, .string sb] 23) = y := ⟨_, rfl⟩
  obtain ⟨s, hs⟩ : ∃ s, w.heap.size = s := ⟨_, rfl⟩
  rw [hw] at hB hxa hxb
  rw [hs] at hxa hxb
  have HXa := Lib.hid hxa
  have HXb := Lib.hid hxb
  have HB1 := Lib.hid hB
  have HW := Lib.hid hw
  have HS := Lib.hid hs
  simp only [V.val]
  clear hxa hxb hB hB2 hw hs hG
  go_enter Tryd.func4, Tryd.ntmps4
  go_upto_region 1 with fail
  rw [HW.out, HS.out]
  clear HW
  go_wp2_with fail
  refine (HLv.out _ HB1.out).mono ?_
  rintro r w2 ⟨rfl, hb2⟩
  dsimp only
  have hxa := HXa.out.below hb2
  have hxb := HXb.out.below hb2
  have HB2 := Lib.hid (HB1.out.trans (hb2.mono HB1.out.size))
  clear HXa HXb hb2 HB1
  have HXa := Lib.hid hxa
  have HXb := Lib.hid hxb
  clear hxa hxb
  obtain ⟨a0, a1, a2⟩ := HXa.out.cells
  simp only at a0 a1 a2
  obtain ⟨b0, b1, b2⟩ := HXb.out.cells
  simp only at b0 b1 b2
  by_cases ha1 : 1000 < sa.size
  · have da : decide (1000 < (sa.size : Int)) = true := by rw [decide_eq_true_iff]; omega
    go_wp2_with fail
    refine (HLv.out _ HB2.out).mono ?_
    rintro r w3 ⟨rfl, hb3⟩
    have HB3 := Lib.hid (HB2.out.trans (hb3.mono HB2.out.size))
    clear hb3
    dsimp only
    go_wp2
    go_ret
    exact ⟨rfl, HB3.out⟩
  have da : decide (1000 < (sa.size : Int)) = false := by rw [decide_eq_false_iff_not]; omega
  have hoa : okV ⟨ak, an, sa⟩ := ⟨⟨ha.1, ha.2.1⟩, by show sa.size ≤ 1000000; omega⟩
  by_cases hb1 : 1000 < sb.size
  · have db : decide (1000 < (sb.size : Int)) = true := by rw [decide_eq_true_iff]; omega
    go_wp2_with fail
    refine (HLv.out _ HB2.out).mono ?_
    rintro r w3 ⟨rfl, hb3⟩
    have HB3 := Lib.hid (HB2.out.trans (hb3.mono HB2.out.size))
    clear hb3
    dsimp only
    go_wp2
    go_ret
    exact ⟨rfl, HB3.out⟩
  have db : decide (1000 < (sb.size : Int)) = false := by rw [decide_eq_false_iff_not]; omega
  have hob : okV ⟨bk, bn, sb⟩ := ⟨⟨hb.1, hb.2.1⟩, by show sb.size ≤ 1000000; omega⟩
  obtain ⟨X, hX⟩ : ∃ X, twoV op ⟨ak, an, sa⟩ ⟨bk, bn, sb⟩ = X := ⟨_, rfl⟩
  have hHE := fun W => gTwo_any op ⟨ak, an, sa⟩ ⟨bk, bn, sb⟩ W hoa hob
  rw [hX] at hHE
  have hHR := fun W => g6Two_any op ⟨ak, an, sa⟩ ⟨bk, bn, sb⟩ W hoa hob
  rw [hX] at hHR
  obtain ⟨⟨xk, xn, xs⟩, xc⟩ := X
  have HE : Hid (∀ W, Calls Tryd.prog 9 #[.int .i64 op, .agg #[.int .i64 ak, .int .i64 an, .string sa], .agg #[.int .i64 bk, .int .i64 bn, .string sb]] W fun r w' => r = .returned (.tuple #[.agg #[.int .i64 xk, .int .i64 xn, .string xs], .int .i64 xc]) ∧ Below W.heap.size W w') := Lib.hid (fun W => hHE W)
  have HR : Hid (∀ W, Calls Tryd.prog 10 #[.int .i64 op, .agg #[.int .i64 ak, .int .i64 an, .string sa], .agg #[.int .i64 bk, .int .i64 bn, .string sb]] W fun r w' => r = .returned (.tuple #[.agg #[.int .i64 xk, .int .i64 xn, .string xs], .int .i64 xc]) ∧ Below W.heap.size W w') := Lib.hid (fun W => hHR W)
  have q : ∀ w, (Op.equalIn 10000 23 (.agg #[.int .i64 xk, .int .i64 xn, .string xs]) (.agg #[.int .i64 xk, .int .i64 xn, .string xs])).run Tryd.prog w = .ok true w := fun w => by rw [eq_in, eqV_self]
  clear hX hHE hHR hoa ha1 ha hob hb1 hb
  go_wp2_with fail
  refine (HE.out _).mono ?_
  rintro r w3 ⟨rfl, hb3⟩
  dsimp only
  have hb4 := box_below w3 #[.int .i64 xk, .int .i64 xn, .string xs] 23
  have hx := Boxed.new w3 xk xn xs
  have hbb := hb3.trans (hb4.mono hb3.size)
  have hxa := HXa.out.below hbb
  have hxb := HXb.out.below hbb
  have hB := HB2.out.trans (hbb.mono HB2.out.size)
  obtain ⟨w4, hw⟩ : ∃ y, w3.alloc (.cells #[.int .i64 xk, .int .i64 xn, .string xs] 23) = y := ⟨_, rfl⟩
  obtain ⟨sv, hs⟩ : ∃ y, w3.heap.size = y := ⟨_, rfl⟩
  rw [hw] at hx hxa hB hxb
  rw [hs] at hx
  clear HXa a0 a1 a2 HXb b0 b1 b2
  have HXa := Lib.hid hxa
  have HXb := Lib.hid hxb
  have HXv := Lib.hid hx
  have HB4 := Lib.hid hB
  have HW := Lib.hid hw
  have HSv := Lib.hid hs
  clear hb3 hb4 hx hbb hxa hB hw hs HB2 hxb
  go_upto_region 4 with fail
  rw [HW.out, HSv.out]
  clear HW HSv
  obtain ⟨a0, a1, a2⟩ := HXa.out.cells
  simp only at a0 a1 a2
  obtain ⟨b0, b1, b2⟩ := HXb.out.cells
  simp only at b0 b1 b2
  go_wp2_with fail
  refine (HR.out _).mono ?_
  rintro r w5 ⟨rfl, hb5⟩
  dsimp only
  have hb6 := box_below w5 #[.int .i64 xk, .int .i64 xn, .string xs] 23
  have hy := Boxed.new w5 xk xn xs
  have hbb := hb5.trans (hb6.mono hb5.size)
  have hxv := HXv.out.below hbb
  have hB := HB4.out.trans (hbb.mono HB4.out.size)
  obtain ⟨w6, hw⟩ : ∃ y, w5.alloc (.cells #[.int .i64 xk, .int .i64 xn, .string xs] 23) = y := ⟨_, rfl⟩
  obtain ⟨sw, hs⟩ : ∃ y, w5.heap.size = y := ⟨_, rfl⟩
  rw [hw] at hy hxv hB
  rw [hs] at hy
  have HXw := Lib.hid hy
  have HXz := Lib.hid hxv
  have HB6 := Lib.hid hB
  have HW := Lib.hid hw
  have HSv := Lib.hid hs
  clear hb5 hb6 hy hbb hxv hB hw hs HXv HB4 a0 a1 a2 b0 b1 b2
  go_upto_region 5 with fail
  rw [HW.out, HSv.out]
  clear HW HSv
  obtain ⟨y0, y1, y2⟩ := HXw.out.cells
  obtain ⟨z0, z1, z2⟩ := HXz.out.cells
  simp only at y0 y1 y2 z0 z1 z2
  go_wp2
  go_ret
  exact ⟨rfl, HB6.out⟩
end evalTwos
end Go.Proofs.YtidomoibhjgkjaaDoor
