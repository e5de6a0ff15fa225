import Derived.Test.YtidomoibhjgkjaaDoorZC37
import Derived.Test.YtidomoibhjgkjaaDoorZC07
import Derived.IntWalk
/-
  EvalNumbers: sums and products of numbers, differences, quotients and what is left.
-/
namespace Go.Proofs.YtidomoibhjgkjaaDoor
open Go.RowKit

theorem two_num {op : Int} (h : op = 6 ∨ op = 7 ∨ op = 8 ∨ op = 9 ∨ op = 10) (m n : Int) : twoV op ⟨1, m, ⟨#[]⟩⟩ ⟨1, n, ⟨#[]⟩⟩ = numsV op m n := two_nums (m := m) (n := n) h
theorem nums9 (m n : Int) : numsV 9 m n = fitV (m + n) := by unfold numsV; rw [if_neg (by decide), if_pos rfl]
theorem nums6 (m n : Int) : numsV 6 m n = fitV (m * n) := by unfold numsV; rw [if_pos rfl]
theorem nums10 (m n : Int) : numsV 10 m n = fitV (m - n) := by unfold numsV; rw [if_neg (by decide), if_neg (by decide), if_pos rfl]
theorem nums7 {m n : Int} (h : n ≠ 0) : numsV 7 m n = fitV (m.tdiv n) := by unfold numsV; rw [if_neg (by decide), if_neg (by decide), if_neg (by decide), if_neg h, if_pos rfl]
theorem nums8 {m n : Int} (h : n ≠ 0) : numsV 8 m n = fitV (m.tmod n) := by unfold numsV; rw [if_neg (by decide), if_neg (by decide), if_neg (by decide), if_neg h, if_neg (by decide)]
theorem nums0 {op m : Int} (h : op = 7 ∨ op = 8) : numsV op m 0 = (V0, 62) := by unfold numsV; rw [if_neg (by omega), if_neg (by omega), if_neg (by omega), if_pos rfl]
theorem num_ok {n : Int} (h : inI n) : okV ⟨1, n, ⟨#[]⟩⟩ := ⟨h, by show (⟨#[]⟩ : ByteArray).size ≤ _; decide⟩
theorem Boxed.alloc2 {w : World} {b : Nat} {v : V} (h : Boxed w b v) (o : Obj) : Boxed (w.alloc o) b v := h.below ((Below.refl _ w).alloc (Nat.le_refl _) o)
theorem numG_is (n : Int) : numG n = ⟨1, n, ⟨#[]⟩⟩ := rfl

namespace evalNumbers
set_option maxRecDepth 100000 in
set_option maxHeartbeats 8000000 in
theorem walkG (m n : Int) (hm : -9223372036854775808 ≤ m ∧ m ≤ 9223372036854775807) (hn : -9223372036854775808 ≤ n ∧ n ≤ 9223372036854775807) (w : World) (hG : GlobW w) :
    Calls Tryd.prog 5 #[.int .i64 m, .int .i64 n] w fun r w' => r = .returned (.bool true) ∧ Below w.heap.size w w' := by
  have hoa : okV ⟨1, m, ⟨#[]⟩⟩ := num_ok hm
  have hob : okV ⟨1, n, ⟨#[]⟩⟩ := num_ok hn
  have HLv := Lib.hid (live6_any w hG)
  clear hG
  have e9 : twoV 9 ⟨1, m, ⟨#[]⟩⟩ ⟨1, n, ⟨#[]⟩⟩ = fitV (m + n) := by rw [two_num (by decide), nums9]
  have e9' : twoV 9 ⟨1, n, ⟨#[]⟩⟩ ⟨1, m, ⟨#[]⟩⟩ = fitV (m + n) := by rw [two_num (by decide), nums9, Int.add_comm]
  have e6 : twoV 6 ⟨1, m, ⟨#[]⟩⟩ ⟨1, n, ⟨#[]⟩⟩ = fitV (m * n) := by rw [two_num (by decide), nums6]
  have e6' : twoV 6 ⟨1, n, ⟨#[]⟩⟩ ⟨1, m, ⟨#[]⟩⟩ = fitV (m * n) := by rw [two_num (by decide), nums6, Int.mul_comm]
  obtain ⟨S, hS⟩ : ∃ S, fitV (m + n) = S := ⟨_, rfl⟩
  obtain ⟨P, hP⟩ : ∃ P, fitV (m * n) = P := ⟨_, rfl⟩
  have hse : S.2 = 0 ∨ S.2 = 9 := by rw [← hS]; rcases fitV_err (m + n) with h | h; exact .inl h; exact .inr h.1
  have hsv : S.2 = 0 → S = (⟨1, m + n, ⟨#[]⟩⟩, 0) ∧ inI (m + n) := fun h => by
    by_cases hi : inI (m + n)
    · rw [← hS, fitV_in hi]; exact ⟨rfl, hi⟩
    · rw [← hS, fitV_out hi] at h; cases h
  rw [hS] at e9 e9'
  rw [hP] at e6 e6'
  obtain ⟨⟨sk, sn, sx⟩, se⟩ := S
  obtain ⟨⟨pk, pn, px⟩, pe⟩ := P
  simp only at hse hsv
  have T9 : Hid (∀ W, Calls Tryd.prog 9 #[.int .i64 9, .agg #[.int .i64 1, .int .i64 m, .string ⟨#[]⟩], .agg #[.int .i64 1, .int .i64 n, .string ⟨#[]⟩]] W fun r w' => r = .returned (.tuple #[.agg #[.int .i64 sk, .int .i64 sn, .string sx], .int .i64 se]) ∧ Below W.heap.size W w') := Lib.hid (twoR hoa hob (e9))
  have T9' : Hid (∀ W, Calls Tryd.prog 9 #[.int .i64 9, .agg #[.int .i64 1, .int .i64 n, .string ⟨#[]⟩], .agg #[.int .i64 1, .int .i64 m, .string ⟨#[]⟩]] W fun r w' => r = .returned (.tuple #[.agg #[.int .i64 sk, .int .i64 sn, .string sx], .int .i64 se]) ∧ Below W.heap.size W w') := Lib.hid (twoR hob hoa (e9'))
  have T6 : Hid (∀ W, Calls Tryd.prog 9 #[.int .i64 6, .agg #[.int .i64 1, .int .i64 m, .string ⟨#[]⟩], .agg #[.int .i64 1, .int .i64 n, .string ⟨#[]⟩]] W fun r w' => r = .returned (.tuple #[.agg #[.int .i64 pk, .int .i64 pn, .string px], .int .i64 pe]) ∧ Below W.heap.size W w') := Lib.hid (twoR hoa hob (e6))
  have T6' : Hid (∀ W, Calls Tryd.prog 9 #[.int .i64 6, .agg #[.int .i64 1, .int .i64 n, .string ⟨#[]⟩], .agg #[.int .i64 1, .int .i64 m, .string ⟨#[]⟩]] W fun r w' => r = .returned (.tuple #[.agg #[.int .i64 pk, .int .i64 pn, .string px], .int .i64 pe]) ∧ Below W.heap.size W w') := Lib.hid (twoR hob hoa (e6'))
  have qs : ∀ w, (Op.equalIn 10000 23 (.agg #[.int .i64 sk, .int .i64 sn, .string sx]) (.agg #[.int .i64 sk, .int .i64 sn, .string sx])).run Tryd.prog w = .ok true w := fun w => by rw [eq_in, eqV_self]
  have qp : ∀ w, (Op.equalIn 10000 23 (.agg #[.int .i64 pk, .int .i64 pn, .string px]) (.agg #[.int .i64 pk, .int .i64 pn, .string px])).run Tryd.prog w = .ok true w := fun w => by rw [eq_in, eqV_self]
  have qa : ∀ w, (Op.equalIn 10000 23 (.agg #[.int .i64 1, .int .i64 m, .string ⟨#[]⟩]) (.agg #[.int .i64 1, .int .i64 m, .string ⟨#[]⟩])).run Tryd.prog w = .ok true w := fun w => by rw [eq_in, eqV_self]
  have HSV := Lib.hid hsv
  have HSE := Lib.hid hse
  have HM := Lib.hid hm
  have HN := Lib.hid hn
  have HOA := Lib.hid hoa
  have HOB := Lib.hid hob
  clear hS hP hse hsv hm hn hoa hob e9 e9' e6 e6'
  go_enter Tryd.func5, Tryd.ntmps5
  go_wp2_with fail
  refine HLv.out.mono ?_
  rintro r u1 ⟨rfl, hb1⟩
  have HB1 := Lib.hid hb1
  clear hb1 HLv
  dsimp only
  go_wp2_with fail
  refine (num6_any m _).mono ?_
  rintro r u2 ⟨rfl, hb2⟩
  have HB2 := Lib.hid (HB1.out.trans (hb2.mono HB1.out.size))
  clear hb2 HB1
  dsimp only
  go_wp2_with fail
  refine (num6_any n _).mono ?_
  rintro r u3 ⟨rfl, hb3⟩
  have hB3 := HB2.out.trans (hb3.mono HB2.out.size)
  dsimp only
  have hx4 := box_below u3 #[.int .i64 1, .int .i64 m, .string ⟨#[]⟩] 23
  have hx5 := box_below (u3.alloc (.cells #[.int .i64 1, .int .i64 m, .string ⟨#[]⟩] 23)) #[.int .i64 1, .int .i64 n, .string ⟨#[]⟩] 23
  have ha := (Boxed.new u3 1 m ⟨#[]⟩).below hx5
  have hbx : Boxed ((u3.alloc (.cells #[.int .i64 1, .int .i64 m, .string ⟨#[]⟩] 23)).alloc (.cells #[.int .i64 1, .int .i64 n, .string ⟨#[]⟩] 23)) (u3.heap.size + 1) ⟨1, n, ⟨#[]⟩⟩ := by
    have h := Boxed.new (u3.alloc (.cells #[.int .i64 1, .int .i64 m, .string ⟨#[]⟩] 23)) 1 n ⟨#[]⟩
    rwa [show (u3.alloc (.cells #[.int .i64 1, .int .i64 m, .string ⟨#[]⟩] 23)).heap.size = u3.heap.size + 1 from by simp] at h
  have hB := hB3.trans ((hx4.trans (hx5.mono hx4.size)).mono hB3.size)
  obtain ⟨u5, hw⟩ : ∃ y, (u3.alloc (.cells #[.int .i64 1, .int .i64 m, .string ⟨#[]⟩] 23)).alloc (.cells #[.int .i64 1, .int .i64 n, .string ⟨#[]⟩] 23) = y := ⟨_, rfl⟩
  rw [hw] at ha hbx hB
  obtain ⟨sa, hs⟩ : ∃ y, u3.heap.size = y := ⟨_, rfl⟩
  rw [hs] at ha hbx
  have HB := Lib.hid hB
  have Ha := Lib.hid ha
  have Hb := Lib.hid hbx
  have HW := Lib.hid hw
  have HS := Lib.hid hs
  clear hb3 hB3 hx4 hx5 ha hbx hB hw hs HB2
  go_upto_region 4 with fail
  rw [HW.out, HS.out]
  clear HW HS
  obtain ⟨ca0, ca1, ca2⟩ := Ha.out.cells
  simp only at ca0 ca1 ca2
  obtain ⟨cb0, cb1, cb2⟩ := Hb.out.cells
  simp only at cb0 cb1 cb2
  go_wp2_with fail
  refine (T9.out _).mono ?_
  rintro r v1 ⟨rfl, hb0⟩
  dsimp only
  have hb2 := box_below v1 #[.int .i64 sk, .int .i64 sn, .string sx] 23
  have hn : Boxed (v1.alloc (.cells #[.int .i64 sk, .int .i64 sn, .string sx] 23)) v1.heap.size ⟨sk, sn, sx⟩ := Boxed.new v1 sk sn sx
  have hbb := hb0.trans (hb2.mono hb0.size)
  have ha := Ha.out.below hbb
  have hb := Hb.out.below hbb
  have hB := HB.out.trans (hbb.mono HB.out.size)
  obtain ⟨w1, hw⟩ : ∃ y, v1.alloc (.cells #[.int .i64 sk, .int .i64 sn, .string sx] 23) = y := ⟨_, rfl⟩
  obtain ⟨ss, hsz⟩ : ∃ y, v1.heap.size = y := ⟨_, rfl⟩
  rw [hw] at hn hB ha hb
  rw [hsz] at hn
  clear hb0 hb2 hbb HB Ha Hb ca0 ca1 ca2 cb0 cb1 cb2
  have HB := Lib.hid hB
  have Ha := Lib.hid ha
  have Hb := Lib.hid hb
  have Hs := Lib.hid hn
  have HW := Lib.hid hw
  have HS := Lib.hid hsz
  clear hw hsz hB hn ha hb
  go_upto_region 5 with fail
  rw [HW.out, HS.out]
  clear HW HS
  obtain ⟨cb0, cb1, cb2⟩ := Hb.out.cells
  simp only at cb0 cb1 cb2
  obtain ⟨ca0, ca1, ca2⟩ := Ha.out.cells
  simp only at ca0 ca1 ca2
  go_wp2_with fail
  refine (T9'.out _).mono ?_
  rintro r v2 ⟨rfl, hb0⟩
  dsimp only
  have hb2 := box_below v2 #[.int .i64 sk, .int .i64 sn, .string sx] 23
  have hn : Boxed (v2.alloc (.cells #[.int .i64 sk, .int .i64 sn, .string sx] 23)) v2.heap.size ⟨sk, sn, sx⟩ := Boxed.new v2 sk sn sx
  have hbb := hb0.trans (hb2.mono hb0.size)
  have ha := Ha.out.below hbb
  have hb := Hb.out.below hbb
  have hs := Hs.out.below hbb
  have hB := HB.out.trans (hbb.mono HB.out.size)
  obtain ⟨w2, hw⟩ : ∃ y, v2.alloc (.cells #[.int .i64 sk, .int .i64 sn, .string sx] 23) = y := ⟨_, rfl⟩
  obtain ⟨st, hsz⟩ : ∃ y, v2.heap.size = y := ⟨_, rfl⟩
  rw [hw] at hn hB ha hb hs
  rw [hsz] at hn
  clear hb0 hb2 hbb HB Ha Hb Hs cb0 cb1 cb2 ca0 ca1 ca2
  have HB := Lib.hid hB
  have Ha := Lib.hid ha
  have Hb := Lib.hid hb
  have Hs := Lib.hid hs
  have Ht := Lib.hid hn
  have HW := Lib.hid hw
  have HS := Lib.hid hsz
  clear hw hsz hB hn ha hb hs
  go_upto_region 6 with fail
  rw [HW.out, HS.out]
  clear HW HS
  obtain ⟨ca0, ca1, ca2⟩ := Ha.out.cells
  simp only at ca0 ca1 ca2
  obtain ⟨cb0, cb1, cb2⟩ := Hb.out.cells
  simp only at cb0 cb1 cb2
  go_wp2_with fail
  refine (T6.out _).mono ?_
  rintro r v3 ⟨rfl, hb0⟩
  dsimp only
  have hb2 := box_below v3 #[.int .i64 pk, .int .i64 pn, .string px] 23
  have hn : Boxed (v3.alloc (.cells #[.int .i64 pk, .int .i64 pn, .string px] 23)) v3.heap.size ⟨pk, pn, px⟩ := Boxed.new v3 pk pn px
  have hbb := hb0.trans (hb2.mono hb0.size)
  have ha := Ha.out.below hbb
  have hb := Hb.out.below hbb
  have hs := Hs.out.below hbb
  have ht := Ht.out.below hbb
  have hB := HB.out.trans (hbb.mono HB.out.size)
  obtain ⟨w3, hw⟩ : ∃ y, v3.alloc (.cells #[.int .i64 pk, .int .i64 pn, .string px] 23) = y := ⟨_, rfl⟩
  obtain ⟨sp, hsz⟩ : ∃ y, v3.heap.size = y := ⟨_, rfl⟩
  rw [hw] at hn hB ha hb hs ht
  rw [hsz] at hn
  clear hb0 hb2 hbb HB Ha Hb Hs Ht ca0 ca1 ca2 cb0 cb1 cb2
  have HB := Lib.hid hB
  have Ha := Lib.hid ha
  have Hb := Lib.hid hb
  have Hs := Lib.hid hs
  have Ht := Lib.hid ht
  have Hp := Lib.hid hn
  have HW := Lib.hid hw
  have HS := Lib.hid hsz
  clear hw hsz hB hn ha hb hs ht
  go_upto_region 7 with fail
  rw [HW.out, HS.out]
  clear HW HS
  obtain ⟨cb0, cb1, cb2⟩ := Hb.out.cells
  simp only at cb0 cb1 cb2
  obtain ⟨ca0, ca1, ca2⟩ := Ha.out.cells
  simp only at ca0 ca1 ca2
  go_wp2_with fail
  refine (T6'.out _).mono ?_
  rintro r v4 ⟨rfl, hb0⟩
  dsimp only
  have hb2 := box_below v4 #[.int .i64 pk, .int .i64 pn, .string px] 23
  have hn : Boxed (v4.alloc (.cells #[.int .i64 pk, .int .i64 pn, .string px] 23)) v4.heap.size ⟨pk, pn, px⟩ := Boxed.new v4 pk pn px
  have hbb := hb0.trans (hb2.mono hb0.size)
  have ha := Ha.out.below hbb
  have hb := Hb.out.below hbb
  have hs := Hs.out.below hbb
  have ht := Ht.out.below hbb
  have hp := Hp.out.below hbb
  have hB := HB.out.trans (hbb.mono HB.out.size)
  obtain ⟨w4, hw⟩ : ∃ y, v4.alloc (.cells #[.int .i64 pk, .int .i64 pn, .string px] 23) = y := ⟨_, rfl⟩
  obtain ⟨sq, hsz⟩ : ∃ y, v4.heap.size = y := ⟨_, rfl⟩
  rw [hw] at hn hB ha hb hs ht hp
  rw [hsz] at hn
  clear hb0 hb2 hbb HB Ha Hb Hs Ht Hp cb0 cb1 cb2 ca0 ca1 ca2
  have HB := Lib.hid hB
  have Ha := Lib.hid ha
  have Hb := Lib.hid hb
  have Hs := Lib.hid hs
  have Ht := Lib.hid ht
  have Hp := Lib.hid hp
  have Hq := Lib.hid hn
  have HW := Lib.hid hw
  have HS := Lib.hid hsz
  clear hw hsz hB hn ha hb hs ht hp
  go_upto_region 8 with fail
  rw [HW.out, HS.out]
  clear HW HS
  clear T9 T9' T6 T6'
  obtain ⟨cs0, cs1, cs2⟩ := Hs.out.cells
  simp only at cs0 cs1 cs2
  obtain ⟨ct0, ct1, ct2⟩ := Ht.out.cells
  simp only at ct0 ct1 ct2
  obtain ⟨cp0, cp1, cp2⟩ := Hp.out.cells
  simp only at cp0 cp1 cp2
  obtain ⟨cq0, cq1, cq2⟩ := Hq.out.cells
  simp only at cq0 cq1 cq2
  by_cases hs0 : se = 0
  · obtain ⟨hsv, hsi⟩ := HSV.out hs0
    injection hsv with hsv _
    injection hsv with h1 h2 h3
    subst h1 h2 h3 hs0
    have e10 : twoV 10 ⟨1, m + n, ⟨#[]⟩⟩ ⟨1, n, ⟨#[]⟩⟩ = (⟨1, m, ⟨#[]⟩⟩, 0) := by rw [two_num (by decide), nums10, show m + n - n = m by omega, fitV_in HM.out]; rfl
    have hos := num_ok hsi
    have T10 : Hid (∀ W, Calls Tryd.prog 9 #[.int .i64 10, .agg #[.int .i64 1, .int .i64 (m + n), .string ⟨#[]⟩], .agg #[.int .i64 1, .int .i64 n, .string ⟨#[]⟩]] W fun r w' => r = .returned (.tuple #[.agg #[.int .i64 1, .int .i64 m, .string ⟨#[]⟩], .int .i64 0]) ∧ Below W.heap.size W w') := Lib.hid (twoR hos HOB.out (e10))
    clear e10 hos hsi
    obtain ⟨sm, hsm⟩ : ∃ y, m + n = y := ⟨_, rfl⟩
    rw [hsm] at T10 Hs Ht
    simp only [hsm] at cs1 ct1 qs
    clear hsm
    go_upto_region 11 with fail
    clear cs0 cs1 cs2 ct0 ct1 ct2 cp0 cp1 cp2 cq0 cq1 cq2
    obtain ⟨cs0, cs1, cs2⟩ := Hs.out.cells
    simp only at cs0 cs1 cs2
    obtain ⟨cb0, cb1, cb2⟩ := Hb.out.cells
    simp only at cb0 cb1 cb2
    go_wp2_with fail
    refine (T10.out _).mono ?_
    rintro r v5 ⟨rfl, hb0⟩
    dsimp only
    have hb2 := box_below v5 #[.int .i64 1, .int .i64 m, .string ⟨#[]⟩] 23
    have hn : Boxed (v5.alloc (.cells #[.int .i64 1, .int .i64 m, .string ⟨#[]⟩] 23)) v5.heap.size ⟨1, m, ⟨#[]⟩⟩ := Boxed.new v5 1 m ⟨#[]⟩
    have hbb := hb0.trans (hb2.mono hb0.size)
    have ha := Ha.out.below hbb
    have hb := Hb.out.below hbb
    have hs := Hs.out.below hbb
    have ht := Ht.out.below hbb
    have hp := Hp.out.below hbb
    have hq := Hq.out.below hbb
    have hB := HB.out.trans (hbb.mono HB.out.size)
    obtain ⟨w5, hw⟩ : ∃ y, v5.alloc (.cells #[.int .i64 1, .int .i64 m, .string ⟨#[]⟩] 23) = y := ⟨_, rfl⟩
    obtain ⟨sy, hsz⟩ : ∃ y, v5.heap.size = y := ⟨_, rfl⟩
    rw [hw] at hn hB ha hb hs ht hp hq
    rw [hsz] at hn
    clear hb0 hb2 hbb HB Ha Hb Hs Ht Hp Hq cs0 cs1 cs2 cb0 cb1 cb2
    have HB := Lib.hid hB
    have Ha := Lib.hid ha
    have Hb := Lib.hid hb
    have Hs := Lib.hid hs
    have Ht := Lib.hid ht
    have Hp := Lib.hid hp
    have Hq := Lib.hid hq
    have Hy := Lib.hid hn
    have HW := Lib.hid hw
    have HS := Lib.hid hsz
    clear hw hsz hB hn ha hb hs ht hp hq
    go_upto_region 12 with fail
    rw [HW.out, HS.out]
    clear HW HS
    obtain ⟨cy0, cy1, cy2⟩ := Hy.out.cells
    simp only at cy0 cy1 cy2
    obtain ⟨ca0, ca1, ca2⟩ := Ha.out.cells
    simp only at ca0 ca1 ca2
    by_cases hn0 : n = 0
    · subst hn0
      have e7 : twoV 7 ⟨1, m, ⟨#[]⟩⟩ ⟨1, 0, ⟨#[]⟩⟩ = (⟨0, 0, ⟨#[]⟩⟩, 62) := by rw [two_num (by decide), nums0 (by decide)]; rfl
      have e8 : twoV 8 ⟨1, m, ⟨#[]⟩⟩ ⟨1, 0, ⟨#[]⟩⟩ = (⟨0, 0, ⟨#[]⟩⟩, 62) := by rw [two_num (by decide), nums0 (by decide)]; rfl
      have T7 : Hid (∀ W, Calls Tryd.prog 9 #[.int .i64 7, .agg #[.int .i64 1, .int .i64 m, .string ⟨#[]⟩], .agg #[.int .i64 1, .int .i64 0, .string ⟨#[]⟩]] W fun r w' => r = .returned (.tuple #[.agg #[.int .i64 0, .int .i64 0, .string ⟨#[]⟩], .int .i64 62]) ∧ Below W.heap.size W w') := Lib.hid (twoR HOA.out HOB.out (e7))
      have T8 : Hid (∀ W, Calls Tryd.prog 9 #[.int .i64 8, .agg #[.int .i64 1, .int .i64 m, .string ⟨#[]⟩], .agg #[.int .i64 1, .int .i64 0, .string ⟨#[]⟩]] W fun r w' => r = .returned (.tuple #[.agg #[.int .i64 0, .int .i64 0, .string ⟨#[]⟩], .int .i64 62]) ∧ Below W.heap.size W w') := Lib.hid (twoR HOA.out HOB.out (e8))
      clear e7 e8
      go_upto_region 14 with fail
      clear cy0 cy1 cy2 ca0 ca1 ca2
      obtain ⟨ca0, ca1, ca2⟩ := Ha.out.cells
      simp only at ca0 ca1 ca2
      obtain ⟨cb0, cb1, cb2⟩ := Hb.out.cells
      simp only at cb0 cb1 cb2
      go_wp2_with fail
      refine (T7.out _).mono ?_
      rintro r v6 ⟨rfl, hb0⟩
      dsimp only
      have hb2 := box_below v6 #[.int .i64 0, .int .i64 0, .string ⟨#[]⟩] 23
      have hn : Boxed (v6.alloc (.cells #[.int .i64 0, .int .i64 0, .string ⟨#[]⟩] 23)) v6.heap.size ⟨0, 0, ⟨#[]⟩⟩ := Boxed.new v6 0 0 ⟨#[]⟩
      have hbb := hb0.trans (hb2.mono hb0.size)
      have ha := Ha.out.below hbb
      have hb := Hb.out.below hbb
      have hs := Hs.out.below hbb
      have ht := Ht.out.below hbb
      have hp := Hp.out.below hbb
      have hq := Hq.out.below hbb
      have hy := Hy.out.below hbb
      have hB := HB.out.trans (hbb.mono HB.out.size)
      obtain ⟨w6, hw⟩ : ∃ y, v6.alloc (.cells #[.int .i64 0, .int .i64 0, .string ⟨#[]⟩] 23) = y := ⟨_, rfl⟩
      obtain ⟨sd, hsz⟩ : ∃ y, v6.heap.size = y := ⟨_, rfl⟩
      rw [hw] at hn hB ha hb hs ht hp hq hy
      rw [hsz] at hn
      clear hb0 hb2 hbb HB Ha Hb Hs Ht Hp Hq Hy ca0 ca1 ca2 cb0 cb1 cb2
      have HB := Lib.hid hB
      have Ha := Lib.hid ha
      have Hb := Lib.hid hb
      have Hs := Lib.hid hs
      have Ht := Lib.hid ht
      have Hp := Lib.hid hp
      have Hq := Lib.hid hq
      have Hy := Lib.hid hy
      have Hd := Lib.hid hn
      have HW := Lib.hid hw
      have HS := Lib.hid hsz
      clear hw hsz hB hn ha hb hs ht hp hq hy
      go_upto_region 15 with fail
      rw [HW.out, HS.out]
      clear HW HS
      obtain ⟨ca0, ca1, ca2⟩ := Ha.out.cells
      simp only at ca0 ca1 ca2
      obtain ⟨cb0, cb1, cb2⟩ := Hb.out.cells
      simp only at cb0 cb1 cb2
      go_wp2_with fail
      refine (T8.out _).mono ?_
      rintro r v7 ⟨rfl, hb0⟩
      dsimp only
      have hb2 := box_below v7 #[.int .i64 0, .int .i64 0, .string ⟨#[]⟩] 23
      have hn : Boxed (v7.alloc (.cells #[.int .i64 0, .int .i64 0, .string ⟨#[]⟩] 23)) v7.heap.size ⟨0, 0, ⟨#[]⟩⟩ := Boxed.new v7 0 0 ⟨#[]⟩
      have hbb := hb0.trans (hb2.mono hb0.size)
      have ha := Ha.out.below hbb
      have hb := Hb.out.below hbb
      have hs := Hs.out.below hbb
      have ht := Ht.out.below hbb
      have hp := Hp.out.below hbb
      have hq := Hq.out.below hbb
      have hy := Hy.out.below hbb
      have hd := Hd.out.below hbb
      have hB := HB.out.trans (hbb.mono HB.out.size)
      obtain ⟨w7, hw⟩ : ∃ y, v7.alloc (.cells #[.int .i64 0, .int .i64 0, .string ⟨#[]⟩] 23) = y := ⟨_, rfl⟩
      obtain ⟨sr, hsz⟩ : ∃ y, v7.heap.size = y := ⟨_, rfl⟩
      rw [hw] at hn hB ha hb hs ht hp hq hy hd
      rw [hsz] at hn
      clear hb0 hb2 hbb HB Ha Hb Hs Ht Hp Hq Hy Hd ca0 ca1 ca2 cb0 cb1 cb2
      have HB := Lib.hid hB
      have Ha := Lib.hid ha
      have Hb := Lib.hid hb
      have Hs := Lib.hid hs
      have Ht := Lib.hid ht
      have Hp := Lib.hid hp
      have Hq := Lib.hid hq
      have Hy := Lib.hid hy
      have Hd := Lib.hid hd
      have Hr := Lib.hid hn
      have HW := Lib.hid hw
      have HS := Lib.hid hsz
      clear hw hsz hB hn ha hb hs ht hp hq hy hd
      go_upto_region 16 with fail
      rw [HW.out, HS.out]
      clear HW HS
      go_wp2
      go_ret
      exact ⟨rfl, HB.out⟩
    · have d0 : (n == 0) = false := by rw [beq_eq_false_iff_ne]; exact hn0
      by_cases hov : m = -9223372036854775808 ∧ n = -1
      · obtain ⟨rfl, rfl⟩ := hov
        have e7 : twoV 7 ⟨1, -9223372036854775808, ⟨#[]⟩⟩ ⟨1, -1, ⟨#[]⟩⟩ = (⟨0, 0, ⟨#[]⟩⟩, 9) := by kernel_rfl
        have e8 : twoV 8 ⟨1, -9223372036854775808, ⟨#[]⟩⟩ ⟨1, -1, ⟨#[]⟩⟩ = (⟨1, 0, ⟨#[]⟩⟩, 0) := by kernel_rfl
        have T7 : Hid (∀ W, Calls Tryd.prog 9 #[.int .i64 7, .agg #[.int .i64 1, .int .i64 (-9223372036854775808), .string ⟨#[]⟩], .agg #[.int .i64 1, .int .i64 (-1), .string ⟨#[]⟩]] W fun r w' => r = .returned (.tuple #[.agg #[.int .i64 0, .int .i64 0, .string ⟨#[]⟩], .int .i64 9]) ∧ Below W.heap.size W w') := Lib.hid (twoR HOA.out HOB.out (e7))
        have T8 : Hid (∀ W, Calls Tryd.prog 9 #[.int .i64 8, .agg #[.int .i64 1, .int .i64 (-9223372036854775808), .string ⟨#[]⟩], .agg #[.int .i64 1, .int .i64 (-1), .string ⟨#[]⟩]] W fun r w' => r = .returned (.tuple #[.agg #[.int .i64 1, .int .i64 0, .string ⟨#[]⟩], .int .i64 0]) ∧ Below W.heap.size W w') := Lib.hid (twoR HOA.out HOB.out (e8))
        clear e7 e8 hn0
        go_upto_region 14 with fail
        clear cy0 cy1 cy2 ca0 ca1 ca2
        obtain ⟨ca0, ca1, ca2⟩ := Ha.out.cells
        simp only at ca0 ca1 ca2
        obtain ⟨cb0, cb1, cb2⟩ := Hb.out.cells
        simp only at cb0 cb1 cb2
        go_wp2_with fail
        refine (T7.out _).mono ?_
        rintro r v6 ⟨rfl, hb0⟩
        dsimp only
        have hb2 := box_below v6 #[.int .i64 0, .int .i64 0, .string ⟨#[]⟩] 23
        have hn : Boxed (v6.alloc (.cells #[.int .i64 0, .int .i64 0, .string ⟨#[]⟩] 23)) v6.heap.size ⟨0, 0, ⟨#[]⟩⟩ := Boxed.new v6 0 0 ⟨#[]⟩
        have hbb := hb0.trans (hb2.mono hb0.size)
        have ha := Ha.out.below hbb
        have hb := Hb.out.below hbb
        have hs := Hs.out.below hbb
        have ht := Ht.out.below hbb
        have hp := Hp.out.below hbb
        have hq := Hq.out.below hbb
        have hy := Hy.out.below hbb
        have hB := HB.out.trans (hbb.mono HB.out.size)
        obtain ⟨w6, hw⟩ : ∃ y, v6.alloc (.cells #[.int .i64 0, .int .i64 0, .string ⟨#[]⟩] 23) = y := ⟨_, rfl⟩
        obtain ⟨sd, hsz⟩ : ∃ y, v6.heap.size = y := ⟨_, rfl⟩
        rw [hw] at hn hB ha hb hs ht hp hq hy
        rw [hsz] at hn
        clear hb0 hb2 hbb HB Ha Hb Hs Ht Hp Hq Hy ca0 ca1 ca2 cb0 cb1 cb2
        have HB := Lib.hid hB
        have Ha := Lib.hid ha
        have Hb := Lib.hid hb
        have Hs := Lib.hid hs
        have Ht := Lib.hid ht
        have Hp := Lib.hid hp
        have Hq := Lib.hid hq
        have Hy := Lib.hid hy
        have Hd := Lib.hid hn
        have HW := Lib.hid hw
        have HS := Lib.hid hsz
        clear hw hsz hB hn ha hb hs ht hp hq hy
        go_upto_region 15 with fail
        rw [HW.out, HS.out]
        clear HW HS
        obtain ⟨ca0, ca1, ca2⟩ := Ha.out.cells
        simp only at ca0 ca1 ca2
        obtain ⟨cb0, cb1, cb2⟩ := Hb.out.cells
        simp only at cb0 cb1 cb2
        go_wp2_with fail
        refine (T8.out _).mono ?_
        rintro r v7 ⟨rfl, hb0⟩
        dsimp only
        have hb2 := box_below v7 #[.int .i64 1, .int .i64 0, .string ⟨#[]⟩] 23
        have hn : Boxed (v7.alloc (.cells #[.int .i64 1, .int .i64 0, .string ⟨#[]⟩] 23)) v7.heap.size ⟨1, 0, ⟨#[]⟩⟩ := Boxed.new v7 1 0 ⟨#[]⟩
        have hbb := hb0.trans (hb2.mono hb0.size)
        have ha := Ha.out.below hbb
        have hb := Hb.out.below hbb
        have hs := Hs.out.below hbb
        have ht := Ht.out.below hbb
        have hp := Hp.out.below hbb
        have hq := Hq.out.below hbb
        have hy := Hy.out.below hbb
        have hd := Hd.out.below hbb
        have hB := HB.out.trans (hbb.mono HB.out.size)
        obtain ⟨w7, hw⟩ : ∃ y, v7.alloc (.cells #[.int .i64 1, .int .i64 0, .string ⟨#[]⟩] 23) = y := ⟨_, rfl⟩
        obtain ⟨sr, hsz⟩ : ∃ y, v7.heap.size = y := ⟨_, rfl⟩
        rw [hw] at hn hB ha hb hs ht hp hq hy hd
        rw [hsz] at hn
        clear hb0 hb2 hbb HB Ha Hb Hs Ht Hp Hq Hy Hd ca0 ca1 ca2 cb0 cb1 cb2
        have HB := Lib.hid hB
        have Ha := Lib.hid ha
        have Hb := Lib.hid hb
        have Hs := Lib.hid hs
        have Ht := Lib.hid ht
        have Hp := Lib.hid hp
        have Hq := Lib.hid hq
        have Hy := Lib.hid hy
        have Hd := Lib.hid hd
        have Hr := Lib.hid hn
        have HW := Lib.hid hw
        have HS := Lib.hid hsz
        clear hw hsz hB hn ha hb hs ht hp hq hy hd
        go_upto_region 16 with fail
        rw [HW.out, HS.out]
        clear HW HS
        have q0 : ∀ w, (Op.equalIn 10000 23 (.agg #[.int .i64 1, .int .i64 0, .string ⟨#[]⟩]) (.agg #[.int .i64 1, .int .i64 0, .string ⟨#[]⟩])).run Tryd.prog w = .ok true w := fun w => by rw [eq_in, eqV_self]
        go_upto_region 19 with fail
        have HNu := Lib.hid (num6_from 0 w7)
        have HCl : Hid (∀ w', Below w7.heap.size w7 w' → w'.cell? ⟨sr, 0, none⟩ = some (.int .i64 1) ∧ w'.cell? ⟨sr, 1, none⟩ = some (.int .i64 0) ∧ w'.cell? ⟨sr, 2, none⟩ = some (.string ⟨#[]⟩)) := Lib.hid (fun w' hb => (Hr.out.below hb).cells)
        refine wp_region_class' (C := fun w' => Below w7.heap.size w7 w') (by kernel_rfl) (by kernel_rfl) (Below.refl _ _).drew ?_
        repeat (quiet_step (first
          | (intro hw; with_reducible exact HNu.out _ hw)
          | (intro _; with_reducible rfl)
          | (intro hw; obtain ⟨c0, c1, c2⟩ := HCl.out _ hw; go_simp; with_reducible exact ⟨rfl, rfl⟩)
          | (intro hw; obtain ⟨c0, c1, c2⟩ := HCl.out _ hw; go_simp; with_reducible rfl)
          | (intro hw; go_simp; with_reducible exact ⟨rfl, rfl⟩)))
        refine wpQuiet_nil ?_
        intro x1 hx1
        go_wp2_with fail
        go_ret
        exact ⟨rfl, HB.out.trans (hx1.mono HB.out.size)⟩
      · have hdi : inI (m.tdiv n) := tdiv_in HM.out hn0 hov
        have hmi : inI (m.tmod n) := tmod_in HM.out
        have hpi : inI (m.tdiv n * n) := prod_in HM.out
        have hdm := div_mod m n
        have hsg := tmod_sign m n
        have hlt := tmod_lt' (m := m) hn0
        have e7 : twoV 7 ⟨1, m, ⟨#[]⟩⟩ ⟨1, n, ⟨#[]⟩⟩ = (⟨1, m.tdiv n, ⟨#[]⟩⟩, 0) := by rw [two_num (by decide), nums7 hn0, fitV_in hdi]; rfl
        have e8 : twoV 8 ⟨1, m, ⟨#[]⟩⟩ ⟨1, n, ⟨#[]⟩⟩ = (⟨1, m.tmod n, ⟨#[]⟩⟩, 0) := by rw [two_num (by decide), nums8 hn0, fitV_in hmi]; rfl
        have eX : twoV 6 ⟨1, m.tdiv n, ⟨#[]⟩⟩ ⟨1, n, ⟨#[]⟩⟩ = (⟨1, m.tdiv n * n, ⟨#[]⟩⟩, 0) := by rw [two_num (by decide), nums6, fitV_in hpi]; rfl
        have eZ : twoV 9 ⟨1, m.tdiv n * n, ⟨#[]⟩⟩ ⟨1, m.tmod n, ⟨#[]⟩⟩ = (⟨1, m, ⟨#[]⟩⟩, 0) := by rw [two_num (by decide), nums9, hdm, fitV_in HM.out]; rfl
        have hod := num_ok hdi
        have hor := num_ok hmi
        have hox := num_ok hpi
        obtain ⟨dd, hdd⟩ : ∃ d, m.tdiv n = d := ⟨_, rfl⟩
        rw [hdd] at e7 eX eZ hod hox
        obtain ⟨xx, hxx⟩ : ∃ x, dd * n = x := ⟨_, rfl⟩
        rw [hxx] at eX eZ hox
        obtain ⟨rr, hrr⟩ : ∃ r, m.tmod n = r := ⟨_, rfl⟩
        rw [hrr] at e8 eZ hor hsg hlt hmi
        clear hdi hpi hdm hdd hxx hrr hov
        have T7 : Hid (∀ W, Calls Tryd.prog 9 #[.int .i64 7, .agg #[.int .i64 1, .int .i64 m, .string ⟨#[]⟩], .agg #[.int .i64 1, .int .i64 n, .string ⟨#[]⟩]] W fun r w' => r = .returned (.tuple #[.agg #[.int .i64 1, .int .i64 dd, .string ⟨#[]⟩], .int .i64 0]) ∧ Below W.heap.size W w') := Lib.hid (twoR HOA.out HOB.out (e7))
        have T8 : Hid (∀ W, Calls Tryd.prog 9 #[.int .i64 8, .agg #[.int .i64 1, .int .i64 m, .string ⟨#[]⟩], .agg #[.int .i64 1, .int .i64 n, .string ⟨#[]⟩]] W fun r w' => r = .returned (.tuple #[.agg #[.int .i64 1, .int .i64 rr, .string ⟨#[]⟩], .int .i64 0]) ∧ Below W.heap.size W w') := Lib.hid (twoR HOA.out HOB.out (e8))
        have TX : Hid (∀ W, Calls Tryd.prog 9 #[.int .i64 6, .agg #[.int .i64 1, .int .i64 dd, .string ⟨#[]⟩], .agg #[.int .i64 1, .int .i64 n, .string ⟨#[]⟩]] W fun r w' => r = .returned (.tuple #[.agg #[.int .i64 1, .int .i64 xx, .string ⟨#[]⟩], .int .i64 0]) ∧ Below W.heap.size W w') := Lib.hid (twoR hod HOB.out (eX))
        have TZ : Hid (∀ W, Calls Tryd.prog 9 #[.int .i64 9, .agg #[.int .i64 1, .int .i64 xx, .string ⟨#[]⟩], .agg #[.int .i64 1, .int .i64 rr, .string ⟨#[]⟩]] W fun r w' => r = .returned (.tuple #[.agg #[.int .i64 1, .int .i64 m, .string ⟨#[]⟩], .int .i64 0]) ∧ Below W.heap.size W w') := Lib.hid (twoR hox hor (eZ))
        have HSG := Lib.hid hsg
        have HLT := Lib.hid hlt
        have HMI := Lib.hid hmi
        have HN0 := Lib.hid hn0
        clear e7 e8 eX eZ hod hor hox hsg hlt hmi hn0
        go_upto_region 14 with fail
        clear cy0 cy1 cy2 ca0 ca1 ca2
        obtain ⟨ca0, ca1, ca2⟩ := Ha.out.cells
        simp only at ca0 ca1 ca2
        obtain ⟨cb0, cb1, cb2⟩ := Hb.out.cells
        simp only at cb0 cb1 cb2
        go_wp2_with fail
        refine (T7.out _).mono ?_
        rintro r v6 ⟨rfl, hb0⟩
        dsimp only
        have hb2 := box_below v6 #[.int .i64 1, .int .i64 dd, .string ⟨#[]⟩] 23
        have hn : Boxed (v6.alloc (.cells #[.int .i64 1, .int .i64 dd, .string ⟨#[]⟩] 23)) v6.heap.size ⟨1, dd, ⟨#[]⟩⟩ := Boxed.new v6 1 dd ⟨#[]⟩
        have hbb := hb0.trans (hb2.mono hb0.size)
        have ha := Ha.out.below hbb
        have hb := Hb.out.below hbb
        have hs := Hs.out.below hbb
        have ht := Ht.out.below hbb
        have hp := Hp.out.below hbb
        have hq := Hq.out.below hbb
        have hy := Hy.out.below hbb
        have hB := HB.out.trans (hbb.mono HB.out.size)
        obtain ⟨w6, hw⟩ : ∃ y, v6.alloc (.cells #[.int .i64 1, .int .i64 dd, .string ⟨#[]⟩] 23) = y := ⟨_, rfl⟩
        obtain ⟨sd, hsz⟩ : ∃ y, v6.heap.size = y := ⟨_, rfl⟩
        rw [hw] at hn hB ha hb hs ht hp hq hy
        rw [hsz] at hn
        clear hb0 hb2 hbb HB Ha Hb Hs Ht Hp Hq Hy ca0 ca1 ca2 cb0 cb1 cb2
        have HB := Lib.hid hB
        have Ha := Lib.hid ha
        have Hb := Lib.hid hb
        have Hs := Lib.hid hs
        have Ht := Lib.hid ht
        have Hp := Lib.hid hp
        have Hq := Lib.hid hq
        have Hy := Lib.hid hy
        have Hd := Lib.hid hn
        have HW := Lib.hid hw
        have HS := Lib.hid hsz
        clear hw hsz hB hn ha hb hs ht hp hq hy
        go_upto_region 15 with fail
        rw [HW.out, HS.out]
        clear HW HS
        obtain ⟨ca0, ca1, ca2⟩ := Ha.out.cells
        simp only at ca0 ca1 ca2
        obtain ⟨cb0, cb1, cb2⟩ := Hb.out.cells
        simp only at cb0 cb1 cb2
        go_wp2_with fail
        refine (T8.out _).mono ?_
        rintro r v7 ⟨rfl, hb0⟩
        dsimp only
        have hb2 := box_below v7 #[.int .i64 1, .int .i64 rr, .string ⟨#[]⟩] 23
        have hn : Boxed (v7.alloc (.cells #[.int .i64 1, .int .i64 rr, .string ⟨#[]⟩] 23)) v7.heap.size ⟨1, rr, ⟨#[]⟩⟩ := Boxed.new v7 1 rr ⟨#[]⟩
        have hbb := hb0.trans (hb2.mono hb0.size)
        have ha := Ha.out.below hbb
        have hb := Hb.out.below hbb
        have hs := Hs.out.below hbb
        have ht := Ht.out.below hbb
        have hp := Hp.out.below hbb
        have hq := Hq.out.below hbb
        have hy := Hy.out.below hbb
        have hd := Hd.out.below hbb
        have hB := HB.out.trans (hbb.mono HB.out.size)
        obtain ⟨w7, hw⟩ : ∃ y, v7.alloc (.cells #[.int .i64 1, .int .i64 rr, .string ⟨#[]⟩] 23) = y := ⟨_, rfl⟩
        obtain ⟨sr, hsz⟩ : ∃ y, v7.heap.size = y := ⟨_, rfl⟩
        rw [hw] at hn hB ha hb hs ht hp hq hy hd
        rw [hsz] at hn
        clear hb0 hb2 hbb HB Ha Hb Hs Ht Hp Hq Hy Hd ca0 ca1 ca2 cb0 cb1 cb2
        have HB := Lib.hid hB
        have Ha := Lib.hid ha
        have Hb := Lib.hid hb
        have Hs := Lib.hid hs
        have Ht := Lib.hid ht
        have Hp := Lib.hid hp
        have Hq := Lib.hid hq
        have Hy := Lib.hid hy
        have Hd := Lib.hid hd
        have Hr := Lib.hid hn
        have HW := Lib.hid hw
        have HS := Lib.hid hsz
        clear hw hsz hB hn ha hb hs ht hp hq hy hd
        go_upto_region 16 with fail
        rw [HW.out, HS.out]
        clear HW HS
        go_upto_region 20 with fail
        obtain ⟨cd0, cd1, cd2⟩ := Hd.out.cells
        simp only at cd0 cd1 cd2
        obtain ⟨cb0, cb1, cb2⟩ := Hb.out.cells
        simp only at cb0 cb1 cb2
        go_wp2_with fail
        refine (TX.out _).mono ?_
        rintro r v8 ⟨rfl, hb0⟩
        dsimp only
        have hb2 := box_below v8 #[.int .i64 1, .int .i64 xx, .string ⟨#[]⟩] 23
        have hn : Boxed (v8.alloc (.cells #[.int .i64 1, .int .i64 xx, .string ⟨#[]⟩] 23)) v8.heap.size ⟨1, xx, ⟨#[]⟩⟩ := Boxed.new v8 1 xx ⟨#[]⟩
        have hbb := hb0.trans (hb2.mono hb0.size)
        have ha := Ha.out.below hbb
        have hb := Hb.out.below hbb
        have hs := Hs.out.below hbb
        have ht := Ht.out.below hbb
        have hp := Hp.out.below hbb
        have hq := Hq.out.below hbb
        have hy := Hy.out.below hbb
        have hd := Hd.out.below hbb
        have hr := Hr.out.below hbb
        have hB := HB.out.trans (hbb.mono HB.out.size)
        obtain ⟨w8, hw⟩ : ∃ y, v8.alloc (.cells #[.int .i64 1, .int .i64 xx, .string ⟨#[]⟩] 23) = y := ⟨_, rfl⟩
        obtain ⟨sx, hsz⟩ : ∃ y, v8.heap.size = y := ⟨_, rfl⟩
        rw [hw] at hn hB ha hb hs ht hp hq hy hd hr
        rw [hsz] at hn
        clear hb0 hb2 hbb HB Ha Hb Hs Ht Hp Hq Hy Hd Hr cd0 cd1 cd2 cb0 cb1 cb2
        have HB := Lib.hid hB
        have Ha := Lib.hid ha
        have Hb := Lib.hid hb
        have Hs := Lib.hid hs
        have Ht := Lib.hid ht
        have Hp := Lib.hid hp
        have Hq := Lib.hid hq
        have Hy := Lib.hid hy
        have Hd := Lib.hid hd
        have Hr := Lib.hid hr
        have Hx := Lib.hid hn
        have HW := Lib.hid hw
        have HS := Lib.hid hsz
        clear hw hsz hB hn ha hb hs ht hp hq hy hd hr
        go_upto_region 21 with fail
        rw [HW.out, HS.out]
        clear HW HS
        obtain ⟨cx0, cx1, cx2⟩ := Hx.out.cells
        simp only at cx0 cx1 cx2
        obtain ⟨cr0, cr1, cr2⟩ := Hr.out.cells
        simp only at cr0 cr1 cr2
        obtain ⟨ca0, ca1, ca2⟩ := Ha.out.cells
        simp only at ca0 ca1 ca2
        go_wp2_with fail
        refine (TZ.out _).mono ?_
        rintro r v9 ⟨rfl, hb⟩
        dsimp only
        have hHa := (Ha.out.below hb).alloc2 (.cells #[.int .i64 1, .int .i64 m, .string ⟨#[]⟩] 23)
        have hHr := (Hr.out.below hb).alloc2 (.cells #[.int .i64 1, .int .i64 m, .string ⟨#[]⟩] 23)
        have HBF := Lib.hid ((HB.out.trans (hb.mono HB.out.size)).alloc (HB.out.trans (hb.mono HB.out.size)).size (.cells #[.int .i64 1, .int .i64 m, .string ⟨#[]⟩] 23))
        clear cx0 cx1 cx2 cr0 cr1 cr2 ca0 ca1 ca2
        obtain ⟨ca0, ca1, ca2⟩ := hHa.cells
        obtain ⟨cr0, cr1, cr2⟩ := hHr.cells
        simp only at ca0 ca1 ca2 cr0 cr1 cr2
        clear hHa hHr hb HB Ha Hb Hs Ht Hp Hq Hd Hr Hx
        have hm1 := HM.out
        have hn1 := HN.out
        have hr1 := HMI.out
        have hlt := HLT.out
        have hsg := HSG.out
        have hn0 := HN0.out
        unfold inI at hr1
        have hR : ((rr == 0) = true) ∨ ((rr == 0) = false ∧ decide (rr < 0) = decide (m < 0)) := by
          by_cases h : rr = 0
          · exact .inl (by rw [beq_iff_eq]; exact h)
          · refine .inr ⟨by rw [beq_eq_false_iff_ne]; exact h, ?_⟩
            rw [decide_eq_decide]
            exact hsg.resolve_left h
        have hNn : (decide (n < 0) = true ∧ decide (n < rr) = true ∧ wrap64 (-n) = -n ∧ decide (rr < -n) = true) ∨ (n = -9223372036854775808 ∧ decide (-9223372036854775808 < rr) = true ∧ decide (rr < -9223372036854775808) = false) ∨ (decide (n < 0) = false ∧ decide (0 < n) = true ∧ wrap64 (-n) = -n ∧ decide (-n < rr) = true ∧ decide (rr < n) = true) := by
          by_cases h : n < 0
          · by_cases h2 : n = -9223372036854775808
            · exact .inr (.inl ⟨h2, by rw [decide_eq_true_iff]; omega, by rw [decide_eq_false_iff_not]; omega⟩)
            · exact .inl ⟨by rw [decide_eq_true_iff]; omega, by rw [decide_eq_true_iff]; omega, IntWalk.wrap64_in _ (by omega), by rw [decide_eq_true_iff]; omega⟩
          · exact .inr (.inr ⟨by rw [decide_eq_false_iff_not]; omega, by rw [decide_eq_true_iff]; omega, IntWalk.wrap64_in _ (by omega), by rw [decide_eq_true_iff]; omega, by rw [decide_eq_true_iff]; omega⟩)
        clear hm1 hn1 hr1 hlt hsg hn0
        have hMm : decide (m < 0) = true ∨ decide (m < 0) = false := by cases decide (m < 0); exact .inr rfl; exact .inl rfl
        go_upto_region 22 with fail
        simp only [List.append_eq, List.cons_append, List.nil_append]
        rcases hR with z1 | ⟨z1, z2⟩
        · rcases hNn with ⟨n1, n2, n3, n4⟩ | ⟨rfl, n2, n3⟩ | ⟨n1, n2, n3, n4, n5⟩
          all_goals
            go_wp2
            all_goals (go_ret; exact ⟨rfl, HBF.out⟩)
        · rcases hMm with m1 | m1
          all_goals
            rw [m1] at z2
            rcases hNn with ⟨n1, n2, n3, n4⟩ | ⟨rfl, n2, n3⟩ | ⟨n1, n2, n3, n4, n5⟩
            all_goals
              go_wp2
              all_goals (go_ret; exact ⟨rfl, HBF.out⟩)
  · have ds0 : (se == 0) = false := by rw [beq_eq_false_iff_ne]; exact hs0
    clear hs0
    by_cases hn0 : n = 0
    · subst hn0
      have e7 : twoV 7 ⟨1, m, ⟨#[]⟩⟩ ⟨1, 0, ⟨#[]⟩⟩ = (⟨0, 0, ⟨#[]⟩⟩, 62) := by rw [two_num (by decide), nums0 (by decide)]; rfl
      have e8 : twoV 8 ⟨1, m, ⟨#[]⟩⟩ ⟨1, 0, ⟨#[]⟩⟩ = (⟨0, 0, ⟨#[]⟩⟩, 62) := by rw [two_num (by decide), nums0 (by decide)]; rfl
      have T7 : Hid (∀ W, Calls Tryd.prog 9 #[.int .i64 7, .agg #[.int .i64 1, .int .i64 m, .string ⟨#[]⟩], .agg #[.int .i64 1, .int .i64 0, .string ⟨#[]⟩]] W fun r w' => r = .returned (.tuple #[.agg #[.int .i64 0, .int .i64 0, .string ⟨#[]⟩], .int .i64 62]) ∧ Below W.heap.size W w') := Lib.hid (twoR HOA.out HOB.out (e7))
      have T8 : Hid (∀ W, Calls Tryd.prog 9 #[.int .i64 8, .agg #[.int .i64 1, .int .i64 m, .string ⟨#[]⟩], .agg #[.int .i64 1, .int .i64 0, .string ⟨#[]⟩]] W fun r w' => r = .returned (.tuple #[.agg #[.int .i64 0, .int .i64 0, .string ⟨#[]⟩], .int .i64 62]) ∧ Below W.heap.size W w') := Lib.hid (twoR HOA.out HOB.out (e8))
      clear e7 e8
      go_upto_region 14 with fail
      clear cs0 cs1 cs2 ct0 ct1 ct2 cp0 cp1 cp2 cq0 cq1 cq2
      obtain ⟨ca0, ca1, ca2⟩ := Ha.out.cells
      simp only at ca0 ca1 ca2
      obtain ⟨cb0, cb1, cb2⟩ := Hb.out.cells
      simp only at cb0 cb1 cb2
      go_wp2_with fail
      refine (T7.out _).mono ?_
      rintro r v5 ⟨rfl, hb0⟩
      dsimp only
      have hb2 := box_below v5 #[.int .i64 0, .int .i64 0, .string ⟨#[]⟩] 23
      have hn : Boxed (v5.alloc (.cells #[.int .i64 0, .int .i64 0, .string ⟨#[]⟩] 23)) v5.heap.size ⟨0, 0, ⟨#[]⟩⟩ := Boxed.new v5 0 0 ⟨#[]⟩
      have hbb := hb0.trans (hb2.mono hb0.size)
      have ha := Ha.out.below hbb
      have hb := Hb.out.below hbb
      have hs := Hs.out.below hbb
      have ht := Ht.out.below hbb
      have hp := Hp.out.below hbb
      have hq := Hq.out.below hbb
      have hB := HB.out.trans (hbb.mono HB.out.size)
      obtain ⟨w5, hw⟩ : ∃ y, v5.alloc (.cells #[.int .i64 0, .int .i64 0, .string ⟨#[]⟩] 23) = y := ⟨_, rfl⟩
      obtain ⟨sd, hsz⟩ : ∃ y, v5.heap.size = y := ⟨_, rfl⟩
      rw [hw] at hn hB ha hb hs ht hp hq
      rw [hsz] at hn
      clear hb0 hb2 hbb HB Ha Hb Hs Ht Hp Hq ca0 ca1 ca2 cb0 cb1 cb2
      have HB := Lib.hid hB
      have Ha := Lib.hid ha
      have Hb := Lib.hid hb
      have Hs := Lib.hid hs
      have Ht := Lib.hid ht
      have Hp := Lib.hid hp
      have Hq := Lib.hid hq
      have Hd := Lib.hid hn
      have HW := Lib.hid hw
      have HS := Lib.hid hsz
      clear hw hsz hB hn ha hb hs ht hp hq
      go_upto_region 15 with fail
      rw [HW.out, HS.out]
      clear HW HS
      obtain ⟨ca0, ca1, ca2⟩ := Ha.out.cells
      simp only at ca0 ca1 ca2
      obtain ⟨cb0, cb1, cb2⟩ := Hb.out.cells
      simp only at cb0 cb1 cb2
      go_wp2_with fail
      refine (T8.out _).mono ?_
      rintro r v6 ⟨rfl, hb0⟩
      dsimp only
      have hb2 := box_below v6 #[.int .i64 0, .int .i64 0, .string ⟨#[]⟩] 23
      have hn : Boxed (v6.alloc (.cells #[.int .i64 0, .int .i64 0, .string ⟨#[]⟩] 23)) v6.heap.size ⟨0, 0, ⟨#[]⟩⟩ := Boxed.new v6 0 0 ⟨#[]⟩
      have hbb := hb0.trans (hb2.mono hb0.size)
      have ha := Ha.out.below hbb
      have hb := Hb.out.below hbb
      have hs := Hs.out.below hbb
      have ht := Ht.out.below hbb
      have hp := Hp.out.below hbb
      have hq := Hq.out.below hbb
      have hd := Hd.out.below hbb
      have hB := HB.out.trans (hbb.mono HB.out.size)
      obtain ⟨w6, hw⟩ : ∃ y, v6.alloc (.cells #[.int .i64 0, .int .i64 0, .string ⟨#[]⟩] 23) = y := ⟨_, rfl⟩
      obtain ⟨sr, hsz⟩ : ∃ y, v6.heap.size = y := ⟨_, rfl⟩
      rw [hw] at hn hB ha hb hs ht hp hq hd
      rw [hsz] at hn
      clear hb0 hb2 hbb HB Ha Hb Hs Ht Hp Hq Hd ca0 ca1 ca2 cb0 cb1 cb2
      have HB := Lib.hid hB
      have Ha := Lib.hid ha
      have Hb := Lib.hid hb
      have Hs := Lib.hid hs
      have Ht := Lib.hid ht
      have Hp := Lib.hid hp
      have Hq := Lib.hid hq
      have Hd := Lib.hid hd
      have Hr := Lib.hid hn
      have HW := Lib.hid hw
      have HS := Lib.hid hsz
      clear hw hsz hB hn ha hb hs ht hp hq hd
      go_upto_region 16 with fail
      rw [HW.out, HS.out]
      clear HW HS
      go_wp2
      go_ret
      exact ⟨rfl, HB.out⟩
    · have d0 : (n == 0) = false := by rw [beq_eq_false_iff_ne]; exact hn0
      by_cases hov : m = -9223372036854775808 ∧ n = -1
      · obtain ⟨rfl, rfl⟩ := hov
        have e7 : twoV 7 ⟨1, -9223372036854775808, ⟨#[]⟩⟩ ⟨1, -1, ⟨#[]⟩⟩ = (⟨0, 0, ⟨#[]⟩⟩, 9) := by kernel_rfl
        have e8 : twoV 8 ⟨1, -9223372036854775808, ⟨#[]⟩⟩ ⟨1, -1, ⟨#[]⟩⟩ = (⟨1, 0, ⟨#[]⟩⟩, 0) := by kernel_rfl
        have T7 : Hid (∀ W, Calls Tryd.prog 9 #[.int .i64 7, .agg #[.int .i64 1, .int .i64 (-9223372036854775808), .string ⟨#[]⟩], .agg #[.int .i64 1, .int .i64 (-1), .string ⟨#[]⟩]] W fun r w' => r = .returned (.tuple #[.agg #[.int .i64 0, .int .i64 0, .string ⟨#[]⟩], .int .i64 9]) ∧ Below W.heap.size W w') := Lib.hid (twoR HOA.out HOB.out (e7))
        have T8 : Hid (∀ W, Calls Tryd.prog 9 #[.int .i64 8, .agg #[.int .i64 1, .int .i64 (-9223372036854775808), .string ⟨#[]⟩], .agg #[.int .i64 1, .int .i64 (-1), .string ⟨#[]⟩]] W fun r w' => r = .returned (.tuple #[.agg #[.int .i64 1, .int .i64 0, .string ⟨#[]⟩], .int .i64 0]) ∧ Below W.heap.size W w') := Lib.hid (twoR HOA.out HOB.out (e8))
        clear e7 e8 hn0
        go_upto_region 14 with fail
        clear cs0 cs1 cs2 ct0 ct1 ct2 cp0 cp1 cp2 cq0 cq1 cq2
        obtain ⟨ca0, ca1, ca2⟩ := Ha.out.cells
        simp only at ca0 ca1 ca2
        obtain ⟨cb0, cb1, cb2⟩ := Hb.out.cells
        simp only at cb0 cb1 cb2
        go_wp2_with fail
        refine (T7.out _).mono ?_
        rintro r v5 ⟨rfl, hb0⟩
        dsimp only
        have hb2 := box_below v5 #[.int .i64 0, .int .i64 0, .string ⟨#[]⟩] 23
        have hn : Boxed (v5.alloc (.cells #[.int .i64 0, .int .i64 0, .string ⟨#[]⟩] 23)) v5.heap.size ⟨0, 0, ⟨#[]⟩⟩ := Boxed.new v5 0 0 ⟨#[]⟩
        have hbb := hb0.trans (hb2.mono hb0.size)
        have ha := Ha.out.below hbb
        have hb := Hb.out.below hbb
        have hs := Hs.out.below hbb
        have ht := Ht.out.below hbb
        have hp := Hp.out.below hbb
        have hq := Hq.out.below hbb
        have hB := HB.out.trans (hbb.mono HB.out.size)
        obtain ⟨w5, hw⟩ : ∃ y, v5.alloc (.cells #[.int .i64 0, .int .i64 0, .string ⟨#[]⟩] 23) = y := ⟨_, rfl⟩
        obtain ⟨sd, hsz⟩ : ∃ y, v5.heap.size = y := ⟨_, rfl⟩
        rw [hw] at hn hB ha hb hs ht hp hq
        rw [hsz] at hn
        clear hb0 hb2 hbb HB Ha Hb Hs Ht Hp Hq ca0 ca1 ca2 cb0 cb1 cb2
        have HB := Lib.hid hB
        have Ha := Lib.hid ha
        have Hb := Lib.hid hb
        have Hs := Lib.hid hs
        have Ht := Lib.hid ht
        have Hp := Lib.hid hp
        have Hq := Lib.hid hq
        have Hd := Lib.hid hn
        have HW := Lib.hid hw
        have HS := Lib.hid hsz
        clear hw hsz hB hn ha hb hs ht hp hq
        go_upto_region 15 with fail
        rw [HW.out, HS.out]
        clear HW HS
        obtain ⟨ca0, ca1, ca2⟩ := Ha.out.cells
        simp only at ca0 ca1 ca2
        obtain ⟨cb0, cb1, cb2⟩ := Hb.out.cells
        simp only at cb0 cb1 cb2
        go_wp2_with fail
        refine (T8.out _).mono ?_
        rintro r v6 ⟨rfl, hb0⟩
        dsimp only
        have hb2 := box_below v6 #[.int .i64 1, .int .i64 0, .string ⟨#[]⟩] 23
        have hn : Boxed (v6.alloc (.cells #[.int .i64 1, .int .i64 0, .string ⟨#[]⟩] 23)) v6.heap.size ⟨1, 0, ⟨#[]⟩⟩ := Boxed.new v6 1 0 ⟨#[]⟩
        have hbb := hb0.trans (hb2.mono hb0.size)
        have ha := Ha.out.below hbb
        have hb := Hb.out.below hbb
        have hs := Hs.out.below hbb
        have ht := Ht.out.below hbb
        have hp := Hp.out.below hbb
        have hq := Hq.out.below hbb
        have hd := Hd.out.below hbb
        have hB := HB.out.trans (hbb.mono HB.out.size)
        obtain ⟨w6, hw⟩ : ∃ y, v6.alloc (.cells #[.int .i64 1, .int .i64 0, .string ⟨#[]⟩] 23) = y := ⟨_, rfl⟩
        obtain ⟨sr, hsz⟩ : ∃ y, v6.heap.size = y := ⟨_, rfl⟩
        rw [hw] at hn hB ha hb hs ht hp hq hd
        rw [hsz] at hn
        clear hb0 hb2 hbb HB Ha Hb Hs Ht Hp Hq Hd ca0 ca1 ca2 cb0 cb1 cb2
        have HB := Lib.hid hB
        have Ha := Lib.hid ha
        have Hb := Lib.hid hb
        have Hs := Lib.hid hs
        have Ht := Lib.hid ht
        have Hp := Lib.hid hp
        have Hq := Lib.hid hq
        have Hd := Lib.hid hd
        have Hr := Lib.hid hn
        have HW := Lib.hid hw
        have HS := Lib.hid hsz
        clear hw hsz hB hn ha hb hs ht hp hq hd
        go_upto_region 16 with fail
        rw [HW.out, HS.out]
        clear HW HS
        have q0 : ∀ w, (Op.equalIn 10000 23 (.agg #[.int .i64 1, .int .i64 0, .string ⟨#[]⟩]) (.agg #[.int .i64 1, .int .i64 0, .string ⟨#[]⟩])).run Tryd.prog w = .ok true w := fun w => by rw [eq_in, eqV_self]
        go_upto_region 19 with fail
        have HNu := Lib.hid (num6_from 0 w6)
        have HCl : Hid (∀ w', Below w6.heap.size w6 w' → w'.cell? ⟨sr, 0, none⟩ = some (.int .i64 1) ∧ w'.cell? ⟨sr, 1, none⟩ = some (.int .i64 0) ∧ w'.cell? ⟨sr, 2, none⟩ = some (.string ⟨#[]⟩)) := Lib.hid (fun w' hb => (Hr.out.below hb).cells)
        refine wp_region_class' (C := fun w' => Below w6.heap.size w6 w') (by kernel_rfl) (by kernel_rfl) (Below.refl _ _).drew ?_
        repeat (quiet_step (first
          | (intro hw; with_reducible exact HNu.out _ hw)
          | (intro _; with_reducible rfl)
          | (intro hw; obtain ⟨c0, c1, c2⟩ := HCl.out _ hw; go_simp; with_reducible exact ⟨rfl, rfl⟩)
          | (intro hw; obtain ⟨c0, c1, c2⟩ := HCl.out _ hw; go_simp; with_reducible rfl)
          | (intro hw; go_simp; with_reducible exact ⟨rfl, rfl⟩)))
        refine wpQuiet_nil ?_
        intro x1 hx1
        go_wp2_with fail
        go_ret
        exact ⟨rfl, HB.out.trans (hx1.mono HB.out.size)⟩
      · have hdi : inI (m.tdiv n) := tdiv_in HM.out hn0 hov
        have hmi : inI (m.tmod n) := tmod_in HM.out
        have hpi : inI (m.tdiv n * n) := prod_in HM.out
        have hdm := div_mod m n
        have hsg := tmod_sign m n
        have hlt := tmod_lt' (m := m) hn0
        have e7 : twoV 7 ⟨1, m, ⟨#[]⟩⟩ ⟨1, n, ⟨#[]⟩⟩ = (⟨1, m.tdiv n, ⟨#[]⟩⟩, 0) := by rw [two_num (by decide), nums7 hn0, fitV_in hdi]; rfl
        have e8 : twoV 8 ⟨1, m, ⟨#[]⟩⟩ ⟨1, n, ⟨#[]⟩⟩ = (⟨1, m.tmod n, ⟨#[]⟩⟩, 0) := by rw [two_num (by decide), nums8 hn0, fitV_in hmi]; rfl
        have eX : twoV 6 ⟨1, m.tdiv n, ⟨#[]⟩⟩ ⟨1, n, ⟨#[]⟩⟩ = (⟨1, m.tdiv n * n, ⟨#[]⟩⟩, 0) := by rw [two_num (by decide), nums6, fitV_in hpi]; rfl
        have eZ : twoV 9 ⟨1, m.tdiv n * n, ⟨#[]⟩⟩ ⟨1, m.tmod n, ⟨#[]⟩⟩ = (⟨1, m, ⟨#[]⟩⟩, 0) := by rw [two_num (by decide), nums9, hdm, fitV_in HM.out]; rfl
        have hod := num_ok hdi
        have hor := num_ok hmi
        have hox := num_ok hpi
        obtain ⟨dd, hdd⟩ : ∃ d, m.tdiv n = d := ⟨_, rfl⟩
        rw [hdd] at e7 eX eZ hod hox
        obtain ⟨xx, hxx⟩ : ∃ x, dd * n = x := ⟨_, rfl⟩
        rw [hxx] at eX eZ hox
        obtain ⟨rr, hrr⟩ : ∃ r, m.tmod n = r := ⟨_, rfl⟩
        rw [hrr] at e8 eZ hor hsg hlt hmi
        clear hdi hpi hdm hdd hxx hrr hov
        have T7 : Hid (∀ W, Calls Tryd.prog 9 #[.int .i64 7, .agg #[.int .i64 1, .int .i64 m, .string ⟨#[]⟩], .agg #[.int .i64 1, .int .i64 n, .string ⟨#[]⟩]] W fun r w' => r = .returned (.tuple #[.agg #[.int .i64 1, .int .i64 dd, .string ⟨#[]⟩], .int .i64 0]) ∧ Below W.heap.size W w') := Lib.hid (twoR HOA.out HOB.out (e7))
        have T8 : Hid (∀ W, Calls Tryd.prog 9 #[.int .i64 8, .agg #[.int .i64 1, .int .i64 m, .string ⟨#[]⟩], .agg #[.int .i64 1, .int .i64 n, .string ⟨#[]⟩]] W fun r w' => r = .returned (.tuple #[.agg #[.int .i64 1, .int .i64 rr, .string ⟨#[]⟩], .int .i64 0]) ∧ Below W.heap.size W w') := Lib.hid (twoR HOA.out HOB.out (e8))
        have TX : Hid (∀ W, Calls Tryd.prog 9 #[.int .i64 6, .agg #[.int .i64 1, .int .i64 dd, .string ⟨#[]⟩], .agg #[.int .i64 1, .int .i64 n, .string ⟨#[]⟩]] W fun r w' => r = .returned (.tuple #[.agg #[.int .i64 1, .int .i64 xx, .string ⟨#[]⟩], .int .i64 0]) ∧ Below W.heap.size W w') := Lib.hid (twoR hod HOB.out (eX))
        have TZ : Hid (∀ W, Calls Tryd.prog 9 #[.int .i64 9, .agg #[.int .i64 1, .int .i64 xx, .string ⟨#[]⟩], .agg #[.int .i64 1, .int .i64 rr, .string ⟨#[]⟩]] W fun r w' => r = .returned (.tuple #[.agg #[.int .i64 1, .int .i64 m, .string ⟨#[]⟩], .int .i64 0]) ∧ Below W.heap.size W w') := Lib.hid (twoR hox hor (eZ))
        have HSG := Lib.hid hsg
        have HLT := Lib.hid hlt
        have HMI := Lib.hid hmi
        have HN0 := Lib.hid hn0
        clear e7 e8 eX eZ hod hor hox hsg hlt hmi hn0
        go_upto_region 14 with fail
        clear cs0 cs1 cs2 ct0 ct1 ct2 cp0 cp1 cp2 cq0 cq1 cq2
        obtain ⟨ca0, ca1, ca2⟩ := Ha.out.cells
        simp only at ca0 ca1 ca2
        obtain ⟨cb0, cb1, cb2⟩ := Hb.out.cells
        simp only at cb0 cb1 cb2
        go_wp2_with fail
        refine (T7.out _).mono ?_
        rintro r v5 ⟨rfl, hb0⟩
        dsimp only
        have hb2 := box_below v5 #[.int .i64 1, .int .i64 dd, .string ⟨#[]⟩] 23
        have hn : Boxed (v5.alloc (.cells #[.int .i64 1, .int .i64 dd, .string ⟨#[]⟩] 23)) v5.heap.size ⟨1, dd, ⟨#[]⟩⟩ := Boxed.new v5 1 dd ⟨#[]⟩
        have hbb := hb0.trans (hb2.mono hb0.size)
        have ha := Ha.out.below hbb
        have hb := Hb.out.below hbb
        have hs := Hs.out.below hbb
        have ht := Ht.out.below hbb
        have hp := Hp.out.below hbb
        have hq := Hq.out.below hbb
        have hB := HB.out.trans (hbb.mono HB.out.size)
        obtain ⟨w5, hw⟩ : ∃ y, v5.alloc (.cells #[.int .i64 1, .int .i64 dd, .string ⟨#[]⟩] 23) = y := ⟨_, rfl⟩
        obtain ⟨sd, hsz⟩ : ∃ y, v5.heap.size = y := ⟨_, rfl⟩
        rw [hw] at hn hB ha hb hs ht hp hq
        rw [hsz] at hn
        clear hb0 hb2 hbb HB Ha Hb Hs Ht Hp Hq ca0 ca1 ca2 cb0 cb1 cb2
        have HB := Lib.hid hB
        have Ha := Lib.hid ha
        have Hb := Lib.hid hb
        have Hs := Lib.hid hs
        have Ht := Lib.hid ht
        have Hp := Lib.hid hp
        have Hq := Lib.hid hq
        have Hd := Lib.hid hn
        have HW := Lib.hid hw
        have HS := Lib.hid hsz
        clear hw hsz hB hn ha hb hs ht hp hq
        go_upto_region 15 with fail
        rw [HW.out, HS.out]
        clear HW HS
        obtain ⟨ca0, ca1, ca2⟩ := Ha.out.cells
        simp only at ca0 ca1 ca2
        obtain ⟨cb0, cb1, cb2⟩ := Hb.out.cells
        simp only at cb0 cb1 cb2
        go_wp2_with fail
        refine (T8.out _).mono ?_
        rintro r v6 ⟨rfl, hb0⟩
        dsimp only
        have hb2 := box_below v6 #[.int .i64 1, .int .i64 rr, .string ⟨#[]⟩] 23
        have hn : Boxed (v6.alloc (.cells #[.int .i64 1, .int .i64 rr, .string ⟨#[]⟩] 23)) v6.heap.size ⟨1, rr, ⟨#[]⟩⟩ := Boxed.new v6 1 rr ⟨#[]⟩
        have hbb := hb0.trans (hb2.mono hb0.size)
        have ha := Ha.out.below hbb
        have hb := Hb.out.below hbb
        have hs := Hs.out.below hbb
        have ht := Ht.out.below hbb
        have hp := Hp.out.below hbb
        have hq := Hq.out.below hbb
        have hd := Hd.out.below hbb
        have hB := HB.out.trans (hbb.mono HB.out.size)
        obtain ⟨w6, hw⟩ : ∃ y, v6.alloc (.cells #[.int .i64 1, .int .i64 rr, .string ⟨#[]⟩] 23) = y := ⟨_, rfl⟩
        obtain ⟨sr, hsz⟩ : ∃ y, v6.heap.size = y := ⟨_, rfl⟩
        rw [hw] at hn hB ha hb hs ht hp hq hd
        rw [hsz] at hn
        clear hb0 hb2 hbb HB Ha Hb Hs Ht Hp Hq Hd ca0 ca1 ca2 cb0 cb1 cb2
        have HB := Lib.hid hB
        have Ha := Lib.hid ha
        have Hb := Lib.hid hb
        have Hs := Lib.hid hs
        have Ht := Lib.hid ht
        have Hp := Lib.hid hp
        have Hq := Lib.hid hq
        have Hd := Lib.hid hd
        have Hr := Lib.hid hn
        have HW := Lib.hid hw
        have HS := Lib.hid hsz
        clear hw hsz hB hn ha hb hs ht hp hq hd
        go_upto_region 16 with fail
        rw [HW.out, HS.out]
        clear HW HS
        go_upto_region 20 with fail
        obtain ⟨cd0, cd1, cd2⟩ := Hd.out.cells
        simp only at cd0 cd1 cd2
        obtain ⟨cb0, cb1, cb2⟩ := Hb.out.cells
        simp only at cb0 cb1 cb2
        go_wp2_with fail
        refine (TX.out _).mono ?_
        rintro r v7 ⟨rfl, hb0⟩
        dsimp only
        have hb2 := box_below v7 #[.int .i64 1, .int .i64 xx, .string ⟨#[]⟩] 23
        have hn : Boxed (v7.alloc (.cells #[.int .i64 1, .int .i64 xx, .string ⟨#[]⟩] 23)) v7.heap.size ⟨1, xx, ⟨#[]⟩⟩ := Boxed.new v7 1 xx ⟨#[]⟩
        have hbb := hb0.trans (hb2.mono hb0.size)
        have ha := Ha.out.below hbb
        have hb := Hb.out.below hbb
        have hs := Hs.out.below hbb
        have ht := Ht.out.below hbb
        have hp := Hp.out.below hbb
        have hq := Hq.out.below hbb
        have hd := Hd.out.below hbb
        have hr := Hr.out.below hbb
        have hB := HB.out.trans (hbb.mono HB.out.size)
        obtain ⟨w7, hw⟩ : ∃ y, v7.alloc (.cells #[.int .i64 1, .int .i64 xx, .string ⟨#[]⟩] 23) = y := ⟨_, rfl⟩
        obtain ⟨sx, hsz⟩ : ∃ y, v7.heap.size = y := ⟨_, rfl⟩
        rw [hw] at hn hB ha hb hs ht hp hq hd hr
        rw [hsz] at hn
        clear hb0 hb2 hbb HB Ha Hb Hs Ht Hp Hq Hd Hr cd0 cd1 cd2 cb0 cb1 cb2
        have HB := Lib.hid hB
        have Ha := Lib.hid ha
        have Hb := Lib.hid hb
        have Hs := Lib.hid hs
        have Ht := Lib.hid ht
        have Hp := Lib.hid hp
        have Hq := Lib.hid hq
        have Hd := Lib.hid hd
        have Hr := Lib.hid hr
        have Hx := Lib.hid hn
        have HW := Lib.hid hw
        have HS := Lib.hid hsz
        clear hw hsz hB hn ha hb hs ht hp hq hd hr
        go_upto_region 21 with fail
        rw [HW.out, HS.out]
        clear HW HS
        obtain ⟨cx0, cx1, cx2⟩ := Hx.out.cells
        simp only at cx0 cx1 cx2
        obtain ⟨cr0, cr1, cr2⟩ := Hr.out.cells
        simp only at cr0 cr1 cr2
        obtain ⟨ca0, ca1, ca2⟩ := Ha.out.cells
        simp only at ca0 ca1 ca2
        go_wp2_with fail
        refine (TZ.out _).mono ?_
        rintro r v8 ⟨rfl, hb⟩
        dsimp only
        have hHa := (Ha.out.below hb).alloc2 (.cells #[.int .i64 1, .int .i64 m, .string ⟨#[]⟩] 23)
        have hHr := (Hr.out.below hb).alloc2 (.cells #[.int .i64 1, .int .i64 m, .string ⟨#[]⟩] 23)
        have HBF := Lib.hid ((HB.out.trans (hb.mono HB.out.size)).alloc (HB.out.trans (hb.mono HB.out.size)).size (.cells #[.int .i64 1, .int .i64 m, .string ⟨#[]⟩] 23))
        clear cx0 cx1 cx2 cr0 cr1 cr2 ca0 ca1 ca2
        obtain ⟨ca0, ca1, ca2⟩ := hHa.cells
        obtain ⟨cr0, cr1, cr2⟩ := hHr.cells
        simp only at ca0 ca1 ca2 cr0 cr1 cr2
        clear hHa hHr hb HB Ha Hb Hs Ht Hp Hq Hd Hr Hx
        have hm1 := HM.out
        have hn1 := HN.out
        have hr1 := HMI.out
        have hlt := HLT.out
        have hsg := HSG.out
        have hn0 := HN0.out
        unfold inI at hr1
        have hR : ((rr == 0) = true) ∨ ((rr == 0) = false ∧ decide (rr < 0) = decide (m < 0)) := by
          by_cases h : rr = 0
          · exact .inl (by rw [beq_iff_eq]; exact h)
          · refine .inr ⟨by rw [beq_eq_false_iff_ne]; exact h, ?_⟩
            rw [decide_eq_decide]
            exact hsg.resolve_left h
        have hNn : (decide (n < 0) = true ∧ decide (n < rr) = true ∧ wrap64 (-n) = -n ∧ decide (rr < -n) = true) ∨ (n = -9223372036854775808 ∧ decide (-9223372036854775808 < rr) = true ∧ decide (rr < -9223372036854775808) = false) ∨ (decide (n < 0) = false ∧ decide (0 < n) = true ∧ wrap64 (-n) = -n ∧ decide (-n < rr) = true ∧ decide (rr < n) = true) := by
          by_cases h : n < 0
          · by_cases h2 : n = -9223372036854775808
            · exact .inr (.inl ⟨h2, by rw [decide_eq_true_iff]; omega, by rw [decide_eq_false_iff_not]; omega⟩)
            · exact .inl ⟨by rw [decide_eq_true_iff]; omega, by rw [decide_eq_true_iff]; omega, IntWalk.wrap64_in _ (by omega), by rw [decide_eq_true_iff]; omega⟩
          · exact .inr (.inr ⟨by rw [decide_eq_false_iff_not]; omega, by rw [decide_eq_true_iff]; omega, IntWalk.wrap64_in _ (by omega), by rw [decide_eq_true_iff]; omega, by rw [decide_eq_true_iff]; omega⟩)
        clear hm1 hn1 hr1 hlt hsg hn0
        have hMm : decide (m < 0) = true ∨ decide (m < 0) = false := by cases decide (m < 0); exact .inr rfl; exact .inl rfl
        go_upto_region 22 with fail
        simp only [List.append_eq, List.cons_append, List.nil_append]
        rcases hR with z1 | ⟨z1, z2⟩
        · rcases hNn with ⟨n1, n2, n3, n4⟩ | ⟨rfl, n2, n3⟩ | ⟨n1, n2, n3, n4, n5⟩
          all_goals
            go_wp2
            all_goals (go_ret; exact ⟨rfl, HBF.out⟩)
        · rcases hMm with m1 | m1
          all_goals
            rw [m1] at z2
            rcases hNn with ⟨n1, n2, n3, n4⟩ | ⟨rfl, n2, n3⟩ | ⟨n1, n2, n3, n4, n5⟩
            all_goals
              go_wp2
              all_goals (go_ret; exact ⟨rfl, HBF.out⟩)
end evalNumbers
end Go.Proofs.YtidomoibhjgkjaaDoor
