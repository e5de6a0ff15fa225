import Derived.Test.YtidomoibhjgkjaaGreatDoorZC43
import Derived.Test.YtidomoibhjgkjaaGreatDoorZF02
import Derived.Test.YtidomoibhjgkjaaGreatDoorZC18
import Derived.Test.YtidomoibhjgkjaaGreatDoorZC46
import Derived.Test.YtidomoibhjgkjaaGreatDoorZC47
import Derived.Deep.RegionHeld3
/-
  Whether an expression comes to what is true: package eval's Test, and the document's own.
-/
namespace Go.Proofs.YtidomoibhjgkjaaGreatDoor
open Go.RowKit

def testIs (k n xc : Int) : Bool := (xc == 0) && ((k == 2) && !(n == 0))
def testC (k xc : Int) : Int := if xc = 0 ∧ k ≠ 2 then 40 else xc
theorem testIs_bad {k n xc : Int} (h : xc ≠ 0) : testIs k n xc = false := by unfold testIs; rw [show (xc == 0) = false from by rw [beq_eq_false_iff_ne]; exact h]; rfl
theorem testIs_kind {k n : Int} (h : k ≠ 2) : testIs k n 0 = false := by unfold testIs; rw [show (k == 2) = false from by rw [beq_eq_false_iff_ne]; exact h]; rfl
theorem testIs_yes (n : Int) : testIs 2 n 0 = !(n == 0) := rfl
theorem testC_bad {k xc : Int} (h : xc ≠ 0) : testC k xc = xc := if_neg (fun e => h e.1)
theorem testC_kind {k : Int} (h : k ≠ 2) : testC k 0 = 40 := if_pos ⟨rfl, h⟩
theorem testC_yes : testC 2 0 = 0 := if_neg (fun e => e.2 rfl)

set_option maxRecDepth 100000 in
set_option maxHeartbeats 4000000 in
theorem gTest_any (l : List TM) (A : Option Addr) (c gf : Nat) (caps : Array Value) (get : ByteArray → Option V) (N : ByteArray → Prop) (fuel : Int) (w : World) (hl : l.length ≤ 1000) (hnm : ∀ t ∈ l, t.nm.size ≤ 5000 ∧ okV t.v) (hr : RowT w 0 w.heap.size A l)
    (hA : AskC gf caps (askOf get) N w.heap.size w) (hN : ∀ t ∈ l, t.op = 1 ∨ t.op = 2 → N t.nm) (hf : fuel ≤ 9223372036854775807) (hf0 : -9223372036854775808 ≤ fuel) (hG : GlobW w)
    {k n xc : Int} {s : ByteArray} {xn : Nat} {xp : List ByteArray} (hX : ofG get l fuel.toNat = (⟨k, n, s⟩, xn, xc, xp)) :
    Calls Tryz.prog 16 #[.slice A l.length c, .func (.func gf) #[] caps, .int .i64 fuel] w fun r w' => ∃ u ps, r = .returned (.tuple #[.bool (testIs k n xc), .int .i64 (xn : Int), u]) ∧ Below w.heap.size w w' ∧ ErrO w' (erOf (testC k xc) ps) u := by
  have HE : Hid (Calls Tryz.prog 21 #[.slice A l.length c, .func (.func gf) #[] caps, .int .i64 fuel] w fun r w' => ∃ u, r = .returned (.tuple #[.agg #[.int .i64 k, .int .i64 n, .string s], .int .i64 (xn : Int), u]) ∧ Below w.heap.size w w' ∧ ErrO w' (erOf xc xp) u) := Lib.hid (by
    refine (gEval_any l A c gf caps (askOf get) N fuel w hl hnm hr hA hN hf hf0 hG).mono ?_
    rintro r w' ⟨k', n', s', u, rfl, hx, hb, hu⟩
    rw [of_of, hX] at hx hu
    injection hx with a1 a2 a3
    subst a1 a2 a3
    rw [of_of, hX]
    exact ⟨u, rfl, hb, hu⟩)
  clear hl hnm hr hA hN hf hf0 hG hX
  go_enter Tryz.func16, Tryz.ntmps16
  go_wp2_with fail
  refine HE.out.mono ?_
  rintro r w1 ⟨u, rfl, hb1, hu1⟩
  dsimp only
  have hb2 := box_below w1 #[.int .i64 k, .int .i64 n, .string s] 27
  have hx := Boxed.new w1 k n s
  have hB := hb1.trans (hb2.mono hb1.size)
  have hU := hu1.below hb2
  obtain ⟨w2, hw⟩ : ∃ y, w1.alloc (.cells #[.int .i64 k, .int .i64 n, .string s] 27) = y := ⟨_, rfl⟩
  obtain ⟨s1, hs⟩ : ∃ y, w1.heap.size = y := ⟨_, rfl⟩
  rw [hw] at hx hB hU
  rw [hs] at hx
  have HX := Lib.hid hx
  have HB := Lib.hid hB
  have HU := Lib.hid hU
  have HW := Lib.hid hw
  have HS := Lib.hid hs
  clear hb1 hb2 hx hB hU hw hs hu1 HE
  go_upto_region 2 with fail
  rw [HW.out, HS.out]
  clear HW HS
  obtain ⟨c0, c1, c2⟩ := HX.out.cells
  simp only at c0 c1 c2
  by_cases h0 : xc = 0
  · subst h0
    obtain rfl := HU.out.zero
    have hb3 := box_below w2 #[.int .i64 k, .int .i64 n, .string s] 27
    have hy := Boxed.new w2 k n s
    obtain ⟨y0, y1, y2⟩ := hy.cells
    have HAre : Hid (Calls Tryz.prog 44 #[.int .i64 2, .slice (some ⟨w2.heap.size, 0, none⟩) 1 1] (w2.alloc (.cells #[.int .i64 k, .int .i64 n, .string s] 27)) fun r w' => r = .returned (.bool (k == 2)) ∧ Below (w2.alloc (.cells #[.int .i64 k, .int .i64 n, .string s] 27)).heap.size (w2.alloc (.cells #[.int .i64 k, .int .i64 n, .string s] 27)) w') := Lib.hid (gAre_one 2 ⟨k, n, s⟩ w2.heap.size 1 _ y0 y1 y2)
    have HB3 := Lib.hid hb3
    clear hy y0 y1 y2 hb3
    go_wp2_with fail
    refine HAre.out.mono ?_
    rintro r w3 ⟨rfl, hb4⟩
    dsimp only
    have hb24 := HB3.out.trans (hb4.mono HB3.out.size)
    have hX3 := HX.out.below hb24
    have HB4 := Lib.hid (HB.out.trans (hb24.mono HB.out.size))
    obtain ⟨z0, z1, z2⟩ := hX3.cells
    simp only at z0 z1 z2
    clear hb4 hb24 hX3 c0 c1 c2 HAre HB3
    by_cases hk : k = 2
    · subst hk
      have HT : Hid (∀ W, Calls Tryz.prog 46 #[.agg #[.int .i64 2, .int .i64 n, .string s]] W fun r w' => r = .returned (.bool (!(n == 0))) ∧ Below W.heap.size W w') := Lib.hid (fun W => gIsTrue_any ⟨2, n, s⟩ W)
      go_wp2_with fail
      refine (HT.out _).mono ?_
      rintro r w5 ⟨rfl, hb5⟩
      have HB5 := Lib.hid (HB4.out.trans (hb5.mono HB4.out.size))
      clear hb5
      dsimp only
      go_wp2
      refine bodyPost_ret (v := .tuple #[.bool (!(n == 0)), .int .i64 (xn : Int), .nilIface]) (by simp [results, Tryz.results16, go_sem]) rfl ?_
      exact ⟨_, xp, rfl, HB5.out, rfl⟩
    · have e : (k == 2) = false := by rw [beq_eq_false_iff_ne]; exact hk
      have HOf : Hid (∀ W, Calls Tryz.prog 45 #[.int .i64 40] W fun r w' => r = .returned (.iface 33 (.int .i64 40)) ∧ W = w') := Lib.hid (fun W => by
        obtain ⟨u, hu, h⟩ := ofU 40
        rcases h with ⟨h, _⟩ | ⟨_, h⟩
        · cases h
        · rw [← h]; exact hu W)
      have HK2 := Lib.hid hk
      go_wp2_with fail
      refine (HOf.out _).mono ?_
      rintro r w5 ⟨rfl, rfl⟩
      dsimp only
      go_wp2
      refine bodyPost_ret (v := .tuple #[.bool false, .int .i64 (xn : Int), .iface 33 (.int .i64 40)]) (by simp [results, Tryz.results16, go_sem]) rfl ?_
      exact ⟨_, [], by rw [testIs_kind HK2.out], HB4.out, by rw [testC_kind HK2.out]; exact ⟨rfl, .inr (by intro e; cases e)⟩⟩
  · obtain ⟨T, y, rfl⟩ := HU.out.some' h0
    have H0 := Lib.hid h0
    go_wp2
    refine bodyPost_ret (v := .tuple #[.bool false, .int .i64 (xn : Int), .iface T y]) (by simp [results, Tryz.results16, go_sem]) rfl ?_
    exact ⟨_, xp, by rw [testIs_bad H0.out], HB.out, by rw [testC_bad H0.out]; exact HU.out⟩

/-- An error is stored over another one. -/
def put6 (w : World) (s : Nat) (v0 v1 v2 v3 v4 v5 : Value) : World :=
  (((((w.setCell ⟨s, 0, none⟩ v0).setCell ⟨s, 1, none⟩ v1).setCell ⟨s, 2, none⟩ v2).setCell ⟨s, 3, none⟩ v3).setCell ⟨s, 4, none⟩ v4).setCell ⟨s, 5, none⟩ v5
theorem put6_is {w : World} {s : Nat} {u0 u1 u2 u3 u4 u5 : Value} (h : ErrB w s u0 u1 u2 u3 u4 u5) (v0 v1 v2 v3 v4 v5 : Value) : ErrB (put6 w s v0 v1 v2 v3 v4 v5) s v0 v1 v2 v3 v4 v5 :=
  (((((h.put0 v0).put1 v1).put2 v2).put3 v3).put4 v4).put5 v5
theorem put6_below {w0 w : World} {B s : Nat} (h : Below B w0 w) (hs : B ≤ s) (v0 v1 v2 v3 v4 v5 : Value) : Below B w0 (put6 w s v0 v1 v2 v3 v4 v5) :=
  (((((h.setCell (p := ⟨s, 0, none⟩) hs v0).setCell (p := ⟨s, 1, none⟩) hs v1).setCell (p := ⟨s, 2, none⟩) hs v2).setCell (p := ⟨s, 3, none⟩) hs v3).setCell (p := ⟨s, 4, none⟩) hs v4).setCell (p := ⟨s, 5, none⟩) hs v5
theorem put6_other (W : World) (s : Nat) (v0 v1 v2 v3 v4 v5 : Value) {g : Nat} (h : g ≠ s) : (put6 W s v0 v1 v2 v3 v4 v5).heap[g]? = W.heap[g]? := by
  unfold put6
  rw [Below.heap_setCell _ _ _ _ (show g ≠ s from h), Below.heap_setCell _ _ _ _ (show g ≠ s from h), Below.heap_setCell _ _ _ _ (show g ≠ s from h), Below.heap_setCell _ _ _ _ (show g ≠ s from h), Below.heap_setCell _ _ _ _ (show g ≠ s from h), Below.heap_setCell _ _ _ _ (show g ≠ s from h)]

/-! ### the document's own -/
set_option maxRecDepth 100000 in
set_option maxHeartbeats 4000000 in
theorem refTest_any (l : List TM) (A : Option Addr) (c : Nat) (vs : List VN) (A2 : Option Addr) (c2 : Nat) (fuel : Int) (w : World) (hl : TermsOk w l A) (hv : VarsOk w vs A2 c2) (hf : fuel ≤ 9223372036854775807) (hf0 : -9223372036854775808 ≤ fuel)
    {k n xc : Int} {t : ByteArray} {xn : Nat} {xp : List ByteArray} (hX : ofG (getL vs) l fuel.toNat = (⟨k, n, t⟩, xn, xc, xp)) :
    Calls Tryz.prog 19 #[.slice A l.length c, .slice A2 vs.length c2, .int .i64 fuel] w fun r w' => ∃ (e0 : Bool) (B : Option Addr) (q d : Nat), r = .returned (.tuple #[.bool (testIs k n xc), .int .i64 (xn : Int), .agg #[.bool e0, .slice B q d, .int .i64 (testC k xc), .bool false, .string ⟨#[]⟩, .string ⟨#[]⟩]]) ∧ Below w.heap.size w w' := by
  have hb1 := box_below w #[.bool false, .slice none 0 0, .int .i64 0, .bool false, .string ⟨#[]⟩, .string ⟨#[]⟩] 37
  have he1 : ErrB (w.alloc (.cells #[.bool false, .slice none 0 0, .int .i64 0, .bool false, .string ⟨#[]⟩, .string ⟨#[]⟩] 37)) w.heap.size (.bool false) (.slice none 0 0) (.int .i64 0) (.bool false) (.string ⟨#[]⟩) (.string ⟨#[]⟩) := heap_alloc_new w _
  have hl1 : w.heap.size < (w.alloc (.cells #[.bool false, .slice none 0 0, .int .i64 0, .bool false, .string ⟨#[]⟩, .string ⟨#[]⟩] 37)).heap.size := by simp
  obtain ⟨w1, hw⟩ : ∃ y, w.alloc (.cells #[.bool false, .slice none 0 0, .int .i64 0, .bool false, .string ⟨#[]⟩, .string ⟨#[]⟩] 37) = y := ⟨_, rfl⟩
  obtain ⟨s, hs⟩ : ∃ y, w.heap.size = y := ⟨_, rfl⟩
  rw [hw] at hb1 he1 hl1
  rw [hs] at he1 hl1
  have HO : Hid (Calls Tryz.prog 12 #[.slice A l.length c, .slice A2 vs.length c2, .int .i64 fuel] w1 fun r w' => ∃ B d, r = .returned (.tuple #[.agg #[.int .i64 k, .int .i64 n, .string t], .int .i64 (xn : Int), .agg #[.bool (!(xc == 0)), .slice B xp.length d, .int .i64 xc, .bool false, .string ⟨#[]⟩, .string ⟨#[]⟩]]) ∧ Below w1.heap.size w1 w') := Lib.hid (by
    refine (refOf_any l A c vs A2 c2 fuel w1 (hl.below hb1) (hv.below hb1) hf hf0).mono ?_
    rintro r w' ⟨k', n', t', B, d, rfl, hx, _, hb⟩
    rw [hX] at hx
    injection hx with a1 a2 a3
    subst a1 a2 a3
    rw [hX]
    exact ⟨B, d, rfl, hb⟩)
  have HW := Lib.hid hw
  have HS := Lib.hid hs
  have HB1 := Lib.hid hb1
  have HE1 := Lib.hid he1
  have HL1 := Lib.hid hl1
  clear hl hv hf hf0 hX hw hs hb1 he1 hl1
  go_enter Tryz.func19, Tryz.ntmps19
  go_upto_region 1 with fail
  rw [HW.out, HS.out]
  clear HW
  go_wp2_with fail
  refine HO.out.mono ?_
  rintro r w2 ⟨B, d, rfl, hb2⟩
  dsimp only
  have hb3 := box_below w2 #[.int .i64 k, .int .i64 n, .string t] 27
  have hb4 := box_below (w2.alloc (.cells #[.int .i64 k, .int .i64 n, .string t] 27)) #[.bool (!(xc == 0)), .slice B xp.length d, .int .i64 xc, .bool false, .string ⟨#[]⟩, .string ⟨#[]⟩] 37
  have hv : Boxed ((w2.alloc (.cells #[.int .i64 k, .int .i64 n, .string t] 27)).alloc (.cells #[.bool (!(xc == 0)), .slice B xp.length d, .int .i64 xc, .bool false, .string ⟨#[]⟩, .string ⟨#[]⟩] 37)) w2.heap.size ⟨k, n, t⟩ := heap1 w2 _ _
  have hy : ErrB ((w2.alloc (.cells #[.int .i64 k, .int .i64 n, .string t] 27)).alloc (.cells #[.bool (!(xc == 0)), .slice B xp.length d, .int .i64 xc, .bool false, .string ⟨#[]⟩, .string ⟨#[]⟩] 37)) (w2.heap.size + 1) (.bool (!(xc == 0))) (.slice B xp.length d) (.int .i64 xc) (.bool false) (.string ⟨#[]⟩) (.string ⟨#[]⟩) := heap2 w2 _ _
  have hbb := hb2.trans ((hb3.trans (hb4.mono hb3.size)).mono hb2.size)
  have he := HE1.out.below hbb HL1.out
  have hsz : s < w2.heap.size := Nat.lt_of_lt_of_le HL1.out hb2.size
  have hB := HB1.out.trans (hbb.mono HB1.out.size)
  have hsz2 : w2.heap.size + 1 < ((w2.alloc (.cells #[.int .i64 k, .int .i64 n, .string t] 27)).alloc (.cells #[.bool (!(xc == 0)), .slice B xp.length d, .int .i64 xc, .bool false, .string ⟨#[]⟩, .string ⟨#[]⟩] 37)).heap.size := by simp
  obtain ⟨w4, hw⟩ : ∃ y, (w2.alloc (.cells #[.int .i64 k, .int .i64 n, .string t] 27)).alloc (.cells #[.bool (!(xc == 0)), .slice B xp.length d, .int .i64 xc, .bool false, .string ⟨#[]⟩, .string ⟨#[]⟩] 37) = y := ⟨_, rfl⟩
  obtain ⟨s2, hs2⟩ : ∃ y, w2.heap.size = y := ⟨_, rfl⟩
  rw [hw] at hv hy he hB hsz2
  rw [hs2] at hv hy hsz hsz2
  have HV := Lib.hid hv
  have HY := Lib.hid hy
  have HE := Lib.hid he
  have HB := Lib.hid hB
  have HSZ := Lib.hid hsz
  have HSZ2 := Lib.hid hsz2
  have HW := Lib.hid hw
  have HS2 := Lib.hid hs2
  clear hb2 hb3 hb4 hv hy hbb he hsz hsz2 hB hw hs2 HO HE1 HL1
  go_upto_region 2 with fail
  rw [HW.out, HS2.out]
  clear HW HS2
  by_cases h0 : xc = 0
  · subst h0
    have hY0 := HY.out
    simp only [beq_self_eq_true, Bool.not_true] at hY0
    have HY := Lib.hid hY0
    clear hY0
    have b0 := HY.out.cell 0
    simp only [List.getElem?_toArray, List.getElem?_cons_zero] at b0
    have w0 := HV.out.cells.1
    simp only at w0
    by_cases hk : k = 2
    · subst hk
      have HVf := HV
      have HYf := HY
      have HEf := HE
      have HBf := HB
      go_upto_region 4 with fail
      clear b0 w0
      obtain ⟨v0, v1, v2⟩ := (show Boxed w4 s2 ⟨_, n, t⟩ from HVf.out).cells
      simp only at v0 v1 v2
      have y0 := (show ErrB w4 (s2 + 1) _ _ _ _ _ _ from HYf.out).cell 0
      have y1 := (show ErrB w4 (s2 + 1) _ _ _ _ _ _ from HYf.out).cell 1
      have y2 := (show ErrB w4 (s2 + 1) _ _ _ _ _ _ from HYf.out).cell 2
      have y3 := (show ErrB w4 (s2 + 1) _ _ _ _ _ _ from HYf.out).cell 3
      have y4 := (show ErrB w4 (s2 + 1) _ _ _ _ _ _ from HYf.out).cell 4
      have y5 := (show ErrB w4 (s2 + 1) _ _ _ _ _ _ from HYf.out).cell 5
      have e0 := (show ErrB w4 s _ _ _ _ _ _ from HEf.out).cell 0
      have e1 := (show ErrB w4 s _ _ _ _ _ _ from HEf.out).cell 1
      have e2 := (show ErrB w4 s _ _ _ _ _ _ from HEf.out).cell 2
      have e3 := (show ErrB w4 s _ _ _ _ _ _ from HEf.out).cell 3
      have e4 := (show ErrB w4 s _ _ _ _ _ _ from HEf.out).cell 4
      have e5 := (show ErrB w4 s _ _ _ _ _ _ from HEf.out).cell 5
      have f0 := (show ErrB w4 s _ _ _ _ _ _ from HEf.out).frozen 0
      have f1 := (show ErrB w4 s _ _ _ _ _ _ from HEf.out).frozen 1
      have f2 := (show ErrB w4 s _ _ _ _ _ _ from HEf.out).frozen 2
      have f3 := (show ErrB w4 s _ _ _ _ _ _ from HEf.out).frozen 3
      have f4 := (show ErrB w4 s _ _ _ _ _ _ from HEf.out).frozen 4
      have f5 := (show ErrB w4 s _ _ _ _ _ _ from HEf.out).frozen 5
      simp only [List.getElem?_toArray, List.getElem?_cons_zero, List.getElem?_cons_succ] at y0 y1 y2 y3 y4 y5 e0 e1 e2 e3 e4 e5
      have HQ := Lib.hid (put6_is (show ErrB w4 s _ _ _ _ _ _ from HEf.out) (.bool false) (.slice B xp.length d) (.int .i64 (0)) (.bool false) (.string ⟨#[]⟩) (.string ⟨#[]⟩))
      have HBq := Lib.hid (put6_below (s := s) HBf.out (by have := HS.out; omega) (.bool false) (.slice B xp.length d) (.int .i64 (0)) (.bool false) (.string ⟨#[]⟩) (.string ⟨#[]⟩))
      unfold put6 at HQ HBq
      go_region
      all_goals
        go_wp2
        have hq := HQ.out
        refine bodyPost_ret (v := .tuple #[.bool (!(n == 0)), .int .i64 (xn : Int), .agg #[.bool false, .slice B xp.length d, .int .i64 (0), .bool false, .string ⟨#[]⟩, .string ⟨#[]⟩]]) (by simp [results, Tryz.results19, go_sem, hq.cell 0, hq.cell 1, hq.cell 2, hq.cell 3, hq.cell 4, hq.cell 5]; rfl) rfl ?_
        exact ⟨_, _, _, _, rfl, HBq.out.drew⟩
    · have e2k : (k == 2) = false := by rw [beq_eq_false_iff_ne]; exact hk
      have e2n : (k != 2) = true := by rw [bne_iff_ne]; exact hk
      have HK2 := Lib.hid hk
      have HOf := Lib.hid (fun W => refOf_num 40 W (by decide))
      go_wp2_with fail
      refine (HOf.out _).mono ?_
      rintro r w5 ⟨rfl, hb5⟩
      dsimp only
      have HE5 := Lib.hid (HE.out.below hb5 (by have := HSZ.out; have := HSZ2.out; omega))
      have HY5 := Lib.hid (HY.out.below hb5 HSZ2.out)
      have HV5 := Lib.hid (HV.out.below hb5)
      have HB5 := Lib.hid (HB.out.trans (hb5.mono HB.out.size))
      clear hb5 b0 w0 HE HY HV HB HOf
      have y0 := (show ErrB w5 (s2 + 1) _ _ _ _ _ _ from HY5.out).cell 0
      have y1 := (show ErrB w5 (s2 + 1) _ _ _ _ _ _ from HY5.out).cell 1
      have y2 := (show ErrB w5 (s2 + 1) _ _ _ _ _ _ from HY5.out).cell 2
      have y3 := (show ErrB w5 (s2 + 1) _ _ _ _ _ _ from HY5.out).cell 3
      have y4 := (show ErrB w5 (s2 + 1) _ _ _ _ _ _ from HY5.out).cell 4
      have y5 := (show ErrB w5 (s2 + 1) _ _ _ _ _ _ from HY5.out).cell 5
      have g0 := (show ErrB w5 (s2 + 1) _ _ _ _ _ _ from HY5.out).frozen 0
      have g1 := (show ErrB w5 (s2 + 1) _ _ _ _ _ _ from HY5.out).frozen 1
      have g2 := (show ErrB w5 (s2 + 1) _ _ _ _ _ _ from HY5.out).frozen 2
      have g3 := (show ErrB w5 (s2 + 1) _ _ _ _ _ _ from HY5.out).frozen 3
      have g4 := (show ErrB w5 (s2 + 1) _ _ _ _ _ _ from HY5.out).frozen 4
      have g5 := (show ErrB w5 (s2 + 1) _ _ _ _ _ _ from HY5.out).frozen 5
      simp only [List.getElem?_toArray, List.getElem?_cons_zero, List.getElem?_cons_succ] at y0 y1 y2 y3 y4 y5
      have HY6 := Lib.hid (put6_is HY5.out (.bool true) (.slice none 0 0) (.int .i64 40) (.bool false) (.string ⟨#[]⟩) (.string ⟨#[]⟩))
      have HE6 : Hid (ErrB (put6 w5 (s2 + 1) (.bool true) (.slice none 0 0) (.int .i64 40) (.bool false) (.string ⟨#[]⟩) (.string ⟨#[]⟩)) s (.bool false) (.slice none 0 0) (.int .i64 0) (.bool false) (.string ⟨#[]⟩) (.string ⟨#[]⟩)) := Lib.hid ((put6_other w5 (s2 + 1) _ _ _ _ _ _ (show s ≠ s2 + 1 by have := HSZ.out; omega)).trans HE5.out)
      have HB6 := Lib.hid (put6_below (s := s2 + 1) HB5.out (by have := HS.out; have := HSZ.out; omega) (.bool true) (.slice none 0 0) (.int .i64 40) (.bool false) (.string ⟨#[]⟩) (.string ⟨#[]⟩))
      obtain ⟨w6, hw6⟩ : ∃ y, put6 w5 (s2 + 1) (.bool true) (.slice none 0 0) (.int .i64 40) (.bool false) (.string ⟨#[]⟩) (.string ⟨#[]⟩) = y := ⟨_, rfl⟩
      rw [hw6] at HY6 HE6 HB6
      unfold put6 at hw6
      have HW6 := Lib.hid hw6
      clear hw6
      go_upto_region 4 with fail
      rw [HW6.out]
      clear y0 y1 y2 y3 y4 y5 g0 g1 g2 g3 g4 g5 HW6 HY5 HE5 HV5 HB5
      have y0 := (show ErrB w6 (s2 + 1) _ _ _ _ _ _ from HY6.out).cell 0
      have y1 := (show ErrB w6 (s2 + 1) _ _ _ _ _ _ from HY6.out).cell 1
      have y2 := (show ErrB w6 (s2 + 1) _ _ _ _ _ _ from HY6.out).cell 2
      have y3 := (show ErrB w6 (s2 + 1) _ _ _ _ _ _ from HY6.out).cell 3
      have y4 := (show ErrB w6 (s2 + 1) _ _ _ _ _ _ from HY6.out).cell 4
      have y5 := (show ErrB w6 (s2 + 1) _ _ _ _ _ _ from HY6.out).cell 5
      have e0 := (show ErrB w6 s _ _ _ _ _ _ from HE6.out).cell 0
      have e1 := (show ErrB w6 s _ _ _ _ _ _ from HE6.out).cell 1
      have e2 := (show ErrB w6 s _ _ _ _ _ _ from HE6.out).cell 2
      have e3 := (show ErrB w6 s _ _ _ _ _ _ from HE6.out).cell 3
      have e4 := (show ErrB w6 s _ _ _ _ _ _ from HE6.out).cell 4
      have e5 := (show ErrB w6 s _ _ _ _ _ _ from HE6.out).cell 5
      have f0 := (show ErrB w6 s _ _ _ _ _ _ from HE6.out).frozen 0
      have f1 := (show ErrB w6 s _ _ _ _ _ _ from HE6.out).frozen 1
      have f2 := (show ErrB w6 s _ _ _ _ _ _ from HE6.out).frozen 2
      have f3 := (show ErrB w6 s _ _ _ _ _ _ from HE6.out).frozen 3
      have f4 := (show ErrB w6 s _ _ _ _ _ _ from HE6.out).frozen 4
      have f5 := (show ErrB w6 s _ _ _ _ _ _ from HE6.out).frozen 5
      simp only [List.getElem?_toArray, List.getElem?_cons_zero, List.getElem?_cons_succ] at y0 y1 y2 y3 y4 y5 e0 e1 e2 e3 e4 e5
      have HQ := Lib.hid (put6_is HE6.out (.bool true) (.slice none 0 0) (.int .i64 40) (.bool false) (.string ⟨#[]⟩) (.string ⟨#[]⟩))
      have HBq := Lib.hid (put6_below (s := s) HB6.out (by have := HS.out; omega) (.bool true) (.slice none 0 0) (.int .i64 40) (.bool false) (.string ⟨#[]⟩) (.string ⟨#[]⟩))
      unfold put6 at HQ HBq
      go_region
      all_goals
        go_wp2
        have hq := HQ.out
        refine bodyPost_ret (v := .tuple #[.bool false, .int .i64 (xn : Int), .agg #[.bool true, .slice none 0 0, .int .i64 40, .bool false, .string ⟨#[]⟩, .string ⟨#[]⟩]]) (by simp [results, Tryz.results19, go_sem, hq.cell 0, hq.cell 1, hq.cell 2, hq.cell 3, hq.cell 4, hq.cell 5]) rfl ?_
        exact ⟨_, _, _, _, by rw [testIs_kind HK2.out, testC_kind HK2.out], HBq.out.drew⟩
  · have e0 : (xc == 0) = false := by rw [beq_eq_false_iff_ne]; exact h0
    have H0 := Lib.hid h0
    have hY0 := HY.out
    rw [e0] at hY0
    simp only [Bool.not_false] at hY0
    have HY := Lib.hid hY0
    clear hY0 e0
    have b0 := HY.out.cell 0
    simp only [List.getElem?_toArray, List.getElem?_cons_zero] at b0
    have HVf := HV
    have HYf := HY
    have HEf := HE
    have HBf := HB
    go_upto_region 4 with fail
    clear b0
    obtain ⟨v0, v1, v2⟩ := (show Boxed w4 s2 ⟨_, n, t⟩ from HVf.out).cells
    simp only at v0 v1 v2
    have y0 := (show ErrB w4 (s2 + 1) _ _ _ _ _ _ from HYf.out).cell 0
    have y1 := (show ErrB w4 (s2 + 1) _ _ _ _ _ _ from HYf.out).cell 1
    have y2 := (show ErrB w4 (s2 + 1) _ _ _ _ _ _ from HYf.out).cell 2
    have y3 := (show ErrB w4 (s2 + 1) _ _ _ _ _ _ from HYf.out).cell 3
    have y4 := (show ErrB w4 (s2 + 1) _ _ _ _ _ _ from HYf.out).cell 4
    have y5 := (show ErrB w4 (s2 + 1) _ _ _ _ _ _ from HYf.out).cell 5
    have e0 := (show ErrB w4 s _ _ _ _ _ _ from HEf.out).cell 0
    have e1 := (show ErrB w4 s _ _ _ _ _ _ from HEf.out).cell 1
    have e2 := (show ErrB w4 s _ _ _ _ _ _ from HEf.out).cell 2
    have e3 := (show ErrB w4 s _ _ _ _ _ _ from HEf.out).cell 3
    have e4 := (show ErrB w4 s _ _ _ _ _ _ from HEf.out).cell 4
    have e5 := (show ErrB w4 s _ _ _ _ _ _ from HEf.out).cell 5
    have f0 := (show ErrB w4 s _ _ _ _ _ _ from HEf.out).frozen 0
    have f1 := (show ErrB w4 s _ _ _ _ _ _ from HEf.out).frozen 1
    have f2 := (show ErrB w4 s _ _ _ _ _ _ from HEf.out).frozen 2
    have f3 := (show ErrB w4 s _ _ _ _ _ _ from HEf.out).frozen 3
    have f4 := (show ErrB w4 s _ _ _ _ _ _ from HEf.out).frozen 4
    have f5 := (show ErrB w4 s _ _ _ _ _ _ from HEf.out).frozen 5
    simp only [List.getElem?_toArray, List.getElem?_cons_zero, List.getElem?_cons_succ] at y0 y1 y2 y3 y4 y5 e0 e1 e2 e3 e4 e5
    have HQ := Lib.hid (put6_is (show ErrB w4 s _ _ _ _ _ _ from HEf.out) (.bool true) (.slice B xp.length d) (.int .i64 (xc)) (.bool false) (.string ⟨#[]⟩) (.string ⟨#[]⟩))
    have HBq := Lib.hid (put6_below (s := s) HBf.out (by have := HS.out; omega) (.bool true) (.slice B xp.length d) (.int .i64 (xc)) (.bool false) (.string ⟨#[]⟩) (.string ⟨#[]⟩))
    unfold put6 at HQ HBq
    go_region
    all_goals
      go_wp2
      have hq := HQ.out
      refine bodyPost_ret (v := .tuple #[.bool (false), .int .i64 (xn : Int), .agg #[.bool true, .slice B xp.length d, .int .i64 (xc), .bool false, .string ⟨#[]⟩, .string ⟨#[]⟩]]) (by simp [results, Tryz.results19, go_sem, hq.cell 0, hq.cell 1, hq.cell 2, hq.cell 3, hq.cell 4, hq.cell 5]) rfl ?_
      exact ⟨_, _, _, _, by rw [testIs_bad H0.out, testC_bad H0.out], HBq.out.drew⟩
end Go.Proofs.YtidomoibhjgkjaaGreatDoor

/-
  The text of an error, or of none.
-/
namespace Go.Proofs.YtidomoibhjgkjaaGreatDoor
open Go.RowKit

def textO : Option Er → List UInt8
  | none => []
  | some (e, ps) => textE e ps
theorem textO_any (o : Option Er) (u : Value) (w : World) (h : ErrO w o u) (hp : (placesO o).length ≤ 1000000) (hG : Glob w) (h0 : -2147483648 ≤ codeO o) (h1 : codeO o ≤ 2147483647) (hl : (textO o).length ≤ 281474976710656) :
    Calls Tryz.prog 30 #[u] w fun r w' => r = .returned (.string ⟨(textO o).toArray⟩) ∧ Below w.heap.size w w' := by
  rcases o with _ | ⟨e, ps⟩
  · obtain rfl : u = .nilIface := h
    refine (text_none w).mono ?_
    rintro r w' ⟨rfl, rfl⟩
    exact ⟨rfl, Below.refl _ _⟩
  · exact textE_any ps u e _ w h.1 h.2 (Nat.le_refl _) hp hG h0 h1 hl
end Go.Proofs.YtidomoibhjgkjaaGreatDoor

/-
  How far the errors of expressions go: their numbers, their places, their texts.
-/
namespace Go.Proofs.YtidomoibhjgkjaaGreatDoor
open Go.RowKit

theorem right_bnd (v : V) : 0 ≤ rightV v ∧ rightV v ≤ 100 := by
  unfold rightV
  split
  · decide
  · split
    · decide
    · split <;> decide
theorem own_bnd (t : TM) : 0 ≤ ownT t ∧ ownT t ≤ 100 := by
  unfold ownT
  split
  · decide
  · split
    · split
      · exact right_bnd t.v
      · split <;> decide
    · split
      · split <;> decide
      · decide
theorem go_bnd : ∀ (l : List TM) (n : Nat), 0 ≤ (checkGo n l).1 ∧ (checkGo n l).1 ≤ 100
  | [], n => by simp [checkGo]
  | t :: l, n => by
    unfold checkGo
    split
    · exact own_bnd t
    · split
      · show 0 ≤ (6 : Int) ∧ (6 : Int) ≤ 100; decide
      · exact go_bnd l _
theorem check_bnd (l : List TM) : 0 ≤ checkL l ∧ checkL l ≤ 1000 := by
  unfold checkL
  have h := go_bnd l 0
  split
  · decide
  · split
    · omega
    · split
      · decide
      · split
        · decide
        · split
          · decide
          · first | decide | (split <;> decide)
theorem stepG_bnd {get : ByteArray → Option V} {t : TM} {st : List V} {e : Int} {p : List ByteArray} (h : stepG get t st = .inr (e, p)) : 0 ≤ e ∧ e ≤ 1000 ∧ (p = [] ∨ p = [t.nm]) := by
  unfold stepG at h
  split at h
  · cases h
  · split at h
    · split at h
      · cases h
      · injection h with h; injection h with h h2; subst h h2; exact ⟨by decide, by decide, .inr rfl⟩
    · split at h
      · cases h
      · split at h
        · split at h
          · split at h
            · cases h
            · next a r hne =>
              injection h with h; injection h with h h2
              subst h h2
              rcases oneV_err t.op a with g | ⟨g | g | g, _⟩
              · exact absurd g hne
              all_goals exact ⟨by omega, by omega, .inl rfl⟩
          · injection h with h; injection h with h h2; subst h h2; exact ⟨by decide, by decide, .inl rfl⟩
        · split at h
          · split at h
            · cases h
            · next b a r hne =>
              injection h with h; injection h with h h2
              subst h h2
              rcases twoV_err t.op a b with g | ⟨g | g | g | g | g, _⟩
              · exact absurd g hne
              all_goals exact ⟨by omega, by omega, .inl rfl⟩
          · injection h with h; injection h with h h2; subst h h2; exact ⟨by decide, by decide, .inl rfl⟩
theorem runG_bnd (get : ByteArray → Option V) : ∀ (l : List TM) (st : List V) (f : Nat) {e : Int} {p : List ByteArray} {m : Nat}, runG get l st f = (.inr (e, p), m) → 0 ≤ e ∧ e ≤ 1000 ∧ (p = [] ∨ ∃ t ∈ l, p = [t.nm])
  | [], _, _, _, _, _, h => by simp [runG] at h
  | _ :: _, _, 0, e, p, m, h => by
    simp only [runG, Prod.mk.injEq, Sum.inr.injEq] at h
    obtain ⟨⟨h1, h2⟩, _⟩ := h
    exact ⟨by omega, by omega, .inl h2.symm⟩
  | t :: l, st, f + 1, e, p, m, h => by
    simp only [runG] at h
    cases hs : stepG get t st with
    | inl s' =>
      rw [hs] at h
      obtain ⟨a, b, c⟩ := runG_bnd get l s' f h
      refine ⟨a, b, ?_⟩
      rcases c with c | ⟨x, hx, c⟩
      · exact .inl c
      · exact .inr ⟨x, List.mem_cons_of_mem _ hx, c⟩
    | inr ep =>
      rw [hs] at h
      simp only [Prod.mk.injEq, Sum.inr.injEq] at h
      rw [h.1] at hs
      obtain ⟨a, b, c⟩ := stepG_bnd hs
      refine ⟨a, b, ?_⟩
      rcases c with c | c
      · exact .inl c
      · exact .inr ⟨t, List.mem_cons_self .., c⟩
theorem ofG_bnd (get : ByteArray → Option V) (l : List TM) (f : Nat) : 0 ≤ (ofG get l f).2.2.1 ∧ (ofG get l f).2.2.1 ≤ 1000 ∧ ((ofG get l f).2.2.2 = [] ∨ ∃ t ∈ l, (ofG get l f).2.2.2 = [t.nm]) := by
  unfold ofG
  split
  · have h := check_bnd l
    exact ⟨h.1, h.2, .inl rfl⟩
  · cases hr : runG get l [] f with
    | mk x m =>
      cases x with
      | inl st => exact ⟨Int.le_refl _, by show (0 : Int) ≤ 1000; decide, .inl rfl⟩
      | inr ep =>
        obtain ⟨e, p⟩ := ep
        exact runG_bnd get l [] f hr
theorem places_er (c : Int) (p : List ByteArray) (h : p.length ≤ 1) : (placesO (erOf c p)).length ≤ 1 := by
  unfold erOf
  split
  · exact Nat.zero_le _
  · exact h
theorem text_er (c : Int) (p : List ByteArray) (h0 : 0 ≤ c) (h1 : c ≤ 1000) (h : p = [] ∨ ∃ nm : ByteArray, nm.size ≤ 100 ∧ p = [nm]) : (textO (erOf c p)).length ≤ 281474976710656 := by
  unfold erOf
  split
  · exact Nat.zero_le _
  · show (textE (End.num c) p).length ≤ _
    rw [text_pre, List.length_append]
    have hw : (whatOf (End.num c)).length ≤ 2147483656 := by
      have := itoa_le c (by omega) (by omega)
      show ([101, 114, 114, 111, 114, 32] ++ Lib.itoa c).length ≤ _
      rw [List.length_append]
      simp only [List.length_cons, List.length_nil]
      omega
    have hp : (pre p p.length).length ≤ 102 := by
      rcases h with rfl | ⟨nm, hs, rfl⟩
      · exact Nat.zero_le _
      · have e : pre [nm] [nm].length = nm.data.toList ++ [58, 32] := by simp [pre]
        rw [e, List.length_append]
        have hz : nm.data.toList.length = nm.size := Array.length_toList
        simp only [List.length_cons, List.length_nil]
        omega
    omega
/-- The text of an error of an expression. -/
theorem textE_from {c : Int} {p : List ByteArray} {u : Value} {w : World} (h : ErrO w (erOf c p) u) (hG : Glob w) (h0 : 0 ≤ c) (h1 : c ≤ 1000) (hp : p = [] ∨ ∃ nm : ByteArray, nm.size ≤ 100 ∧ p = [nm]) (W : World) (hb : Below w.heap.size w W) :
    Calls Tryz.prog 30 #[u] W fun r w' => r = .returned (.string ⟨(textO (erOf c p)).toArray⟩) ∧ Below w.heap.size w w' := by
  have hl : p.length ≤ 1 := by
    rcases hp with rfl | ⟨nm, _, rfl⟩
    · exact Nat.zero_le _
    · exact Nat.le_refl _
  refine (textO_any _ u W (h.below hb) (Nat.le_trans (places_er c p hl) (show 1 ≤ 1000000 by omega)) (hG.below hb hG.big) (by rw [codeO_er]; omega) (by rw [codeO_er]; omega) (text_er c p h0 h1 hp)).mono ?_
  rintro r w' ⟨rfl, h2⟩
  exact ⟨rfl, hb.trans (h2.mono hb.size)⟩
end Go.Proofs.YtidomoibhjgkjaaGreatDoor

/-
  EvalTests: the function that is asked: it looks whether a term asks for the name, keeps that no other one was asked for, and gets the variable.
-/
namespace Go.Proofs.YtidomoibhjgkjaaGreatDoor
open Go.RowKit
namespace evalTests

def names1 (nm : ByteArray) (x : TM) : Bool := (x.op == 1 || x.op == 2) && decide (x.nm = nm)

theorem setCell_same (w : World) (s : Nat) (v : Value) {T : _} {fz : _} (h : w.heap[s]? = some (.cells #[v] T fz)) : w.setCell ⟨s, 0, none⟩ v = w := by
  have e : w.heap.modify s (fun
      | .cells c elem frozen => .cells (if (none : Option Nat).isSome then c else c.setIfInBounds 0 v) elem frozen
      | o => o) = w.heap := by
    apply Array.ext_getElem?
    intro i
    rw [Array.getElem?_modify]
    split
    · next hi => subst hi; rw [h]; rfl
    · rfl
  exact congrArg (fun x => ({ w with heap := x } : World)) e

set_option maxRecDepth 100000 in
set_option maxHeartbeats 4000000 in
theorem closure_any (l : List TM) (A : Option Addr) (c : Nat) (vs : List VN) (A2 : Option Addr) (c2 s0 s1 s2 : Nat) (w : World) (hl : TermsOk w l A) (hv : VarsOk w vs A2 c2)
    (h0 : w.cell? ⟨s0, 0, none⟩ = some (.slice A l.length c)) (h1 : w.heap[s1]? = some (.cells #[.bool false] 4 (0, 0))) (h2 : w.cell? ⟨s2, 0, none⟩ = some (.slice A2 vs.length c2)) (b0 : s0 < w.heap.size) (b1 : s1 < w.heap.size) (b2 : s2 < w.heap.size)
    (nm : ByteArray) (hn : l.any (names1 nm) = true) (W : World) (hW : Below w.heap.size w W) :
    Calls Tryz.prog 17 #[.string nm, .pointer (some ⟨s0, 0, none⟩), .pointer (some ⟨s1, 0, none⟩), .pointer (some ⟨s2, 0, none⟩)] W (RetAsk (.inl (getL vs nm)) W) := by
  have HB0 := Lib.hid (box_below W #[.int .i64 0, .int .i64 0, .string ⟨#[]⟩] 27)
  have HX0 := Lib.hid (Boxed.new W 0 0 ⟨#[]⟩)
  have HF : Hid (∀ wr, Below W.heap.size W wr → (wr.cell? ⟨s0, 0, none⟩ = some (.slice A l.length c) ∧ wr.heap[s1]? = some (.cells #[.bool false] 4 (0, 0)) ∧ wr.cell? ⟨s2, 0, none⟩ = some (.slice A2 vs.length c2)) ∧ RowT wr 0 wr.heap.size A l ∧ VarsOk wr vs A2 c2) := Lib.hid (fun wr h => by
    have hB := hW.trans (h.mono hW.size)
    exact ⟨⟨(hB.cell (p := ⟨s0, 0, none⟩) b0).trans h0, (hB.block s1 b1).trans h1, (hB.cell (p := ⟨s2, 0, none⟩) b2).trans h2⟩, (hl.below hB).row, hv.below hB⟩)
  have HNM := Lib.hid hn
  have hlen := hl.len
  have hs0 := (HF.out _ HB0.out).1.1
  clear hl hv h0 h1 h2 b0 b1 b2 hn hW
  go_enter Tryz.func17, Tryz.ntmps17
  go_wp2
  go_loopg [8, 10, 15] l.length (fun q nd _ i wr => ∃ (j : Nat) (b : Bool), j + q = l.length ∧ i = .int .i64 j ∧ nd = .bool b ∧ (l.take j).any (names1 nm) = b ∧ Below (W.alloc (.cells #[.int .i64 0, .int .i64 0, .string ⟨#[]⟩] 27)).heap.size (W.alloc (.cells #[.int .i64 0, .int .i64 0, .string ⟨#[]⟩] 27)) wr)
  case atStart => exact ⟨0, false, by omega, rfl, rfl, rfl, Below.refl _ _⟩
  case round =>
    obtain ⟨j, b, hk, rfl, rfl, hany, hb⟩ := hrel
    have HK := Lib.hid hk
    have HA := Lib.hid hany
    have HB := Lib.hid hb
    have HX := Lib.hid (HX0.out.below hb)
    have HW := Lib.hid (HB0.out.trans (hb.mono HB0.out.size))
    clear hany hb hk
    by_cases hj : j < l.length
    · have hlt : decide ((j : Int) < (l.length : Int)) = true := by simpa using hj
      have hlt2 : decide (j < l.length) = true := by simpa using hj
      obtain ⟨t, o, rfl, hv⟩ := (HF.out _ HW.out).2.1.at_ hj
      obtain ⟨c0, c1, c2', c3, c4⟩ := hv
      have HTS := Lib.hid (show l.take (j + 1) = l.take j ++ [l[j]] from by rw [List.take_succ_eq_append_getElem hj])
      generalize l[j] = x at *
      obtain ⟨op, ⟨k, n, s⟩, xn⟩ := x
      simp only at c0 c1 c2' c3 c4
      have hbn := HB.out.alloc HB.out.size (.cells #[.int .i64 op, .int .i64 k, .int .i64 n, .string s, .string xn] 47)
      have HBN := Lib.hid hbn
      clear hbn
      have HS : Hid (∀ b2, (b || names1 nm ⟨op, ⟨k, n, s⟩, xn⟩) = b2 → (l.take (j + 1)).any (names1 nm) = b2) := Lib.hid (fun b2 h => by
        rw [HTS.out, List.any_append, HA.out, ← h]
        simp)
      have e1 : xn = nm ∨ ((xn.toList == nm.toList) = false ∧ ¬ xn = nm) := by
        by_cases e : xn = nm
        · exact .inl e
        · refine .inr ⟨?_, e⟩
          rw [beq_eq_false_iff_ne, ByteArray.toList_eq, ByteArray.toList_eq]
          exact fun h => e (ByteArray.ext (Array.ext' h))
      cases b
      · by_cases o1 : op = 1
        · subst o1
          rcases e1 with rfl | ⟨e1, e2⟩
          · go_wp2
            go_roundg (gk - 1)
            case measure => have := HK.out; omega
            case rel => exact ⟨j + 1, true, by have := HK.out; omega, by go_num, rfl, HS.out _ (by simp [names1]), HBN.out⟩
          · go_wp2
            go_roundg (gk - 1)
            case measure => have := HK.out; omega
            case rel => exact ⟨j + 1, false, by have := HK.out; omega, by go_num, rfl, HS.out _ (by simp [names1, e2]), HBN.out⟩
        · have d1 : (op == 1) = false := by rw [beq_eq_false_iff_ne]; exact o1
          by_cases o2 : op = 2
          · subst o2
            rcases e1 with rfl | ⟨e1, e2⟩
            · go_wp2
              go_roundg (gk - 1)
              case measure => have := HK.out; omega
              case rel => exact ⟨j + 1, true, by have := HK.out; omega, by go_num, rfl, HS.out _ (by simp [names1]), HBN.out⟩
            · go_wp2
              go_roundg (gk - 1)
              case measure => have := HK.out; omega
              case rel => exact ⟨j + 1, false, by have := HK.out; omega, by go_num, rfl, HS.out _ (by simp [names1, e2]), HBN.out⟩
          · have d2 : (op == 2) = false := by rw [beq_eq_false_iff_ne]; exact o2
            have HD := Lib.hid (And.intro d1 d2)
            clear o1 o2 e1
            go_wp2
            go_roundg (gk - 1)
            case measure => have := HK.out; omega
            case rel => exact ⟨j + 1, false, by have := HK.out; omega, by go_num, rfl, HS.out _ (by simp [names1, HD.out.1, HD.out.2]), HBN.out⟩
      · clear e1
        go_wp2
        go_roundg (gk - 1)
        case measure => have := HK.out; omega
        case rel => exact ⟨j + 1, true, by have := HK.out; omega, by go_num, rfl, HS.out _ (by simp [names1]), HBN.out⟩
    · have hj' : j = l.length := by have := HK.out; omega
      have hlt : decide ((j : Int) < (l.length : Int)) = false := by simpa using hj
      have hlt2 : decide (j < l.length) = false := by simpa using hj
      have hb : b = true := by
        have h := HA.out
        rw [hj', List.take_length, HNM.out] at h
        exact h.symm
      subst hb
      obtain ⟨⟨g0, g1, g2⟩, _, hvs⟩ := HF.out _ HW.out
      have q1 : wr.cell? ⟨s1, 0, none⟩ = some (.bool false) := (cell_of_row wr s1 0 _ _ _ g1).trans rfl
      have f1 : wr.frozen? ⟨s1, 0, none⟩ = false := by simp [World.frozen?, g1]
      have HSame := Lib.hid (setCell_same wr s1 (.bool false) g1)
      have HG := Lib.hid (refGet_any vs A2 c2 nm wr (by have := hvs.short.1; omega) hvs.row)
      obtain ⟨v, hvv⟩ : ∃ v, getO vs nm = v := ⟨_, rfl⟩
      obtain ⟨is, his⟩ : ∃ is, (getL vs nm).isSome = is := ⟨_, rfl⟩
      rw [hvv, his] at HG
      obtain ⟨k, n, t⟩ := v
      have HP : Hid (∀ w', AskP (.inl (getL vs nm)) w' ⟨k, n, t⟩ is .nilIface) := Lib.hid (fun w' => ⟨hvv.symm, his.symm, rfl⟩)
      simp only [V.val] at HG
      generalize (Sum.inl (getL vs nm) : Option V ⊕ Er) = x at *
      clear hj hj' hvs hvv his g0 g1 HA HK HF HNM hs0
      go_upto_region 8 with fail
      rw [HSame.out]
      clear HSame q1 f1
      go_wp2_with fail
      refine HG.out.mono ?_
      rintro r w1 ⟨rfl, hb1⟩
      dsimp only
      have hx1 := HX.out.below hb1
      have hB1 := HW.out.trans (hb1.mono HW.out.size)
      have hb2 := box_below w1 #[.int .i64 k, .int .i64 n, .string t] 27
      have hx2 := hx1.below hb2
      have hB2 := hB1.trans (hb2.mono hB1.size)
      obtain ⟨y0, y1, y2⟩ := (Boxed.new w1 k n t).cells
      simp only at y0 y1 y2
      obtain ⟨r0, r1, r2⟩ := hx2.cells
      have f0 := hx2.frozen 0
      have f1 := hx2.frozen 1
      have f2 := hx2.frozen 2
      obtain ⟨t0, t1, t2⟩ := (hx2.set3' k n t).cells
      have HQ := Lib.hid (Below.set3' hB2 (Nat.le_refl _) (.int .i64 k) (.int .i64 n) (.string t))
      clear HG HX0 HB0 hb1 hx1 hB1 hb2 hx2 hB2
      go_wp2
      refine bodyPost_ret (v := .tuple #[.agg #[.int .i64 k, .int .i64 n, .string t], .bool is, .nilIface]) (by simp [results, Tryz.results17, go_sem, t0, t1, t2]) rfl ?_
      exact ⟨k, n, t, is, .nilIface, rfl, HQ.out, HP.out _⟩
theorem closure_enters (args : Array Value) (w : World) : (callFunc 17 args).run Tryz.prog w = .ok (.enter 17 args) w := enters_of Tryz.func17 (by kernel_rfl) rfl _ _
theorem asks_named {l : List TM} : ∀ t ∈ l, t.op = 1 ∨ t.op = 2 → l.any (names1 t.nm) = true := fun t ht h => by
  rw [List.any_eq_true]
  exact ⟨t, ht, by unfold names1; rcases h with h | h <;> simp [h]⟩

set_option maxRecDepth 100000 in
set_option maxHeartbeats 8000000 in
theorem walkG (l : List TM) (A : Option Addr) (c : Nat) (hl : l.length ≤ maxLen) (hn : ∀ x ∈ l, TermIn x) (vs : List VN) (A2 : Option Addr) (c2 : Nat) (hl2 : vs.length ≤ maxLen) (hn2 : ∀ x ∈ vs, VarIn x) (hc2 : vs.length ≤ c2) (hm2 : c2 ≤ maxLen) (hz2 : A2 = none → c2 = 0)
    (fuel : Int) (hf : -9223372036854775808 ≤ fuel ∧ fuel ≤ 9223372036854775807) (w : World) (hr : RowT w 0 w.heap.size A l) (hr2 : RowN w 0 w.heap.size A2 vs) (hG : GlobW w) :
    Calls Tryz.prog 4 #[.slice A l.length c, .slice A2 vs.length c2, .int .i64 fuel] w fun r w' => r = .returned (.bool true) ∧ Below w.heap.size w w' := by
  have hmf : ∀ (fn : Fn) (first cap : Array Value) (w : World), (Instr.makeFunc fn first cap).run Tryz.prog w = .ok (.func fn first cap) w := fun _ _ _ _ => rfl
  have hM : maxLen = 9223372036854775807 := by unfold maxLen; rfl
  -- the boxes of what the function holds
  have hb1 := box_below w #[.slice A l.length c] 22
  have hb2 := box_below (w.alloc (.cells #[.slice A l.length c] 22)) #[.slice A2 vs.length c2] 23
  have hc1 : (w.alloc (.cells #[.slice A l.length c] 22)).cell? ⟨w.heap.size, 0, none⟩ = some (.slice A l.length c) := by simp
  have hl1 := lt_alloc w (.cells #[.slice A l.length c] 22)
  have hc1' := (hb2.cell (p := ⟨w.heap.size, 0, none⟩) hl1).trans hc1
  have e1 : (w.alloc (.cells #[.slice A l.length c] 22)).heap.size = w.heap.size + 1 := by simp
  have hcc : ((w.alloc (.cells #[.slice A l.length c] 22)).alloc (.cells #[.slice A2 vs.length c2] 23)).cell? ⟨w.heap.size + 1, 0, none⟩ = some (.slice A2 vs.length c2) := by
    have h : ((w.alloc (.cells #[.slice A l.length c] 22)).alloc (.cells #[.slice A2 vs.length c2] 23)).cell? ⟨(w.alloc (.cells #[.slice A l.length c] 22)).heap.size, 0, none⟩ = some (.slice A2 vs.length c2) := by simp
    rwa [e1] at h
  have hll := lt_alloc (w.alloc (.cells #[.slice A l.length c] 22)) (.cells #[.slice A2 vs.length c2] 23)
  rw [e1] at hll
  have hl1' := Nat.lt_of_lt_of_le hl1 hb2.size
  have hB := hb1.trans (hb2.mono hb1.size)
  obtain ⟨w1, hw⟩ : ∃ y, (w.alloc (.cells #[.slice A l.length c] 22)).alloc (.cells #[.slice A2 vs.length c2] 23) = y := ⟨_, rfl⟩
  rw [hw] at hc1' hcc hll hl1' hB
  obtain ⟨s, hs⟩ : ∃ y, w.heap.size = y := ⟨_, rfl⟩
  rw [hs] at hc1' hcc hll hl1'
  have HW := Lib.hid hw
  have HS := Lib.hid hs
  have HB1 := Lib.hid hB
  have HCs : Hid (∀ W, Below w1.heap.size w1 W → W.cell? ⟨s, 0, none⟩ = some (.slice A l.length c) ∧ W.cell? ⟨s + 1, 0, none⟩ = some (.slice A2 vs.length c2)) := Lib.hid (fun W h => ⟨(h.cell (p := ⟨s, 0, none⟩) hl1').trans hc1', (h.cell (p := ⟨s + 1, 0, none⟩) hll).trans hcc⟩)
  have HL1 := Lib.hid hl1'
  have HL2 := Lib.hid hll
  have HLv := Lib.hid (fun W (hb : Below w1.heap.size w1 W) => live6_any W (hG.below (hB.trans (hb.mono hB.size)) hG.big))
  have HF1 := Lib.hid (fun W (hb0 : Below w1.heap.size w1 W) => by
    have hb := hB.trans (hb0.mono hB.size)
    exact few6_any l A c vs A2 c2 W (by rw [← hM]; exact hl) (fun x hx => by rw [← hM]; exact ⟨(hn x hx).2, (hn x hx).1.2.2⟩) ((hr.below hb (Nat.le_refl _)).wide (Nat.le_refl _) hb.size) (by rw [← hM]; exact hl2) (fun x hx => by rw [← hM]; exact ⟨(hn2 x hx).1, (hn2 x hx).2.2.2⟩) ((hr2.below hb (Nat.le_refl _)).wide (Nat.le_refl _) hb.size))
  obtain ⟨f1, hf1⟩ : ∃ f, few6 l vs = f := ⟨_, rfl⟩
  rw [hf1] at HF1
  have HT := Lib.hid (fun (e1 : f1 = true) => (⟨(few_terms (by rw [hf1]; exact e1) hn hr).below hB, (few_vars (by rw [hf1]; exact e1) hn2 hc2 hm2 hz2 hr2).below hB⟩ : TermsOk w1 l A ∧ VarsOk w1 vs A2 c2))
  have HG := Lib.hid (hG.below hB hG.big)
  clear hl hn hl2 hn2 hc2 hm2 hz2 hr hr2 hG hf1 hM hb1 hb2 hc1 hl1 hc1' e1 hcc hll hl1' hB hw hs
  go_enter Tryz.func4, Tryz.ntmps4
  go_upto_region 1 with fail
  rw [HW.out, HS.out]
  have hs1 : w.heap.size + 1 = s + 1 := by rw [HS.out]
  clear HW
  go_wp2_with fail
  refine (HLv.out _ (Below.refl _ _)).mono ?_
  rintro r w2 ⟨rfl, hb2⟩
  have HB2 := Lib.hid hb2
  clear hb2
  dsimp only
  obtain ⟨a1, a2⟩ := HCs.out _ HB2.out
  go_wp2_with fail
  refine (HF1.out _ HB2.out).mono ?_
  rintro r w3 ⟨rfl, hb3⟩
  have HB3 := Lib.hid (HB2.out.trans (hb3.mono HB2.out.size))
  clear hb3 HB2 a1 a2
  dsimp only
  cases f1
  · go_wp2_with fail
    refine (HLv.out _ HB3.out).mono ?_
    rintro r w9 ⟨rfl, hb9⟩
    have HB9 := Lib.hid (HB1.out.trans ((HB3.out.trans (hb9.mono HB3.out.size)).mono HB1.out.size))
    clear hb9
    dsimp only
    go_wp2
    go_ret
    exact ⟨rfl, HB9.out⟩
  have ht := HT.out (by simp)
  obtain ⟨X, hX⟩ : ∃ X, ofG (getL vs) l fuel.toNat = X := ⟨_, rfl⟩
  obtain ⟨⟨k, n, t⟩, xn, xc, xp⟩ := X
  -- the box of what is kept
  have hb4 := box_below w3 #[.bool false] 4
  have hk4 : (w3.alloc (.cells #[.bool false] 4)).heap[w3.heap.size]? = some (.cells #[.bool false] 4 (0, 0)) := heap_alloc_new w3 _
  have hl4 := lt_alloc w3 (.cells #[.bool false] 4)
  have hB4 := HB3.out.trans (hb4.mono HB3.out.size)
  obtain ⟨w4, hw⟩ : ∃ y, w3.alloc (.cells #[.bool false] 4) = y := ⟨_, rfl⟩
  obtain ⟨s3, hs⟩ : ∃ y, w3.heap.size = y := ⟨_, rfl⟩
  rw [hw] at hk4 hl4 hB4
  rw [hs] at hk4 hl4
  have ht4 := ht.1.below hB4
  have hv4 := ht.2.below hB4
  obtain ⟨d1, d2⟩ := HCs.out _ hB4
  have hA : AskC 17 #[.pointer (some ⟨s, 0, none⟩), .pointer (some ⟨s3, 0, none⟩), .pointer (some ⟨s + 1, 0, none⟩)] (askOf (getL vs)) (fun nm => l.any (names1 nm) = true) w4.heap.size w4 :=
    ⟨closure_enters, fun W nm hn hW => closure_any l A c vs A2 c2 s s3 (s + 1) w4 ht4 hv4 d1 hk4 d2 (Nat.lt_of_lt_of_le HL1.out hB4.size) hl4 (Nat.lt_of_lt_of_le HL2.out hB4.size) nm hn W hW, fun nm v _ h => by
      have h : getL vs nm = some v := by injection h
      obtain ⟨x, hx, e⟩ := getL_in h
      rw [← e]
      exact hv4.ok x hx⟩
  have HTe := Lib.hid (gTest_any l A c 17 _ (getL vs) (fun nm => l.any (names1 nm) = true) fuel w4 ht4.len (fun t h => ⟨Nat.le_trans (ht4.ok t h).1 (by decide), (ht4.ok t h).2⟩) ht4.row hA asks_named hf.2 hf.1 (HG.out.below hB4 HG.out.big) hX)
  have HRf := Lib.hid (fun W (hW : Below w1.heap.size w1 W) => refTest_any l A c vs A2 c2 fuel W (ht.1.below hW) (ht.2.below hW) hf.2 hf.1 hX)
  obtain ⟨yes, hy⟩ : ∃ y, testIs k n xc = y := ⟨_, rfl⟩
  obtain ⟨cd, hcd⟩ : ∃ y, testC k xc = y := ⟨_, rfl⟩
  rw [hy, hcd] at HTe
  simp only [hy, hcd] at HRf
  have HB4 := Lib.hid hB4
  have HK4 : Hid (∀ W, Below w4.heap.size w4 W → W.cell? ⟨s3, 0, none⟩ = some (.bool false)) := Lib.hid (fun W h => (cell_of_row W s3 0 _ _ _ ((h.block s3 hl4).trans hk4)).trans rfl)
  have HW := Lib.hid hw
  have HS3 := Lib.hid hs
  clear ht HT hX hb4 hk4 hl4 hB4 ht4 hv4 hA hw hs hy hcd HLv HF1 HB3 hf HL1 HL2 d1 d2
  go_upto_region 4 with fail
  rw [HW.out, HS3.out]
  clear HW HS3
  obtain ⟨a1, a2⟩ := HCs.out _ HB4.out
  go_wp2_with fail
  refine HTe.out.mono ?_
  rintro r w5 ⟨u, ps, rfl, hb5, hu⟩
  dsimp only
  have HB45 := Lib.hid hb5
  have HB5 := Lib.hid (HB4.out.trans (hb5.mono HB4.out.size))
  have HU5 := Lib.hid hu
  clear hb5 hu a1 a2 HTe
  obtain ⟨a1, a2⟩ := HCs.out _ HB5.out
  go_wp2_with fail
  refine (HRf.out _ HB5.out).mono ?_
  rintro r w6 ⟨e0, B, q, d, rfl, hb6⟩
  dsimp only
  have hb7 := box_below w6 #[.bool e0, .slice B q d, .int .i64 cd, .bool false, .string ⟨#[]⟩, .string ⟨#[]⟩] 37
  have he : ErrB (w6.alloc (.cells #[.bool e0, .slice B q d, .int .i64 cd, .bool false, .string ⟨#[]⟩, .string ⟨#[]⟩] 37)) w6.heap.size (.bool e0) (.slice B q d) (.int .i64 cd) (.bool false) (.string ⟨#[]⟩) (.string ⟨#[]⟩) := heap_alloc_new w6 _
  have hle := lt_alloc w6 (.cells #[.bool e0, .slice B q d, .int .i64 cd, .bool false, .string ⟨#[]⟩, .string ⟨#[]⟩] 37)
  have h57 := hb6.trans (hb7.mono hb6.size)
  have hU7 := HU5.out.below h57
  have h47 := HB45.out.trans (h57.mono HB45.out.size)
  have hB7 := HB4.out.trans (h47.mono HB4.out.size)
  obtain ⟨w7, hw⟩ : ∃ y, w6.alloc (.cells #[.bool e0, .slice B q d, .int .i64 cd, .bool false, .string ⟨#[]⟩, .string ⟨#[]⟩] 37) = y := ⟨_, rfl⟩
  obtain ⟨s5, hs⟩ : ∃ y, w6.heap.size = y := ⟨_, rfl⟩
  rw [hw] at he hle hU7 h47 hB7
  rw [hs] at he hle
  have KEEP : Hid (∀ w', Below w7.heap.size w7 w' → w'.cell? ⟨s3, 0, none⟩ = some (.bool false) ∧ w'.cell? ⟨s5, 2, none⟩ = some (.int .i64 cd) ∧ Below w7.heap.size w7 w') := Lib.hid (fun w' h => ⟨HK4.out w' (h47.trans (h.mono h47.size)), ((he.below h hle).cell 2).trans rfl, h⟩)
  have HC := Lib.hid (codeE_from hU7 (HG.out.below hB7 HG.out.big))
  have HB7 := Lib.hid (HB1.out.trans (hB7.mono HB1.out.size))
  have HW := Lib.hid hw
  have HS5 := Lib.hid hs
  clear hb6 hb7 he hle h57 hU7 h47 hB7 hw hs HU5 HB45 HB5 HB4 HRf HK4 HCs a1 a2 hmf HG HB1
  go_upto_region 6 with fail
  rw [HW.out, HS5.out]
  clear HW HS5
  obtain ⟨g0, g1, _⟩ := KEEP.out w7 (Below.refl _ _)
  go_region_held3 (fun w' => w'.cell? ⟨s3, 0, none⟩ = some (.bool false) ∧ w'.cell? ⟨s5, 2, none⟩ = some (.int .i64 cd) ∧ Below w7.heap.size w7 w')
    (first | with_reducible exact KEEP.out _ hb6 | with_reducible exact KEEP.out _ (Below.refl _ _).drew)
    (first | (go_at_call 13; refine (HC.out _ (by go_split_ands; assumption)).mono ?_; rintro r w' ⟨rfl, hb6⟩))
  go_wp2_with fail
  go_ret
  exact ⟨rfl, HB7.out.trans (hb6.mono HB7.out.size)⟩
end evalTests
end Go.Proofs.YtidomoibhjgkjaaGreatDoor
