import Derived.Test.YtidomoibhjgkjaaGreatDoorZC22
import Derived.Deep.AppendLies
import Derived.Test.YtidomoibhjgkjaaGreatDoorZC14
import Derived.Laws.AppendOwnNone
/-
  Package eval: what a term brings: a value, a variable, what two values come to.
-/
namespace Go.Proofs.YtidomoibhjgkjaaGreatDoor
open Go.RowKit

set_option maxRecDepth 100000 in
set_option maxHeartbeats 4000000 in
theorem gBring0_any (b lo : Nat) (gv : Value) (t : TM) (ht : t.op = 0) (st : List V) (w : World) (hM : RunM w b lo gv st) :
    Calls Tryz.prog 86 #[.pointer (some ⟨b, 0, none⟩), termVal t] w (RetBn (.inl t.v) b lo gv st w) := by
  have H3 := Lib.hid (TBox.new w t)
  have hlo := hM.lo2
  obtain ⟨op, ⟨vk, vn, vs⟩, nm⟩ := t
  simp only [termVal] at *
  subst ht
  obtain ⟨R, hR⟩ : ∃ R : Ending → World → Prop, RetBn (.inl ⟨vk, vn, vs⟩) b lo gv st w = R := ⟨_, rfl⟩
  rw [hR]
  have HEnd : Hid (∀ wF, Below w.heap.size w wF → R (.returned (.tuple #[.agg #[.int .i64 vk, .int .i64 vn, .string vs], .nilIface])) wF) := Lib.hid (fun wF hb => by rw [← hR]; exact ⟨vk, vn, vs, .nilIface, rfl, Foot.of_below hb hlo, rfl, rfl, hM.below hb⟩)
  clear hR hM
  go_enter Tryz.func86, Tryz.ntmps86
  go_upto_region 1 with fail
  simp only [termBox_def]
  obtain ⟨g, hg⟩ : ∃ g, w.heap.size = g := ⟨_, rfl⟩
  rw [hg] at H3
  obtain ⟨w3, hw3⟩ : ∃ y, termBox w ⟨0, ⟨vk, vn, vs⟩, nm⟩ = y := ⟨_, rfl⟩
  rw [hw3] at H3 ⊢
  simp only [hg]
  clear hw3 hg
  obtain ⟨c0, c1, c2, c3, c4⟩ := H3.out.t
  simp only [Nat.zero_add] at c0 c1 c2 c3 c4
  obtain ⟨r0, r1, r2⟩ := H3.out.r.cells
  have f0 := H3.out.r.frozen 0
  have f1 := H3.out.r.frozen 1
  have f2 := H3.out.r.frozen 2
  obtain ⟨t0, t1, t2⟩ := (H3.out.r.set3' vk vn vs).cells
  have HP := Lib.hid (H3.out.put3 (.int .i64 vk) (.int .i64 vn) (.string vs))
  clear H3
  go_wp2
  refine bodyPost_ret (v := .tuple #[.agg #[.int .i64 vk, .int .i64 vn, .string vs], .nilIface]) (by simp [results, Tryz.results86, go_sem, t0, t1, t2]) rfl ?_
  exact HEnd.out _ HP.out

def BrP (X : V ⊕ Er) (w : World) (v : V) (u : Value) : Prop := match X with
  | .inl x => x = v ∧ u = .nilIface
  | .inr e => ErrO w (some e) u
theorem BrP.put3 {X : V ⊕ Er} {w : World} {s : Nat} {v : V} {u y0 y1 y2 : Value} (hB : Box3 w s) (h : BrP X w v u) : BrP X (((w.setCell ⟨s, 0, none⟩ y0).setCell ⟨s, 1, none⟩ y1).setCell ⟨s, 2, none⟩ y2) v u := by
  cases X with
  | inl v => exact h
  | inr e => exact ErrO.put3 (x := some e) hB h
set_option maxRecDepth 100000 in
set_option maxHeartbeats 4000000 in
theorem gBringV_any (b lo gf : Nat) (caps : Array Value) (ask : Asks) (N : ByteArray → Prop) (B : Nat) (w0 : World) (t : TM) (ht : t.op = 1 ∨ t.op = 2) (st : List V) (w : World) (hM : RunM w b lo (.func (.func gf) #[] caps) st)
    (hA : AskC gf caps ask N B w0) (hN : N t.nm) (hW : Below B w0 w) (hB : B ≤ w.heap.size) :
    Calls Tryz.prog 86 #[.pointer (some ⟨b, 0, none⟩), termVal t] w (RetBn (varH ask (decide (t.op = 2)) t.nm) b lo (.func (.func gf) #[] caps) st w) := by
  have h3 := TBox.new w t
  have H3 := Lib.hid h3
  have hlo := hM.lo2
  have HV := Lib.hid (gVariable_any b lo gf caps ask N B w0 t ht st (termBox w t) (hM.below h3.hb) hA hN (hW.trans (h3.hb.mono hB)) (Nat.le_trans hB h3.hb.size))
  obtain ⟨X, hX⟩ : ∃ X, varH ask (decide (t.op = 2)) t.nm = X := ⟨_, rfl⟩
  rw [hX] at HV ⊢
  obtain ⟨op, ⟨vk, vn, vs⟩, nm⟩ := t
  simp only [termVal] at *
  obtain ⟨R, hR⟩ : ∃ R : Ending → World → Prop, RetBn X b lo (.func (.func gf) #[] caps) st w = R := ⟨_, rfl⟩
  rw [hR]
  have HEnd : Hid (∀ wF k n s u, Below w.heap.size w wF → BrP X wF ⟨k, n, s⟩ u → R (.returned (.tuple #[.agg #[.int .i64 k, .int .i64 n, .string s], u])) wF) := Lib.hid (fun wF k n s u hb hx => by
    rw [← hR]
    refine ⟨k, n, s, u, rfl, Foot.of_below hb hlo, ?_⟩
    cases X with
    | inl v => exact ⟨hx.1, hx.2, hM.below hb⟩
    | inr e => exact hx)
  have d0 : (op == 0) = false := by rw [beq_eq_false_iff_ne]; omega
  have dd : (op == 1) = true ∨ ((op == 1) = false ∧ (op == 2) = true) := by
    rcases ht with rfl | rfl
    · exact .inl rfl
    · exact .inr ⟨rfl, rfl⟩
  clear hR hM hA hN hW hB hX h3 ht
  go_enter Tryz.func86, Tryz.ntmps86
  go_upto_region 1 with fail
  simp only [termBox_def]
  obtain ⟨g, hg⟩ : ∃ g, w.heap.size = g := ⟨_, rfl⟩
  rw [hg] at H3
  obtain ⟨w3, hw3⟩ : ∃ y, termBox w ⟨op, ⟨vk, vn, vs⟩, nm⟩ = y := ⟨_, rfl⟩
  rw [hw3] at H3 HV ⊢
  simp only [hg]
  clear hw3 hg
  obtain ⟨c0, c1, c2, c3, c4⟩ := H3.out.t
  simp only [Nat.zero_add] at c0 c1 c2 c3 c4
  rcases dd with d1 | ⟨d1, d2⟩
  all_goals
    go_wp2_with fail
    refine HV.out.mono ?_
    rintro r w4 ⟨k, n, s, u, rfl, hb4, hx⟩
    have H4 := Lib.hid (H3.out.below hb4)
    clear H3 hb4 c0 c1 c2 c3 c4
    obtain ⟨r0, r1, r2⟩ := H4.out.r.cells
    have f0 := H4.out.r.frozen 0
    have f1 := H4.out.r.frozen 1
    have f2 := H4.out.r.frozen 2
    obtain ⟨t0, t1, t2⟩ := (H4.out.r.set3' k n s).cells
    have HP := Lib.hid (H4.out.put3 (.int .i64 k) (.int .i64 n) (.string s))
    have hx : BrP X w4 ⟨k, n, s⟩ u := hx
    have HQ := Lib.hid (BrP.put3 (y0 := .int .i64 k) (y1 := .int .i64 n) (y2 := .string s) H4.out.r.three hx)
    clear hx H4
    go_wp2
    refine bodyPost_ret (v := .tuple #[.agg #[.int .i64 k, .int .i64 n, .string s], u]) (by simp [results, Tryz.results86, go_sem, t0, t1, t2]) rfl ?_
    exact HEnd.out _ _ _ _ _ HP.out HQ.out
end Go.Proofs.YtidomoibhjgkjaaGreatDoor

/-
  Package eval: what a term of two values brings; a step of a run.
-/
namespace Go.Proofs.YtidomoibhjgkjaaGreatDoor
open Go.RowKit

set_option maxRecDepth 100000 in
set_option maxHeartbeats 4000000 in
theorem gBring2_any (b lo : Nat) (gv : Value) (t : TM) (ht : t.op < 0 ∨ 5 < t.op) (a c : V) (ha : okV a) (hcv : okV c) (st : List V) (w : World) (hM : RunM w b lo gv (c :: a :: st)) (hs : st.length ≤ 99999) :
    Calls Tryz.prog 86 #[.pointer (some ⟨b, 0, none⟩), termVal t] w (RetBn (if (twoV t.op a c).2 = 0 then .inl (twoV t.op a c).1 else .inr (numE (twoV t.op a c).2 [])) b lo gv st w) := by
  have h3 := TBox.new w t
  have hlo := hM.lo2
  have hblo := hM.lo1
  obtain ⟨sv0, hc0, hR0⟩ := hM.runs
  obtain ⟨X, hX⟩ : ∃ X, twoV t.op a c = X := ⟨_, rfl⟩
  rw [hX]
  have H3 := Lib.hid h3
  obtain ⟨op, ⟨vk, vn, vs⟩, nm⟩ := t
  obtain ⟨⟨xk, xn, xs⟩, xc⟩ := X
  have HO := Lib.hid (twoR ha hcv hX)
  simp only [termVal] at *
  have d0 : (op == 0) = false := by rw [beq_eq_false_iff_ne]; omega
  have d1 : (op == 1) = false := by rw [beq_eq_false_iff_ne]; omega
  have d2 : (op == 2) = false := by rw [beq_eq_false_iff_ne]; omega
  have d3 : (op == 3) = false := by rw [beq_eq_false_iff_ne]; omega
  have d4 : (op == 4) = false := by rw [beq_eq_false_iff_ne]; omega
  have d5 : (op == 5) = false := by rw [beq_eq_false_iff_ne]; omega
  clear hX ht
  obtain ⟨u, hof, hu⟩ := ofU xc
  have HOf := Lib.hid hof
  obtain ⟨R, hR⟩ : ∃ R : Ending → World → Prop, (RetBn (if xc = 0 then .inl ⟨xk, xn, xs⟩ else .inr (numE xc [])) b lo gv st w) = R := ⟨_, rfl⟩
  rw [hR]
  have HEnd : Hid (∀ wF, Foot b w.heap.size w wF → RunM wF b lo gv st → R (.returned (.tuple #[.agg #[.int .i64 xk, .int .i64 xn, .string xs], u])) wF) := Lib.hid (fun wF hf hm => by rw [← hR]; exact bnEnd hu (hf.less hlo) hm)
  clear hR hof hu
  go_enter Tryz.func86, Tryz.ntmps86
  go_upto_region 1 with fail
  simp only [termBox_def]
  obtain ⟨g, hg⟩ : ∃ g, w.heap.size = g := ⟨_, rfl⟩
  have hbg : b < g := by omega
  rw [hg] at H3
  obtain ⟨w3, hw3⟩ : ∃ y, termBox w ⟨op, ⟨vk, vn, vs⟩, nm⟩ = y := ⟨_, rfl⟩
  rw [hw3] at H3 h3 ⊢
  simp only [hg]
  have hwg : w.heap.size ≤ g + 1 := by omega
  have HWG := Lib.hid hwg
  clear hw3 hg hwg
  have hne1 : ¬ g + 1 = b := by omega
  obtain ⟨c0, _, _, _, c4⟩ := H3.out.t
  simp only [Nat.zero_add] at c0 c4
  have HTB := Lib.hid H3.out.tb
  -- the last value
  have hc3 := hc0.keep (h3.hb.block _ hc0.lt)
  have hf3 : Foot b w.heap.size w w3 := Foot.of_below h3.hb (Nat.le_refl _)
  have HTk := Lib.hid (gTake_any b lo gv c (a :: st) w w3 sv0 hR0 hc3 hf3 (by rw [List.length_cons]; omega))
  obtain ⟨ck, cn, sc⟩ := c
  obtain ⟨ak, an, sa⟩ := a
  have HF3 := Lib.hid hf3
  clear hM ha hcv h3 hc0 hR0 hc3 hf3
  go_wp2_with fail
  refine HTk.out.mono ?_
  rintro r w4 ⟨sv1, rfl, hc4, hf4, hR1⟩
  simp only [V.val]
  have hT4 := HTB.out.foot hf4 hbg
  have hF4 : Foot b w.heap.size w w4 := HF3.out.trans (hf4.less HF3.out.size)
  clear HTk c0 c4 HTB
  -- the one ahead of it
  have hc4' := hc4.alloc (.cells #[.int .i64 ck, .int .i64 cn, .string sc] 27)
  have hF4' := hF4.alloc hF4.size (.cells #[.int .i64 ck, .int .i64 cn, .string sc] 27)
  have hT4' := hT4.below (box_below w4 #[.int .i64 ck, .int .i64 cn, .string sc] 27)
  have hB4' : Boxed (w4.alloc (.cells #[.int .i64 ck, .int .i64 cn, .string sc] 27)) w4.heap.size ⟨ck, cn, sc⟩ := Boxed.new w4 ck cn sc
  have HTk := Lib.hid (gTake_any b lo gv ⟨ak, an, sa⟩ st w _ sv1 hR1 hc4' hF4' (by omega))
  have hb4 := hc4.lt
  have HT4' := Lib.hid hT4'
  have HB4' := Lib.hid hB4'
  have HF4' := Lib.hid hF4'
  obtain ⟨w4', hw4⟩ : ∃ y, w4.alloc (.cells #[.int .i64 ck, .int .i64 cn, .string sc] 27) = y := ⟨_, rfl⟩
  rw [hw4] at HTk HT4' HB4' HF4'
  have HW4 := Lib.hid hw4
  clear hc4 hf4 hR1 hT4 hF4 hc4' hF4' hT4' hB4' hw4
  go_wp2_with fail
  rw [HW4.out]
  refine HTk.out.mono ?_
  rintro r w5 ⟨sv2, rfl, hc5, hf5, hR2⟩
  simp only [V.val]
  obtain ⟨s4, hs4⟩ : ∃ y, w4.heap.size = y := ⟨_, rfl⟩
  rw [hs4] at HB4' hb4
  simp only [hs4]
  have hT5 := HT4'.out.foot hf5 hbg
  have hF5 : Foot b w.heap.size w w5 := HF4'.out.trans (hf5.less HF4'.out.size)
  have hB5 : Boxed w5 s4 ⟨ck, cn, sc⟩ := (hf5.block _ HB4'.out.lt (by omega)).trans HB4'.out
  clear HTk HT4' HB4' HF4' HW4 hs4
  -- both
  have hb5 := box_below w5 #[.int .i64 ak, .int .i64 an, .string sa] 27
  have hA6 : Boxed (w5.alloc (.cells #[.int .i64 ak, .int .i64 an, .string sa] 27)) w5.heap.size ⟨ak, an, sa⟩ := Boxed.new w5 ak an sa
  have hB6 := hB5.below hb5
  have hT6 := hT5.below hb5
  have hc6 := hc5.alloc (.cells #[.int .i64 ak, .int .i64 an, .string sa] 27)
  have hF6 := hF5.alloc hF5.size (.cells #[.int .i64 ak, .int .i64 an, .string sa] 27)
  obtain ⟨w6, hw6⟩ : ∃ y, w5.alloc (.cells #[.int .i64 ak, .int .i64 an, .string sa] 27) = y := ⟨_, rfl⟩
  rw [hw6] at hA6 hB6 hT6 hc6 hF6
  have HW6 := Lib.hid hw6
  have HR2 := Lib.hid hR2
  have HT6 := Lib.hid hT6
  have HF6 := Lib.hid hF6
  have HC6 := Lib.hid hc6
  clear hw6 hb5 hB5 hT5 hF5 hf5 hc5 hR2 hT6 hF6 hc6
  obtain ⟨p0, p1, p2⟩ := hA6.cells
  obtain ⟨q0, q1, q2⟩ := hB6.cells
  simp only at p0 p1 p2 q0 q1 q2
  have e0 := HT6.out.op0
  simp only at e0
  clear hA6 hB6
  go_upto_region 14 with fail
  rw [HW6.out]
  simp only [V.val] at HO
  go_wp2_with fail
  refine (HO.out _).mono ?_
  rintro r w7 ⟨rfl, hb7⟩
  have RD := Lib.hid (readyA (w := w) HF6.out HT6.out HC6.out hb7 xk xn xs)
  obtain ⟨w8, hw8⟩ : ∃ y, w7.alloc (.cells #[.int .i64 xk, .int .i64 xn, .string xs] 27) = y := ⟨_, rfl⟩
  obtain ⟨s6, hs6⟩ : ∃ y, w7.heap.size = y := ⟨_, rfl⟩
  rw [hw8, hs6] at RD
  have HW8 := Lib.hid hw8
  have HS6 := Lib.hid hs6
  clear hw8 hs6 hb7 HT6 HC6 HF6 HW6 e0 p0 p1 p2 q0 q1 q2
  go_upto_region 15 with fail
  rw [HW8.out, HS6.out]
  obtain ⟨s0, s1, s2⟩ := RD.out.box.cells
  obtain ⟨r0, r1, r2⟩ := RD.out.res.cells
  simp only at s0 s1 s2
  have f0 := RD.out.res.frozen 0
  have f1 := RD.out.res.frozen 1
  have f2 := RD.out.res.frozen 2
  have res' : Boxed w8 (g + 1) V0 := RD.out.res
  have run' : RunC w8 b gv sv2 := RD.out.run
  obtain ⟨t0, t1, t2⟩ := (res'.set3' xk xn xs).cells
  have FF := Lib.hid ((((RD.out.foot.setCell (p := ⟨g + 1, 0, none⟩) (.inr HWG.out) (.int .i64 xk)).setCell (p := ⟨g + 1, 1, none⟩) (.inr HWG.out) (.int .i64 xn)).setCell (p := ⟨g + 1, 2, none⟩) (.inr HWG.out) (.string xs)).drew)
  have RF : Hid (RunC ((((w8.setCell ⟨g + 1, 0, none⟩ (.int .i64 xk)).setCell ⟨g + 1, 1, none⟩ (.int .i64 xn)).setCell ⟨g + 1, 2, none⟩ (.string xs)).drew) b gv sv2) := Lib.hid (((run'.other (o := 0) (u := .int .i64 xk) hne1).other (o := 1) (u := .int .i64 xn) hne1).other (o := 2) (u := .string xs) hne1)
  clear RD res' run' HW8 HS6 hne1
  go_region_with ((go_at_call 45; refine (HOf.out _).mono ?_; rintro r w9 ⟨rfl, rfl⟩))
  all_goals
    go_wp2
    refine bodyPost_ret (v := .tuple #[.agg #[.int .i64 xk, .int .i64 xn, .string xs], u]) (by simp [results, Tryz.results86, go_sem, t0, t1, t2]) rfl ?_
    exact HEnd.out _ FF.out (HR2.out _ RF.out FF.out)
end Go.Proofs.YtidomoibhjgkjaaGreatDoor

/-
  Package eval: a step of a run.
-/
namespace Go.Proofs.YtidomoibhjgkjaaGreatDoor
open Go.RowKit

theorem gBring_any (b lo gf : Nat) (caps : Array Value) (ask : Asks) (N : ByteArray → Prop) (B : Nat) (w0 : World) (t : TM) (ht : ownT t = 0) (st : List V) (hn : takesT t.op ≤ st.length) (hst : ∀ v ∈ st, okV v) (hs : st.length ≤ 99999) (w : World)
    (hM : RunM w b lo (.func (.func gf) #[] caps) st) (hA : AskC gf caps ask N B w0) (hN : t.op = 1 ∨ t.op = 2 → N t.nm) (hW : Below B w0 w) (hB : B ≤ w.heap.size) :
    Calls Tryz.prog 86 #[.pointer (some ⟨b, 0, none⟩), termVal t] w (RetBn (bringH ask t st) b lo (.func (.func gf) #[] caps) (st.drop (takesT t.op)) w) := by
  obtain ⟨h0, h18, _, _⟩ := own_op ht
  unfold bringH
  by_cases e0 : t.op = 0
  · rw [if_pos e0, show takesT t.op = 0 from if_pos (by omega)]
    exact gBring0_any b lo _ t e0 st w hM
  rw [if_neg e0]
  by_cases e1 : t.op = 1
  · have h := gBringV_any b lo gf caps ask N B w0 t (.inl e1) st w hM hA (hN (.inl e1)) hW hB
    rw [if_pos e1, show takesT t.op = 0 from if_pos (by omega)]
    rw [show decide (t.op = 2) = false by rw [e1]; rfl] at h
    exact h
  rw [if_neg e1]
  by_cases e2 : t.op = 2
  · have h := gBringV_any b lo gf caps ask N B w0 t (.inr e2) st w hM hA (hN (.inr e2)) hW hB
    rw [if_pos e2, show takesT t.op = 0 from if_pos (by omega)]
    rw [show decide (t.op = 2) = true by rw [e2]; rfl] at h
    exact h
  rw [if_neg e2]
  by_cases e6 : t.op < 6
  · have h1 : takesT t.op = 1 := by unfold takesT; rw [if_neg (by omega), if_pos e6]
    rw [if_pos e6, h1]
    rw [h1] at hn
    match st, hn, hst, hs, hM with
    | a :: r, _, hst, hs, hM => exact gBring1_any b lo _ t (by omega) a (hst a (List.mem_cons_self ..)) r w hM (by rw [List.length_cons] at hs; omega)
  · have h2 : takesT t.op = 2 := by unfold takesT; rw [if_neg (by omega), if_neg e6]
    rw [if_neg e6, h2]
    rw [h2] at hn
    match st, hn, hst, hs, hM with
    | c :: a :: r, _, hst, hs, hM => exact gBring2_any b lo _ t (by omega) a c (hst a (List.mem_cons_of_mem _ (List.mem_cons_self ..))) (hst c (List.mem_cons_self ..)) r w hM (by simp only [List.length_cons] at hs; omega)

/-- What a step leaves. -/
def StP (x : List V ⊕ Er) (w' : World) (u : Value) (b lo : Nat) (gv : Value) : Prop := match x with
  | .inl st' => u = .nilIface ∧ RunM w' b lo gv st'
  | .inr e => ErrO w' (some e) u

def RetSt (x : List V ⊕ Er) (b lo : Nat) (gv : Value) (w : World) (r : Ending) (w' : World) : Prop := ∃ u, r = .returned u ∧ Foot b lo w w' ∧ StP x w' u b lo gv
def stepX (x : V ⊕ Er) (rest : List V) : List V ⊕ Er := match x with
  | .inl v => .inl (v :: rest)
  | .inr e => .inr e
theorem step_x (ask : Asks) (t : TM) (st : List V) : stepH ask t st = stepX (bringH ask t st) (st.drop (takesT t.op)) := by
  unfold stepH stepX
  cases bringH ask t st <;> rfl
theorem newsV (w : World) (e : TypeId) (k n : Int) (s : ByteArray) : ∀ j u, (cellV ⟨k, n, s⟩)[j]? = some u → (w.alloc (.cells #[.int .i64 k, .int .i64 n, .string s] e)).cell? ((⟨w.heap.size, 0, none⟩ : Addr).add j) = some u := fun j u hu => by
  have add : (⟨w.heap.size, 0, none⟩ : Addr).add j = ⟨w.heap.size, j, none⟩ := by unfold Addr.add; split <;> simp_all
  rw [add, cell_of_row _ w.heap.size _ _ e (0, 0) (heap_alloc_new w _)]
  simpa [cellV] using hu

set_option maxRecDepth 100000 in
set_option maxHeartbeats 4000000 in
theorem gStep_any (b lo gf : Nat) (caps : Array Value) (ask : Asks) (N : ByteArray → Prop) (B : Nat) (w0 : World) (t : TM) (ht : ownT t = 0) (st : List V) (hn : takesT t.op ≤ st.length) (hst : ∀ v ∈ st, okV v) (hs : st.length ≤ 99999) (left : Int) (w : World)
    (hM : RunM w b lo (.func (.func gf) #[] caps) st) (hA : AskC gf caps ask N B w0) (hN : t.op = 1 ∨ t.op = 2 → N t.nm) (hW : Below B w0 w) (hB : B ≤ w.heap.size) :
    Calls Tryz.prog 52 #[.pointer (some ⟨b, 0, none⟩), termVal t, .int .i64 left] w (RetSt (if left < 1 then .inr (numE 60 []) else stepH ask t st) b lo (.func (.func gf) #[] caps) w) := by
  have hlo := hM.lo2
  obtain ⟨op, ⟨vk, vn, vs⟩, nm⟩ := t
  have hb0 : Below w.heap.size w (w.alloc (.cells #[.int .i64 op, .int .i64 vk, .int .i64 vn, .string vs, .string nm] 47)) := box_below _ _ _
  have HB := Lib.hid (gBring_any b lo gf caps ask N B w0 ⟨op, ⟨vk, vn, vs⟩, nm⟩ ht st hn hst hs _ (hM.below hb0) hA hN (hW.trans (hb0.mono hB)) (Nat.le_trans hB hb0.size))
  simp only [termVal] at *
  by_cases hl : left < 1
  · have d : decide (left < 1) = true := by simpa using hl
    rw [if_pos hl]
    clear hM hA hN hW hB HB hl
    have HB0 := Lib.hid hb0
    clear hb0
    go_enter Tryz.func52, Tryz.ntmps52
    go_wp2_with (go_at_call 45; refine (of_num 60 _ (by decide)).mono ?_; rintro r w5 ⟨rfl, rfl⟩)
    go_ret
    exact ⟨_, rfl, Foot.of_below HB0.out hlo, ⟨rfl, .inr (by intro h; cases h)⟩⟩
  · have d : decide (left < 1) = false := by simpa using hl
    rw [if_neg hl]
    rw [step_x]
    obtain ⟨X, hX⟩ : ∃ X, bringH ask ⟨op, ⟨vk, vn, vs⟩, nm⟩ st = X := ⟨_, rfl⟩
    rw [hX] at HB ⊢
    obtain ⟨rest, hrest⟩ : ∃ l, st.drop (takesT op) = l := ⟨_, rfl⟩
    have hrl : rest.length ≤ 99999 := by rw [← hrest, List.length_drop]; omega
    simp only [hrest] at HB ⊢
    have HL := Lib.hid hl
    have hF0 : Foot b lo w (w.alloc (.cells #[.int .i64 op, .int .i64 vk, .int .i64 vn, .string vs, .string nm] 47)) := Foot.of_below hb0 hlo
    have HF0 := Lib.hid hF0
    clear hM hA hN hW hB hl hb0 hX hrest hn hst hs ht hF0
    obtain ⟨R, hR⟩ : ∃ R : Ending → World → Prop, RetSt (stepX X rest) b lo (.func (.func gf) #[] caps) w = R := ⟨_, rfl⟩
    rw [hR]
    have HR := Lib.hid hR
    clear hR
    go_enter Tryz.func52, Tryz.ntmps52
    go_wp2_with fail
    refine HB.out.mono ?_
    rintro r w4 ⟨k, n, s, u, rfl, hf4, hx⟩
    dsimp only
    have HF4 := Lib.hid (HF0.out.trans hf4)
    clear HB HF0 hf4
    cases X with
    | inr e =>
      have hx : ErrO w4 (some e) u := hx
      obtain ⟨T, y, rfl⟩ := hx.iface
      have HX := Lib.hid (hx.below (box_below w4 #[.int .i64 k, .int .i64 n, .string s] 27))
      have hsz := HF4.out.size
      have HF5 := Lib.hid (HF4.out.alloc (Nat.le_trans hlo hsz) (.cells #[.int .i64 k, .int .i64 n, .string s] 27))
      clear hx hsz
      go_wp2
      rw [← HR.out]
      exact ⟨_, rfl, HF5.out, HX.out⟩
    | inl v =>
      obtain ⟨hv, rfl, hm⟩ := hx
      have hm5 := hm.alloc (.cells #[.int .i64 k, .int .i64 n, .string s] 27)
      have hv5 : Boxed (w4.alloc (.cells #[.int .i64 k, .int .i64 n, .string s] 27)) w4.heap.size ⟨k, n, s⟩ := Boxed.new w4 k n s
      have hf5 := HF4.out.alloc (Nat.le_trans hlo HF4.out.size) (.cells #[.int .i64 k, .int .i64 n, .string s] 27)
      obtain ⟨w5, hw5⟩ : ∃ y, w4.alloc (.cells #[.int .i64 k, .int .i64 n, .string s] 27) = y := ⟨_, rfl⟩
      rw [hw5] at hm5 hv5 hf5
      obtain ⟨s5, hs5⟩ : ∃ y, w4.heap.size = y := ⟨_, rfl⟩
      rw [hs5] at hv5
      have HW5 := Lib.hid hw5
      have HS5 := Lib.hid hs5
      have HV := Lib.hid hv
      have HF5 := Lib.hid hf5
      clear hw5 hs5 hm hv HF4 hf5
      go_upto_region 5 with fail
      rw [HW5.out, HS5.out]
      clear HW5 HS5
      obtain ⟨⟨A, c, h1, h2⟩, h5, h6⟩ := hm5
      obtain ⟨i, z, hi0, hz0, hzs, hz2, hz3⟩ := infoVal
      have hown : w5.ownsRow lo 27 3 (.slice A rest.length c) rest.length (cells3 rest.reverse) := by
        have h := h2
        unfold OwnV at h
        rwa [List.length_reverse] at h
      obtain ⟨v0, v1, v2⟩ := hv5.cells
      simp only at v0 v1 v2
      have k1 := h1.c1
      have f1 := h1.fz 1
      have hbl := h1.lt
      have HN := Lib.hid (fun e => newsV w5 e k n s)
      have HI := Lib.hid hi0
      have HO := Lib.hid hown
      have H1 := Lib.hid h1
      have H2 := Lib.hid h2
      have HNE := Lib.hid (show some b ≠ (Value.slice A rest.length c).ownBlock from fun e => by
        have := (h2.lt b e.symm).1
        omega)
      have hcl := cells3_len rest.reverse
      rw [List.length_reverse] at hcl
      have HCL := Lib.hid hcl
      clear h1 h2 hi0 hown hv5 hcl
      go_region_law ((refine step_append_lies _ rfl (.tmp 24) (.tmp 26) 74 rfl lo 27 i z 3 32 Tryz.underlying74 HI.out hz0 hz2 hz3 hzs (by omega) (.slice A rest.length c) rest.length (cells3 rest.reverse) (by simp [Act.eval]) (by first | exact World.ownsRow.alloc HO.out _ | exact HO.out) ⟨w5.heap.size, 0, none⟩ 1 1 (cellV ⟨k, n, s⟩) (by simp [Act.eval]) (by rfl) (HN.out _) (cellV_one _) (by omega) (by unfold maxLen; omega) (by omega) (by simp <;> omega) (w5.heap.size + 1) (by simp <;> omega) ?_; intro g1 cap1 w1 hown' hgrow hat hlt'; have hE : RunC w1 b (.func (.func gf) #[] caps) (.slice A rest.length c) := (H1.out.alloc _).keep (hgrow.block b (by simp <;> omega) HNE.out); have hc4 := hE.c1; have hf4' := hE.fz 1))
      all_goals
        have hm1 : RunC (w5.alloc (.cells #[.int .i64 k, .int .i64 n, .string s] 27)).drew b (.func (.func gf) #[] caps) (.slice A rest.length c) := H1.out.alloc _
        have hm2 : OwnV (w5.alloc (.cells #[.int .i64 k, .int .i64 n, .string s] 27)).drew lo (.slice A rest.length c) rest.reverse := H2.out.allocs _
        have hm6 : lo ≤ (w5.alloc (.cells #[.int .i64 k, .int .i64 n, .string s] 27)).drew.heap.size := Nat.le_trans h6 (Nat.le_of_lt (lt_alloc w5 _))
        have hm := RunM.more (v := ⟨k, n, s⟩) hm1 hm2 h5 hm6 hown' hgrow
        have HMm := Lib.hid hm.1
        have HFm := Lib.hid (((HF5.out.alloc h6 _).drew).trans hm.2)
        clear hm hm1 hm2 hm6 hown' hgrow hat hlt' hE hc4 hf4'
        go_wp2
        rw [← HR.out, HV.out]
        exact ⟨_, rfl, HFm.out, rfl, HMm.out⟩
end Go.Proofs.YtidomoibhjgkjaaGreatDoor

/-
  Package expr: signs of two are closed; what opens; a value that is whole.
-/
namespace Go.Proofs.YtidomoibhjgkjaaGreatDoor
open Go.RowKit

theorem takesD_last {S : List TM} : (takesD (lastM S) = 2) ↔ ∃ t S', S = t :: S' ∧ isTwo t.op = true := by
  cases S with
  | nil => simp [lastM, takesD]
  | cons t S =>
    rw [lastM, takesD_two]
    constructor
    · exact fun h => ⟨t, S, rfl, h⟩
    · rintro ⟨t', S', e, h⟩
      injection e with e1 _
      rw [e1]; exact h

end Go.Proofs.YtidomoibhjgkjaaGreatDoor

/-
  Package expr: a value that is whole.
-/
namespace Go.Proofs.YtidomoibhjgkjaaGreatDoor
open Go.RowKit

end Go.Proofs.YtidomoibhjgkjaaGreatDoor
