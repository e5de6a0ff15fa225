import Derived.Test.YtjkmodfbbiojmaaZC34
import Derived.Deep.LoopGhost
import Derived.Deep.DeepCutAuto
import Derived.Test.YtjkmodfbbiojmaaZC15
/-
  Records, the document's own answers: Forget.
-/
namespace Go.Proofs.Ytjkmodfbbiojmaa
open Go.RowKit

theorem forget_yes {l : List RecS} {low j : Nat} (hj : j < l.length) (h : low < (l[j]'hj).last) : forgetR (l.take (j + 1)) low = forgetR (l.take j) low ++ [l[j]'hj] := by rw [forget_take hj, if_pos h]
theorem forget_no {l : List RecS} {low j : Nat} (hj : j < l.length) (h : ¬ low < (l[j]'hj).last) : forgetR (l.take (j + 1)) low = forgetR (l.take j) low := by rw [forget_take hj, if_neg h, List.append_nil]
theorem forget_take_len (l : List RecS) (low j : Nat) : (forgetR (l.take j) low).length ≤ l.length := Nat.le_trans (forget_len _ _) (by rw [List.length_take]; omega)
set_option maxRecDepth 100000 in
set_option maxHeartbeats 8000000 in
theorem refForgetM_any (l : List RecS) (A : Option Addr) (c low : Nat) (w : World) (hl : okRs l) (hlow : low < 18446744073709551616) (h : ChR w w.heap.size A c l) :
    Calls Try.prog 15 #[.slice A l.length c, .int .u64 low] w (RetRec (forgetR l low) w) := by
  have HR := Lib.hid h
  have HO := Lib.hid hl
  have hll := h.len
  have HO0 := Lib.hid (OwnG.made w 29 6 mrCells)
  have HB0 := Lib.hid ((Below.refl w.heap.size w).alloc (Nat.le_refl _) (.cells #[] 29))
  clear h hl
  go_enter Try.func15, Try.ntmps15
  go_wp2
  go_loopg [5, 11] l.length (fun q v i wr => ∃ (j : Nat) (ms : List MR) (v' : Value), j + q = l.length ∧ i = .int .i64 j ∧ v' = v ∧ OwnG 29 6 mrCells wr w.heap.size v' ms ∧ ms.map MR.r = forgetR (l.take j) low ∧ (∀ x ∈ ms, OkMR w w.heap.size x) ∧ Below w.heap.size w wr)
  case atStart => exact ⟨0, [], _, by omega, rfl, rfl, HO0.out, rfl, by simp, HB0.out⟩
  case round =>
    obtain ⟨j, ms, v, hk, rfl, rfl, ho, hm, hok, hb⟩ := hrel
    obtain ⟨wo, hwo⟩ : ∃ y, y = wr := ⟨_, rfl⟩
    subst hwo
    have HK := Lib.hid hk
    have HOw := Lib.hid ho
    have HM := Lib.hid hm
    have HOk := Lib.hid hok
    have HB := Lib.hid hb
    have hml : ms.length ≤ 1000 := by
      have := forget_take_len l low j
      have := HO.out.1
      have e := congrArg List.length hm
      rw [List.length_map] at e
      omega
    clear hk ho hm hok hb
    by_cases hj : j < l.length
    · have hlt : decide ((j : Int) < (l.length : Int)) = true := by simpa using hj
      have hlt3 : decide (j < l.length) = true := by simpa using hj
      obtain ⟨b, o, rfl, hbl, x, hx, hokx, p0, p1, p2, p3, p4, p5⟩ := HR.out.2.2.2.at_ hj
      have c0 := (HB.out.cell (p := ⟨b, o + j * 6, none⟩) hbl).trans p0
      have c1 := (HB.out.cell (p := ⟨b, o + j * 6 + 1, none⟩) hbl).trans p1
      have c2 := (HB.out.cell (p := ⟨b, o + j * 6 + 2, none⟩) hbl).trans p2
      have c3 := (HB.out.cell (p := ⟨b, o + j * 6 + 3, none⟩) hbl).trans p3
      have c4 := (HB.out.cell (p := ⟨b, o + j * 6 + 4, none⟩) hbl).trans p4
      have c5 := (HB.out.cell (p := ⟨b, o + j * 6 + 5, none⟩) hbl).trans p5
      clear p0 p1 p2 p3 p4 p5
      have hox : okR x.r := by rw [hx]; exact HO.out.mem (List.getElem_mem hj)
      have HY := Lib.hid (fun h : low < x.r.last => (forget_yes hj (by rw [← hx]; exact h)).trans (by rw [← hx]))
      have HNo := Lib.hid (fun h : ¬ low < x.r.last => forget_no hj (by rw [← hx]; exact h))
      have HOkx := Lib.hid hokx
      have HOx := Lib.hid hox
      clear hx hokx hox
      have hla := HOkx.out.last
      obtain ⟨⟨xf, xl, xb, xo, xr, xw⟩, xA, xc, xB, xd⟩ := x
      simp only at c0 c1 c2 c3 c4 c5 HY HNo HOkx HOx hla
      obtain ⟨wt, hwt⟩ : ∃ y, wo.alloc (.cells #[.int .u64 xf, .int .u64 xl, .int .u64 xb, .int .u64 xo, .slice xA xr.length xc, .slice xB xw.length xd] 29) = y := ⟨_, rfl⟩
      have hbt : Below wo.heap.size wo wt := by rw [← hwt]; exact (Below.refl _ wo).alloc (Nat.le_refl _) _
      have hxt : wt.heap[wo.heap.size]? = some (.cells #[.int .u64 xf, .int .u64 xl, .int .u64 xb, .int .u64 xo, .slice xA xr.length xc, .slice xB xw.length xd] 29 (0, 0)) := by rw [← hwt]; exact heap_alloc_new wo _
      have HWt := Lib.hid hwt
      have HBt := Lib.hid hbt
      have HXt := Lib.hid hxt
      clear hwt hbt hxt
      go_upto_region 5 with fail
      rw [HWt.out]
      clear HWt c0 c1 c2 c3 c4 c5
      obtain ⟨z0, z1, z2, z3, z4, z5⟩ := six_of HXt.out
      by_cases hq : low < xl
      · have d1 : decide ((low : Int) < (xl : Int)) = true := by rw [decide_eq_true_iff]; omega
        have d2 : decide (low < xl) = true := by rw [decide_eq_true_iff]; omega
        have HF := Lib.hid (HY.out hq)
        clear hq HY HNo
        have hbz : Below wo.heap.size wo (wt.alloc (.cells #[.int .u64 xf, .int .u64 xl, .int .u64 xb, .int .u64 xo, .slice xA xr.length xc, .slice xB xw.length xd] 29)) := HBt.out.alloc HBt.out.size _
        have HB3 := Lib.hid hbz
        have HO3 := Lib.hid (HOw.out.below hbz)
        clear hbz
        go_wp2_with (at_builtin; refine append_one6 _ rfl _ _ rfl w.heap.size v ms rfl HO3.out ⟨⟨xf, xl, xb, xo, xr, xw⟩, xA, xc, xB, xd⟩ wt.heap.size rfl (heap_alloc_new wt _) (by omega) (by have := HB.out.size; have := HB3.out.size; omega) ?_; intro v9 w9 ho9 hg9 _; have HO9 := Lib.hid ho9; have HB9 := Lib.hid ((HB.out.trans (HB3.out.mono HB.out.size)).grown hg9 (Nat.le_trans HB.out.size HB3.out.size) (fun k hk => (HOw.out.lt k hk).1)); clear ho9 hg9)
        go_roundg (gk - 1)
        case measure => have := HK.out; omega
        case rel =>
          refine ⟨j + 1, _, v9, by have := HK.out; omega, by go_num, rfl, HO9.out, ?_, ?_, HB9.out⟩
          · rw [List.map_append, HM.out, HF.out, List.map_cons, List.map_nil]
          · intro u hu
            rcases List.mem_append.1 hu with hu | hu
            · exact HOk.out u hu
            · rw [List.mem_singleton] at hu
              subst hu
              exact HOkx.out
      · have d1 : decide ((low : Int) < (xl : Int)) = false := by rw [decide_eq_false_iff_not]; omega
        have d2 : decide (low < xl) = false := by rw [decide_eq_false_iff_not]; omega
        have HF := Lib.hid (HNo.out hq)
        clear hq HY HNo
        go_wp2_with fail
        go_roundg (gk - 1)
        case measure => have := HK.out; omega
        case rel => exact ⟨j + 1, ms, v, by have := HK.out; omega, by go_num, rfl, HOw.out.below HBt.out, by rw [HF.out]; exact HM.out, fun u hu => HOk.out u hu, HB.out.trans (HBt.out.mono HB.out.size)⟩
    · have hj' : j = l.length := by have := HK.out; omega
      have hlt : decide ((j : Int) < (l.length : Int)) = false := by simpa using hj
      have HFin := Lib.hid (show ms.map MR.r = forgetR l low from by have h := HM.out; rwa [hj', List.take_length] at h)
      clear hj'
      go_wp2_with fail
      go_ret
      obtain ⟨A', c', rfl, k1, k2, k3, k4⟩ := HOw.out.form
      have e : ms.length = (forgetR l low).length := by rw [← HFin.out, List.length_map]
      exact ⟨A', c', by rw [← e]; rfl, ⟨by rw [← e]; exact k1, k2, k3, ms, HFin.out, k4.wide (Nat.zero_le _) (Nat.le_refl _), fun u hu => (HOk.out u hu).below HB.out (Nat.le_refl _) HB.out.size⟩, HB.out⟩
end Go.Proofs.Ytjkmodfbbiojmaa

/-
  Records, package ssi as it landed: Forget.
-/
namespace Go.Proofs.Ytjkmodfbbiojmaa
open Go.RowKit

set_option maxRecDepth 100000 in
set_option maxHeartbeats 8000000 in
theorem dForgetM_any (l : List RecS) (A : Option Addr) (c low : Nat) (w : World) (hl : okRs l) (hlow : low < 18446744073709551616) (h : ChR w w.heap.size A c l) :
    Calls Try.prog 14 #[.slice A l.length c, .int .u64 low] w (RetRec (forgetR l low) w) := by
  have HR := Lib.hid h
  have HO := Lib.hid hl
  have hll := h.len
  clear h hl
  go_enter Try.func14, Try.ntmps14
  go_wp2
  go_loopg [5, 10] l.length (fun q v i wr => ∃ (j : Nat) (ms : List MR) (v' : Value), j + q = l.length ∧ i = .int .i64 j ∧ v' = v ∧ OwnG 29 6 mrCells wr w.heap.size v' ms ∧ ms.map MR.r = forgetR (l.take j) low ∧ (∀ x ∈ ms, ApMR wr v x) ∧ Below w.heap.size w wr)
  case atStart => exact ⟨0, [], _, by omega, rfl, rfl, OwnG.none_ _ _ _ _ _, rfl, by simp, Below.refl _ _⟩
  case round =>
    obtain ⟨j, ms, v, hk, rfl, rfl, ho, hm, hok, hb⟩ := hrel
    obtain ⟨wo, hwo⟩ : ∃ y, y = wr := ⟨_, rfl⟩
    subst hwo
    have HK := Lib.hid hk
    have HOw := Lib.hid ho
    have HM := Lib.hid hm
    have HOk := Lib.hid hok
    have HB := Lib.hid hb
    have hml : ms.length ≤ 1000 := by
      have := forget_take_len l low j
      have := HO.out.1
      have e := congrArg List.length hm
      rw [List.length_map] at e
      omega
    clear hk ho hm hok hb
    by_cases hj : j < l.length
    · have hlt : decide ((j : Int) < (l.length : Int)) = true := by simpa using hj
      have hlt3 : decide (j < l.length) = true := by simpa using hj
      obtain ⟨b, o, rfl, hbl, x, hx, hokx, p0, p1, p2, p3, p4, p5⟩ := HR.out.2.2.2.at_ hj
      have c0 := (HB.out.cell (p := ⟨b, o + j * 6, none⟩) hbl).trans p0
      have c1 := (HB.out.cell (p := ⟨b, o + j * 6 + 1, none⟩) hbl).trans p1
      have c2 := (HB.out.cell (p := ⟨b, o + j * 6 + 2, none⟩) hbl).trans p2
      have c3 := (HB.out.cell (p := ⟨b, o + j * 6 + 3, none⟩) hbl).trans p3
      have c4 := (HB.out.cell (p := ⟨b, o + j * 6 + 4, none⟩) hbl).trans p4
      have c5 := (HB.out.cell (p := ⟨b, o + j * 6 + 5, none⟩) hbl).trans p5
      clear p0 p1 p2 p3 p4 p5
      have hox : okR x.r := by rw [hx]; exact HO.out.mem (List.getElem_mem hj)
      have HY := Lib.hid (fun h : low < x.r.last => (forget_yes hj (by rw [← hx]; exact h)).trans (by rw [← hx]))
      have HNo := Lib.hid (fun h : ¬ low < x.r.last => forget_no hj (by rw [← hx]; exact h))
      have HOkx := Lib.hid hokx
      have HOx := Lib.hid hox
      clear hx hokx hox
      have hla := HOkx.out.last
      obtain ⟨⟨xf, xl, xb, xo, xr, xw⟩, xA, xc, xB, xd⟩ := x
      simp only at c0 c1 c2 c3 c4 c5 HY HNo HOkx HOx hla
      obtain ⟨wt, hwt⟩ : ∃ y, wo.alloc (.cells #[.int .u64 xf, .int .u64 xl, .int .u64 xb, .int .u64 xo, .slice xA xr.length xc, .slice xB xw.length xd] 29) = y := ⟨_, rfl⟩
      have hbt : Below wo.heap.size wo wt := by rw [← hwt]; exact (Below.refl _ wo).alloc (Nat.le_refl _) _
      have hxt : wt.heap[wo.heap.size]? = some (.cells #[.int .u64 xf, .int .u64 xl, .int .u64 xb, .int .u64 xo, .slice xA xr.length xc, .slice xB xw.length xd] 29 (0, 0)) := by rw [← hwt]; exact heap_alloc_new wo _
      have HWt := Lib.hid hwt
      have HBt := Lib.hid hbt
      have HXt := Lib.hid hxt
      clear hwt hbt hxt
      go_upto_region 5 with fail
      rw [HWt.out]
      clear HWt c0 c1 c2 c3 c4 c5
      obtain ⟨z0, z1, z2, z3, z4, z5⟩ := six_of HXt.out
      by_cases hq : low < xl
      · have d1 : decide ((low : Int) < (xl : Int)) = true := by rw [decide_eq_true_iff]; omega
        have d2 : decide (low < xl) = true := by rw [decide_eq_true_iff]; omega
        have HF := Lib.hid (HY.out hq)
        clear hq HY HNo
        have hown := dOwnM_any ⟨⟨xf, xl, xb, xo, xr, xw⟩, xA, xc, xB, xd⟩ wt HOx.out (HOkx.out.below (HB.out.trans (HBt.out.mono HB.out.size)) (Nat.le_refl _) (Nat.le_trans HB.out.size HBt.out.size))
        unfold recVal at hown
        simp only at hown
        have HOwn := Lib.hid hown
        clear hown
        go_wp2_with fail
        refine HOwn.out.mono ?_
        rintro r w2 ⟨y, hy, rfl, hf2, hb2⟩
        clear z0 z1 z2 z3 z4 z5 HOwn
        have HB2 := Lib.hid (HBt.out.trans (hb2.mono HBt.out.size))
        have HF2 := Lib.hid hf2
        have HYr := Lib.hid hy
        have HW2 := Lib.hid (show wo.heap.size ≤ wt.heap.size from HBt.out.size)
        clear hf2 hb2 hy
        unfold recVal
        have hbz : Below wo.heap.size wo (w2.alloc (.cells #[.int .u64 y.r.first, .int .u64 y.r.last, .int .u64 y.r.began, .int .u64 y.r.out, .slice y.A y.r.reads.length y.c, .slice y.B y.r.writes.length y.d] 29)) := HB2.out.alloc HB2.out.size _
        have HB3 := Lib.hid hbz
        have HO3 := Lib.hid (HOw.out.below hbz)
        clear hbz
        go_wp2_with (at_builtin; refine append_one6 _ rfl _ _ rfl w.heap.size v ms rfl HO3.out y w2.heap.size rfl (heap_alloc_new w2 _) (by omega) (by have := HB.out.size; have := HB3.out.size; omega) ?_; intro v9 w9 ho9 hg9 hv9; have HO9 := Lib.hid ho9; have HG9 := Lib.hid hg9; have HV9 := Lib.hid hv9; clear ho9 hg9 hv9)
        go_roundg (gk - 1)
        case measure => have := HK.out; omega
        case rel =>
          have hvl : ∀ g, v.ownBlock = some g → g < wo.heap.size ∧ w.heap.size ≤ g := fun g hg => ⟨(HOw.out.lt g hg).2, (HOw.out.lt g hg).1⟩
          refine ⟨j + 1, ms ++ [y], v9, by have := HK.out; omega, by go_num, rfl, HO9.out, ?_, ?_, ?_⟩
          · rw [List.map_append, HM.out, HF.out, List.map_cons, List.map_nil, HYr.out]
          · intro u hu
            rcases List.mem_append.1 hu with hu | hu
            · exact ((HOk.out u hu).below HB3.out).grown HG9.out HV9.out
            · rw [List.mem_singleton] at hu
              subst hu
              have hap : ApMR w2 v u := HF2.out.apart (fun g hg => by have := (hvl g hg).1; have := HW2.out; omega)
              exact (hap.below ((Below.refl _ w2).alloc (Nat.le_refl _) _)).grown HG9.out HV9.out
          · exact (HB.out.trans (HB3.out.mono HB.out.size)).grown HG9.out (Nat.le_trans HB.out.size HB3.out.size) (fun k hk => (hvl k hk).2)
      · have d1 : decide ((low : Int) < (xl : Int)) = false := by rw [decide_eq_false_iff_not]; omega
        have d2 : decide (low < xl) = false := by rw [decide_eq_false_iff_not]; omega
        have HF := Lib.hid (HNo.out hq)
        clear hq HY HNo
        go_wp2_with fail
        go_roundg (gk - 1)
        case measure => have := HK.out; omega
        case rel => exact ⟨j + 1, ms, v, by have := HK.out; omega, by go_num, rfl, HOw.out.below HBt.out, by rw [HF.out]; exact HM.out, fun u hu => (HOk.out u hu).below HBt.out, HB.out.trans (HBt.out.mono HB.out.size)⟩
    · have hj' : j = l.length := by have := HK.out; omega
      have hlt : decide ((j : Int) < (l.length : Int)) = false := by simpa using hj
      have HFin := Lib.hid (show ms.map MR.r = forgetR l low from by have h := HM.out; rwa [hj', List.take_length] at h)
      clear hj'
      go_wp2_with fail
      go_ret
      obtain ⟨A', c', rfl, k1, k2, k3, k4⟩ := HOw.out.form
      have e : ms.length = (forgetR l low).length := by rw [← HFin.out, List.length_map]
      exact ⟨A', c', by rw [← e]; rfl, ⟨by rw [← e]; exact k1, k2, k3, ms, HFin.out, k4.wide (Nat.zero_le _) (Nat.le_refl _), fun u hu => (HOk.out u hu).ok⟩, HB.out⟩
end Go.Proofs.Ytjkmodfbbiojmaa

/-
  Records made fewer, in plain words: the first ones joined one by one.
-/
namespace Go.Proofs.Ytjkmodfbbiojmaa

theorem fitR_fold {J : List Sp → List Sp → List Sp} {n : Nat} : ∀ (k : Nat) (a : RecS) (rest : List RecS), k ≤ rest.length → rest.length + 1 = max n 1 + k → fitR J n (a :: rest) = (rest.take k).foldl (joinR J) a :: rest.drop k
  | 0, a, rest, _, h => by rw [fitR_few (by simp; omega)]; rfl
  | k + 1, a, [], h, _ => by simp at h
  | k + 1, a, b :: rest, h, h2 => by
    rw [fitR_step (by simp at h2; omega), fitR_fold k _ rest (by simpa using h) (by simp at h2; omega)]
    rfl
theorem fold_many (n : Int) : ∀ (l : List RecS) (a : RecS), (l.foldl (joinR (jI n)) a).reads.length + (l.foldl (joinR (jI n)) a).writes.length ≤ manyR (a :: l)
  | [], a => by simp [manyR]
  | b :: l, a => by
    have h1 := fold_many n l (joinR (jI n) a b)
    have h2 := many_join (jI_len n) a b l
    exact Nat.le_trans h1 h2
theorem many_cons (a : RecS) (l : List RecS) : manyR (a :: l) = a.reads.length + a.writes.length + manyR l := by simp [manyR]
theorem many_append (l m : List RecS) : manyR (l ++ m) = manyR l + manyR m := by simp [manyR]
theorem many_take (l : List RecS) (j : Nat) : manyR (l.take j) ≤ manyR l := by
  have h := many_append (l.take j) (l.drop j)
  rw [List.take_append_drop] at h
  omega
/-- What is joined so far, with one more, is no more than all. -/
theorem fold_next (n : Int) {a : RecS} {rest : List RecS} {j : Nat} (hj : j < rest.length) : ((rest.take j).foldl (joinR (jI n)) a).reads.length + (rest[j]'hj).reads.length + (((rest.take j).foldl (joinR (jI n)) a).writes.length + (rest[j]'hj).writes.length) ≤ manyR (a :: rest) := by
  have h1 := fold_many n (rest.take j) a
  have h2 := many_take rest (j + 1)
  rw [List.take_succ_eq_append_getElem hj, many_append] at h2
  have h3 : manyR [rest[j]'hj] = (rest[j]'hj).reads.length + (rest[j]'hj).writes.length := by simp [manyR]
  rw [many_cons] at h1 ⊢
  omega
theorem fold_take {J : List Sp → List Sp → List Sp} {a : RecS} {rest : List RecS} {j : Nat} (hj : j < rest.length) : (rest.take (j + 1)).foldl (joinR J) a = joinR J ((rest.take j).foldl (joinR J) a) (rest[j]'hj) := by
  rw [List.take_succ_eq_append_getElem hj, List.foldl_append]
  rfl
theorem fitN_nat (n : Int) : max n.toNat 1 = fitN n := by unfold fitN; omega
end Go.Proofs.Ytjkmodfbbiojmaa
