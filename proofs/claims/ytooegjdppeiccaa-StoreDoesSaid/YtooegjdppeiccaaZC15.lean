import Derived.Test.YtooegjdppeiccaaZC14
import Derived.Deep.DeepCutAuto
import Derived.Test.YtooegjdppeiccaaZC11
import Derived.Deep.RegionHeld3
/-
  Chains, the document's own answers: Find, Get, Last.
-/
namespace Go.Proofs.Ytooegjdppeiccaa
open Go.RowKit

/-- What Find tells beside whether there is one. -/
def optH (o : Option Ver) : Ver := o.getD Ver0
def RetFind (o : Option Ver) (w : World) (r : Ending) (w' : World) : Prop :=
  ∃ A c, r = .returned (.tuple #[verVal (optH o) A c, .bool o.isSome]) ∧ Sl w' w'.heap.size A c (optH o).dat ∧ Below w.heap.size w w'
def RetFindL (hi : Nat) (o : Option Ver) (w : World) (r : Ending) (w' : World) : Prop :=
  ∃ A c, r = .returned (.tuple #[verVal (optH o) A c, .bool o.isSome]) ∧ Sl w' hi A c (optH o).dat ∧ Below w.heap.size w w'
theorem findH_take_yes {l : List Ver} {j t : Nat} (hj : j < l.length) (h : (l[j]'hj).tm ≤ t) : findH (l.take (j + 1)) t = some (l[j]'hj) := by
  unfold findH
  rw [List.take_succ_eq_append_getElem hj, List.filter_append]
  simp [List.filter, h]
theorem findH_take_no {l : List Ver} {j t : Nat} (hj : j < l.length) (h : ¬ (l[j]'hj).tm ≤ t) : findH (l.take (j + 1)) t = findH (l.take j) t := by
  unfold findH
  rw [List.take_succ_eq_append_getElem hj, List.filter_append]
  simp [List.filter, h]
theorem optH_tm {l : List Ver} (h : ∀ x ∈ l, x.tm < 18446744073709551616) (t : Nat) : (optH (findH l t)).tm < 18446744073709551616 := by
  cases hf : findH l t with
  | none => exact (by decide : (0 : Nat) < 18446744073709551616)
  | some v =>
    have hm := List.mem_of_getLast? hf
    rw [List.mem_filter] at hm
    exact h v hm.1

set_option maxRecDepth 100000 in
set_option maxHeartbeats 4000000 in
theorem refFind_hi (l : List Ver) (A : Option Addr) (c : Nat) (t hi : Nat) (w : World) (hl : l.length ≤ 9223372036854775807) (hr : RowH w hi A l) (hhi : hi ≤ w.heap.size) :
    Calls Try.prog 111 #[.slice A l.length c, .int .u64 t] w (RetFindL hi (findH l t) w) := by
  obtain ⟨w0, hw0⟩ : ∃ y, w.alloc (.cells #[.int .u64 0, .bool false, .slice none 0 0] 103) = y := ⟨_, rfl⟩
  obtain ⟨w1, hw1⟩ : ∃ y, w0.alloc (.cells #[.int .u64 0, .bool false, .slice none 0 0] 103) = y := ⟨_, rfl⟩
  have b0 : Below w.heap.size w w0 := by rw [← hw0]; exact (Below.refl _ w).alloc (Nat.le_refl _) _
  have s0 : w0.heap.size = w.heap.size + 1 := by rw [← hw0]; simp
  have b1 : Below w0.heap.size w0 w1 := by rw [← hw1]; exact (Below.refl _ w0).alloc (Nat.le_refl _) _
  have h0 : w1.heap[w.heap.size]? = some (.cells #[.int .u64 0, .bool false, .slice none 0 0] 103 (0, 0)) := by
    rw [← hw1]; exact heap_allocs (by rw [← hw0]; exact heap_alloc_new w _) _
  have h1 : w1.heap[w.heap.size + 1]? = some (.cells #[.int .u64 0, .bool false, .slice none 0 0] 103 (0, 0)) := by
    rw [← hw1, ← s0]; exact heap_alloc_new w0 _
  have HB1 := Lib.hid (b0.trans (b1.mono b0.size))
  have HR := Lib.hid hr
  have HH0 := Lib.hid h0
  have HH1 := Lib.hid h1
  have HW0 := Lib.hid hw0
  have HW1 := Lib.hid hw1
  have HTM := Lib.hid hr.tm
  clear hr hw0 hw1 b0 b1 s0 h0 h1
  go_enter Try.func111, Try.ntmps111
  go_upto_region 2 with fail
  rw [HW0.out, HW1.out]
  clear HW0 HW1
  go_wp2_with fail
  go_loopg [7, 12] l.length (fun q v i wr => ∃ (j : Nat) (A' : Option Addr) (c' : Nat), j + q = l.length ∧ v = .bool (findH (l.take j) t).isSome ∧ i = .int .i64 j ∧ Below w.heap.size w wr ∧
    wr.heap[w.heap.size]? = some (.cells #[.int .u64 0, .bool false, .slice none 0 0] 103 (0, 0)) ∧
    wr.heap[w.heap.size + 1]? = some (.cells #[.int .u64 (optH (findH (l.take j) t)).tm, .bool (optH (findH (l.take j) t)).gone, .slice A' (optH (findH (l.take j) t)).dat.length c'] 103 (0, 0)) ∧
    Sl wr hi A' c' (optH (findH (l.take j) t)).dat)
  case atStart => exact ⟨0, none, 0, by omega, rfl, rfl, HB1.out, HH0.out, HH1.out, Sl.none_ _ _⟩
  case round =>
    obtain ⟨j, A', c', hk, rfl, rfl, hb, hz, ho, hsl⟩ := hrel
    have HK := Lib.hid hk
    have HB := Lib.hid hb
    have HZ := Lib.hid hz
    have HO := Lib.hid ho
    have HSL := Lib.hid hsl
    clear hb hk hz ho hsl
    by_cases hj : j < l.length
    · have hlt : decide ((j : Int) < (l.length : Int)) = true := by simpa using hj
      have hlt2 : decide (j < l.length) = true := by simpa using hj
      obtain ⟨b, o, A2, c2', rfl, _, c0, c1, c2, hs, htm⟩ := (HR.out.below HB.out hhi (Nat.le_refl _)).at_ hj
      have HY := Lib.hid (fun h => findH_take_yes hj (t := t) h)
      have HN := Lib.hid (fun h => findH_take_no hj (t := t) h)
      have HS := Lib.hid hs
      clear hs htm
      generalize l[j] = x at *
      obtain ⟨tm, gone, dat⟩ := x
      simp only at c0 c1 c2 HY HN HS
      have hsz : w.heap.size ≤ wr.heap.size := HB.out.size
      have HLT := Lib.hid (lt_of_heap HO.out)
      generalize hcur : optH (findH (l.take j) t) = cur at *
      by_cases h1 : tm ≤ t
      · have d1 : decide ((tm : Int) ≤ (t : Int)) = true := by rw [decide_eq_true_iff]; omega
        have d2 : decide (tm ≤ t) = true := by rw [decide_eq_true_iff]; omega
        have HF := Lib.hid (HY.out h1)
        have hoa := heap_allocs HO.out (.cells #[.int .u64 tm, .bool gone, .slice A2 dat.length c2'] 103)
        have f0 := frozen_of hoa 0
        have f1 := frozen_of hoa 1
        have f2 := frozen_of hoa 2
        have k0 := cell_of_row _ _ 0 _ _ _ hoa
        have k1 := cell_of_row _ _ 1 _ _ _ hoa
        have k2 := cell_of_row _ _ 2 _ _ _ hoa
        have HBA := Lib.hid ((HB.out.alloc HB.out.size (.cells #[.int .u64 tm, .bool gone, .slice A2 dat.length c2'] 103)))
        have HB3 := Lib.hid (Below.box3 HBA.out (b := w.heap.size + 1) (by omega) (.int .u64 tm) (.bool gone) (.slice A2 dat.length c2'))
        have HO3 := Lib.hid (box3_set hoa (.int .u64 tm) (.bool gone) (.slice A2 dat.length c2'))
        have HZ3 := Lib.hid ((box3_other (g := w.heap.size) (b := w.heap.size + 1) (by omega) (.int .u64 tm) (.bool gone) (.slice A2 dat.length c2')).trans (heap_allocs HZ.out (.cells #[.int .u64 tm, .bool gone, .slice A2 dat.length c2'] 103)))
        have HS3 := Lib.hid (Below.box3 ((Below.refl w.heap.size wr).alloc (by omega) (.cells #[.int .u64 tm, .bool gone, .slice A2 dat.length c2'] 103)) (b := w.heap.size + 1) (by omega) (.int .u64 tm) (.bool gone) (.slice A2 dat.length c2'))
        clear hoa
        clear h1 HY HN hcur
        go_wp2
        go_roundg (gk - 1)
        case measure => have := HK.out; omega
        case rel => exact ⟨j + 1, A2, c2', by have := HK.out; omega, by rw [HF.out]; rfl, by go_num, HB3.out, HZ3.out, by rw [HF.out]; exact HO3.out, by
          rw [HF.out]
          exact HS.out.below HS3.out hhi (Nat.le_refl _)⟩
      · have d1 : decide ((tm : Int) ≤ (t : Int)) = false := by rw [decide_eq_false_iff_not]; omega
        have d2 : decide (tm ≤ t) = false := by rw [decide_eq_false_iff_not]; omega
        have HF := Lib.hid (HN.out h1)
        have HC := Lib.hid hcur
        clear h1 HY HN hcur
        go_wp2
        go_roundg (gk - 1)
        case measure => have := HK.out; omega
        case rel => exact ⟨j + 1, A', c', by have := HK.out; omega, by rw [HF.out], by go_num, HB.out.alloc HB.out.size _, heap_allocs HZ.out _, by rw [HF.out, HC.out]; exact heap_allocs HO.out _, by
          rw [HF.out, HC.out]
          exact HSL.out.below ((Below.refl w.heap.size wr).alloc (by omega) _) hhi (Nat.le_refl _)⟩
    · have hj' : j = l.length := by have := HK.out; omega
      have hlt : decide ((j : Int) < (l.length : Int)) = false := by simpa using hj
      subst hj'
      rw [List.take_length] at HO HSL
      simp only [List.take_length]
      have hsz : w.heap.size ≤ wr.heap.size := HB.out.size
      have HTF := Lib.hid (optH_tm HTM.out t)
      generalize hF : findH l t = F at *
      have HFF := Lib.hid hF
      have HSL2 := Lib.hid HSL.out
      generalize hcur : optH F = cur at *
      obtain ⟨tm, gone, dat⟩ := cur
      have HC := Lib.hid hcur
      simp only at HO HSL
      have f0 := frozen_of HZ.out 0
      have f1 := frozen_of HZ.out 1
      have f2 := frozen_of HZ.out 2
      have z0 := cell_of_row wr _ 0 _ _ _ HZ.out
      have z1 := cell_of_row wr _ 1 _ _ _ HZ.out
      have z2 := cell_of_row wr _ 2 _ _ _ HZ.out
      have k0 := cell_of_row wr _ 0 _ _ _ HO.out
      have k1 := cell_of_row wr _ 1 _ _ _ HO.out
      have k2 := cell_of_row wr _ 2 _ _ _ HO.out
      have HB3 := Lib.hid (Below.box3 HB.out (b := w.heap.size) (Nat.le_refl _) (.int .u64 tm) (.bool gone) (.slice A' dat.length c'))
      have hx := box3_set HZ.out (.int .u64 tm) (.bool gone) (.slice A' dat.length c')
      have HX := Lib.hid hx
      have HB4 := Lib.hid (Below.box3 (Below.refl w.heap.size wr) (b := w.heap.size) (Nat.le_refl _) (.int .u64 tm) (.bool gone) (.slice A' dat.length c'))
      have HS4 := Lib.hid (show w.heap.size ≤ (((wr.setCell ⟨w.heap.size, 0, none⟩ (.int .u64 tm)).setCell ⟨w.heap.size, 1, none⟩ (.bool gone)).setCell ⟨w.heap.size, 2, none⟩ (.slice A' dat.length c')).heap.size from HB3.out.size)
      clear hF hcur hx
      go_wp2
      have t0 := cell_of_row _ _ 0 _ _ _ HX.out
      have t1 := cell_of_row _ _ 1 _ _ _ HX.out
      have t2 := cell_of_row _ _ 2 _ _ _ HX.out
      refine bodyPost_ret (v := .tuple #[.agg #[.int .u64 tm, .bool gone, .slice A' dat.length c'], .bool F.isSome]) (by simp [results, Try.results111, go_sem, t0, t1, t2]) rfl ?_
      refine ⟨A', c', by rw [HC.out]; rfl, ?_, HB3.out⟩
      rw [HC.out]
      exact HSL.out.below HB4.out hhi (Nat.le_refl _)

theorem refFind_any (l : List Ver) (A : Option Addr) (c : Nat) (t : Nat) (w : World) (hl : l.length ≤ 9223372036854775807) (hr : RowH w w.heap.size A l) :
    Calls Try.prog 111 #[.slice A l.length c, .int .u64 t] w (RetFind (findH l t) w) :=
  (refFind_hi l A c t w.heap.size w hl hr (Nat.le_refl _)).mono fun _ _ ⟨A', c', e, h, hb⟩ => ⟨A', c', e, h.below (Below.refl _ _) (Nat.le_refl _) hb.size, hb⟩
def RetGet (o : Option (List UInt8)) (w : World) (r : Ending) (w' : World) : Prop :=
  ∃ A c, r = .returned (.tuple #[.slice A (o.getD []).length c, .bool o.isSome]) ∧ Sl w' w'.heap.size A c (o.getD []) ∧ Below w.heap.size w w'
theorem getOf_here {v : Ver} (h : v.gone = false) : getOf (some v) = some v.dat := if_neg (by simp [h])

set_option maxRecDepth 100000 in
set_option maxHeartbeats 4000000 in
theorem refGetH_any (l : List Ver) (A : Option Addr) (c : Nat) (t : Nat) (w : World) (hl : l.length ≤ 9223372036854775807) (hr : RowH w w.heap.size A l) :
    Calls Try.prog 96 #[.slice A l.length c, .int .u64 t] w (RetGet (getH l t) w) := by
  have HC := Lib.hid (refFind_any l A c t w hl hr)
  unfold getH
  clear hr
  generalize findH l t = F at *
  go_enter Try.func96, Try.ntmps96
  go_wp2_with fail
  refine HC.out.mono ?_
  rintro r w1 ⟨A', c', rfl, hsl, hb⟩
  have HB := Lib.hid hb
  have HS := Lib.hid hsl
  have HB2 := Lib.hid (hb.alloc hb.size (.cells #[.int .u64 (optH F).tm, .bool (optH F).gone, .slice A' (optH F).dat.length c'] 103))
  have HB3 := Lib.hid ((Below.refl w1.heap.size w1).alloc (Nat.le_refl _) (.cells #[.int .u64 (optH F).tm, .bool (optH F).gone, .slice A' (optH F).dat.length c'] 103))
  clear hb hsl HC
  cases F with
  | none =>
    have e0 : verVal (optH none) A' c' = .agg #[.int .u64 0, .bool false, .slice A' 0 c'] := rfl
    have e1 : (none : Option Ver).isSome = false := rfl
    rw [e0, e1]
    go_wp2
    refine bodyPost_ret (v := .tuple #[.slice none 0 0, .bool false]) (by simp [results, Try.results96, go_sem]) rfl ?_
    exact ⟨none, 0, rfl, Sl.none_ _ _, HB2.out⟩
  | some v =>
    obtain ⟨tm, gone, dat⟩ := v
    have e0 : verVal (optH (some ⟨tm, gone, dat⟩)) A' c' = .agg #[.int .u64 tm, .bool gone, .slice A' dat.length c'] := rfl
    have e1 : (some (⟨tm, gone, dat⟩ : Ver)).isSome = true := rfl
    rw [e0, e1]
    clear e0 e1
    cases gone
    · go_wp2
      refine bodyPost_ret (v := .tuple #[.slice A' dat.length c', .bool true]) (by simp [results, Try.results96, go_sem]) rfl ?_
      exact ⟨A', c', rfl, HS.out.below HB3.out (Nat.le_refl _) HB3.out.size, HB2.out⟩
    · go_wp2
      refine bodyPost_ret (v := .tuple #[.slice none 0 0, .bool false]) (by simp [results, Try.results96, go_sem]) rfl ?_
      exact ⟨none, 0, rfl, Sl.none_ _ _, HB2.out⟩

theorem find_all {l : List Ver} (h : ∀ x ∈ l, x.tm < 18446744073709551616) : findH l 18446744073709551615 = l.getLast? := by
  unfold findH
  congr 1
  rw [List.filter_eq_self]
  intro x hx
  have := h x hx
  rw [decide_eq_true_iff]
  omega
theorem last_find {l : List Ver} (h : ∀ x ∈ l, x.tm < 18446744073709551616) : (optH (findH l 18446744073709551615)).tm = lastH l := by
  rw [find_all h]
  unfold lastH optH
  cases l.getLast? <;> rfl
set_option maxRecDepth 100000 in
set_option maxHeartbeats 4000000 in
theorem refLast_any (l : List Ver) (A : Option Addr) (c : Nat) (w : World) (hl : l.length ≤ 9223372036854775807) (hr : RowH w w.heap.size A l) :
    Calls Try.prog 97 #[.slice A l.length c] w fun r w' => r = .returned (.int .u64 (lastH l : Nat)) ∧ Below w.heap.size w w' := by
  have HC := Lib.hid (refFind_any l A c 18446744073709551615 w hl hr)
  rw [← last_find hr.tm]
  clear hr
  generalize findH l 18446744073709551615 = F at *
  obtain ⟨⟨tm, gone, dat⟩, hv⟩ : ∃ v, optH F = v := ⟨_, rfl⟩
  have HV := Lib.hid hv
  rw [hv]
  clear hv
  go_enter Try.func97, Try.ntmps97
  go_wp2_with fail
  refine HC.out.mono ?_
  rintro r w1 ⟨A', c', rfl, hsl, hb⟩
  clear HC hsl
  rw [HV.out]
  have HB2 := Lib.hid (hb.alloc hb.size (.cells #[.int .u64 tm, .bool gone, .slice A' dat.length c'] 103))
  clear hb
  have e0 : verVal ⟨tm, gone, dat⟩ A' c' = .agg #[.int .u64 tm, .bool gone, .slice A' dat.length c'] := rfl
  rw [e0]
  clear e0
  go_wp2
  go_ret
  exact ⟨rfl, HB2.out⟩
end Go.Proofs.Ytooegjdppeiccaa

/-
  Chains, the document's own answers: SameOne, Same.
-/
namespace Go.Proofs.Ytooegjdppeiccaa
open Go.RowKit

set_option maxRecDepth 100000 in
set_option maxHeartbeats 4000000 in
theorem refSameOne_any (x y : Ver) (A B : Option Addr) (c d : Nat) (w : World) (hx : Sl w w.heap.size A c x.dat) (hy : Sl w w.heap.size B d y.dat) :
    Calls Try.prog 73 #[verVal x A c, verVal y B d] w fun r w' => r = .returned (.bool (decide (x = y))) ∧ Below w.heap.size w w' := by
  obtain ⟨t1, g1, d1⟩ := x
  obtain ⟨t2, g2, d2⟩ := y
  simp only at hx hy
  have hb : Below w.heap.size w ((w.alloc (.cells #[.int .u64 t1, .bool g1, .slice A d1.length c] 103)).alloc (.cells #[.int .u64 t2, .bool g2, .slice B d2.length d] 103)) := ((Below.refl _ w).alloc (Nat.le_refl _) _).alloc (by simp) _
  have HB := Lib.hid hb
  have HX := Lib.hid (hx.2.2.2.below hb (Nat.le_refl _))
  have HY := Lib.hid (hy.2.2.2.below hb (Nat.le_refl _))
  clear hx hy hb
  unfold verVal
  by_cases ht : t1 = t2
  · subst ht
    have e1 : ((t1 : Int) == (t1 : Int)) = true := beq_self_eq_true _
    by_cases hg : g1 = g2
    · subst hg
      have HF := Lib.hid (show decide ((⟨t1, g1, d1⟩ : Ver) = ⟨t1, g1, d2⟩) = (d1 == d2) by
        rw [Bool.eq_iff_iff, decide_eq_true_iff, beq_iff_eq]
        simp)
      rw [HF.out]
      clear HF
      cases g1 <;>
      · go_enter Try.func73, Try.ntmps73
        go_wp2_with (go_at_call 61; refine (equal_any A B c d d1.length d2.length _ _ _ _ d1 d2 _ rfl rfl HX.out HY.out).mono ?_; rintro r w' ⟨rfl, hw⟩; subst hw)
        go_ret
        exact ⟨rfl, HB.out⟩
    · have HF := Lib.hid (show decide ((⟨t1, g1, d1⟩ : Ver) = ⟨t1, g2, d2⟩) = false by
        rw [decide_eq_false_iff_not]
        simp [hg])
      rw [HF.out]
      clear HF
      cases g1 <;> cases g2
      · exact absurd rfl hg
      · clear hg
        go_enter Try.func73, Try.ntmps73
        go_wp2
        go_ret
        exact ⟨rfl, HB.out⟩
      · clear hg
        go_enter Try.func73, Try.ntmps73
        go_wp2
        go_ret
        exact ⟨rfl, HB.out⟩
      · exact absurd rfl hg
  · have e1 : ((t1 : Int) == (t2 : Int)) = false := by rw [beq_eq_false_iff_ne]; omega
    have e2 : ¬ ((t1 : Int) = (t2 : Int)) := by omega
    have HF := Lib.hid (show decide ((⟨t1, g1, d1⟩ : Ver) = ⟨t2, g2, d2⟩) = false by
      rw [decide_eq_false_iff_not]
      simp [ht])
    rw [HF.out]
    clear HF ht
    go_enter Try.func73, Try.ntmps73
    go_wp2
    go_ret
    exact ⟨rfl, HB.out⟩

set_option maxRecDepth 100000 in
set_option maxHeartbeats 4000000 in
theorem refSameH_any (l m : List Ver) (A B : Option Addr) (c d : Nat) (w : World) (hl : l.length ≤ 9223372036854775807) (hm : m.length ≤ 9223372036854775807) (hr : RowH w w.heap.size A l) (hrm : RowH w w.heap.size B m) :
    Calls Try.prog 26 #[.slice A l.length c, .slice B m.length d] w fun r w' => r = .returned (.bool (sameH l m)) ∧ Below w.heap.size w w' := by
  by_cases hlen : l.length = m.length
  · have HR := Lib.hid hr
    have HRM := Lib.hid hrm
    rw [hlen]
    have HLen := Lib.hid hlen
    clear hr hrm hlen hl
    go_enter Try.func26, Try.ntmps26
    go_wp2
    go_loopg [13] m.length (fun q i wr => ∃ j : Nat, j + q = m.length ∧ i = .int .i64 j ∧ l.take j = m.take j ∧ Below w.heap.size w wr)
    case atStart => exact ⟨0, by omega, rfl, rfl, Below.refl _ _⟩
    case round =>
      obtain ⟨j, hk, rfl, hall, hb⟩ := hrel
      have HK := Lib.hid hk
      have HA := Lib.hid hall
      have HB := Lib.hid hb
      clear hall hb hk
      by_cases hjm : j < m.length
      · have hlt : decide ((j : Int) < (m.length : Int)) = true := by simpa using hjm
        have hlt3 : decide (j < m.length) = true := by simpa using hjm
        have hj : j < l.length := by rw [HLen.out]; exact hjm
        have HC := Lib.hid (fun (w' : World) (h : Below wr.heap.size wr w') => (HR.out.below (HB.out.trans (h.mono HB.out.size)) (Nat.le_refl _) (Nat.le_refl _)).at_ hj)
        have HD := Lib.hid (fun (w' : World) (h : Below wr.heap.size wr w') => (HRM.out.below (HB.out.trans (h.mono HB.out.size)) (Nat.le_refl _) (Nat.le_refl _)).at_ hjm)
        obtain ⟨b, o, A', c', rfl, hbl, c0, c1, c2, hs, _⟩ := (HR.out.below HB.out (Nat.le_refl _) (Nat.le_refl _)).at_ hj
        obtain ⟨b', o', B', d', rfl, hbl2, e0, e1, e2, hs2, _⟩ := (HRM.out.below HB.out (Nat.le_refl _) (Nat.le_refl _)).at_ hjm
        have HT1 := Lib.hid (show l.take (j + 1) = l.take j ++ [l[j]] from by rw [List.take_succ_eq_append_getElem hj])
        have HT2 := Lib.hid (show m.take (j + 1) = m.take j ++ [m[j]] from by rw [List.take_succ_eq_append_getElem hjm])
        have HNe := Lib.hid (fun (h : l[j] ≠ m[j]) => (show sameH l m = false by
          unfold sameH
          rw [decide_eq_false_iff_not]
          intro e
          subst e
          exact h rfl))
        have hsz := HB.out.size
        have HSz := Lib.hid hsz
        have HS : Hid (Sl wr wr.heap.size A' c' l[j].dat) := Lib.hid (hs.below (Below.refl _ _) (Nat.le_refl _) hsz)
        have HS2 : Hid (Sl wr wr.heap.size B' d' m[j].dat) := Lib.hid (hs2.below (Below.refl _ _) (Nat.le_refl _) hsz)
        have HL1 := Lib.hid (Nat.lt_of_lt_of_le hbl hsz)
        have HL2 := Lib.hid (Nat.lt_of_lt_of_le hbl2 hsz)
        clear hs hs2 hbl hbl2 hsz HC HD
        generalize l[j] = x at *
        generalize m[j] = y at *
        obtain ⟨t1, g1, d1⟩ := x
        obtain ⟨t2, g2, d2⟩ := y
        simp only at c0 c1 c2 e0 e1 e2 HS HS2
        have KEEP : Hid (∀ w', Below wr.heap.size wr w' → w'.cell? ⟨b, o + j * 3, none⟩ = some (.int .u64 t1) ∧ w'.cell? ⟨b, o + j * 3 + 1, none⟩ = some (.bool g1) ∧ w'.cell? ⟨b, o + j * 3 + 2, none⟩ = some (.slice A' d1.length c') ∧ w'.cell? ⟨b', o' + j * 3, none⟩ = some (.int .u64 t2) ∧ w'.cell? ⟨b', o' + j * 3 + 1, none⟩ = some (.bool g2) ∧ w'.cell? ⟨b', o' + j * 3 + 2, none⟩ = some (.slice B' d2.length d') ∧ Below wr.heap.size wr w') := Lib.hid (fun w' h =>
          ⟨(h.cell (p := ⟨b, o + j * 3, none⟩) HL1.out).trans c0, (h.cell (p := ⟨b, o + j * 3 + 1, none⟩) HL1.out).trans c1, (h.cell (p := ⟨b, o + j * 3 + 2, none⟩) HL1.out).trans c2, (h.cell (p := ⟨b', o' + j * 3, none⟩) HL2.out).trans e0, (h.cell (p := ⟨b', o' + j * 3 + 1, none⟩) HL2.out).trans e1, (h.cell (p := ⟨b', o' + j * 3 + 2, none⟩) HL2.out).trans e2, h⟩)
        have HCall : Hid (∀ w', Below wr.heap.size wr w' → Calls Try.prog 73 #[.agg #[.int .u64 t1, .bool g1, .slice A' d1.length c'], .agg #[.int .u64 t2, .bool g2, .slice B' d2.length d']] w' fun r w'' => r = .returned (.bool (decide ((⟨t1, g1, d1⟩ : Ver) = ⟨t2, g2, d2⟩))) ∧ Below wr.heap.size wr w'') := Lib.hid (fun w' h =>
          (refSameOne_any ⟨t1, g1, d1⟩ ⟨t2, g2, d2⟩ A' B' c' d' w' (HS.out.below h (Nat.le_refl _) h.size) (HS2.out.below h (Nat.le_refl _) h.size)).mono fun _ _ q => ⟨q.1, h.trans (q.2.mono h.size)⟩)
        generalize hE : decide ((⟨t1, g1, d1⟩ : Ver) = ⟨t2, g2, d2⟩) = E at *
        have HE := Lib.hid hE
        clear hE
        cases E
        · have HF := Lib.hid (HNe.out (of_decide_eq_false HE.out))
          go_wp2
          go_region_held3 (fun w' => w'.cell? ⟨b, o + j * 3, none⟩ = some (.int .u64 t1) ∧ w'.cell? ⟨b, o + j * 3 + 1, none⟩ = some (.bool g1) ∧ w'.cell? ⟨b, o + j * 3 + 2, none⟩ = some (.slice A' d1.length c') ∧ w'.cell? ⟨b', o' + j * 3, none⟩ = some (.int .u64 t2) ∧ w'.cell? ⟨b', o' + j * 3 + 1, none⟩ = some (.bool g2) ∧ w'.cell? ⟨b', o' + j * 3 + 2, none⟩ = some (.slice B' d2.length d') ∧ Below wr.heap.size wr w')
            (first | with_reducible exact KEEP.out _ hb6 | with_reducible exact KEEP.out _ (Below.refl _ _).drew)
            ((go_at_call 73; refine (HCall.out _ (by go_split_ands; assumption)).mono ?_; rintro r w' ⟨rfl, hb6⟩))
          go_wp2_with fail
          go_ret
          rw [HF.out]
          exact ⟨rfl, HB.out.trans (hb6.mono HB.out.size)⟩
        · have HF := Lib.hid (of_decide_eq_true HE.out)
          go_wp2
          go_region_held3 (fun w' => w'.cell? ⟨b, o + j * 3, none⟩ = some (.int .u64 t1) ∧ w'.cell? ⟨b, o + j * 3 + 1, none⟩ = some (.bool g1) ∧ w'.cell? ⟨b, o + j * 3 + 2, none⟩ = some (.slice A' d1.length c') ∧ w'.cell? ⟨b', o' + j * 3, none⟩ = some (.int .u64 t2) ∧ w'.cell? ⟨b', o' + j * 3 + 1, none⟩ = some (.bool g2) ∧ w'.cell? ⟨b', o' + j * 3 + 2, none⟩ = some (.slice B' d2.length d') ∧ Below wr.heap.size wr w')
            (first | with_reducible exact KEEP.out _ hb6 | with_reducible exact KEEP.out _ (Below.refl _ _).drew)
            ((go_at_call 73; refine (HCall.out _ (by go_split_ands; assumption)).mono ?_; rintro r w' ⟨rfl, hb6⟩))
          go_wp2_with fail
          go_roundg (gk - 1)
          case measure => have := HK.out; omega
          case rel => exact ⟨j + 1, by have := HK.out; omega, by go_num, by rw [HT1.out, HT2.out, HA.out, HF.out], HB.out.trans (hb6.mono HB.out.size)⟩
      · have hj' : j = m.length := by have := HK.out; omega
        have hlt : decide ((j : Int) < (m.length : Int)) = false := by simpa using hjm
        have HF := Lib.hid (show sameH l m = true by
          have h := HA.out
          rw [hj', List.take_length, ← HLen.out, List.take_length] at h
          unfold sameH
          rw [decide_eq_true_iff]
          exact h)
        clear hj'
        go_wp2
        go_ret
        rw [HF.out]
        exact ⟨rfl, HB.out⟩
  · have hle : ((l.length : Int) == (m.length : Int)) = false := by rw [beq_eq_false_iff_ne]; omega
    have hle2 : ((l.length : Int) != (m.length : Int)) = true := by rw [bne, hle]; rfl
    have e : sameH l m = false := by unfold sameH; rw [decide_eq_false_iff_not]; intro e; exact hlen (by rw [e])
    rw [e]
    clear e hlen hr hrm
    go_enter Try.func26, Try.ntmps26
    go_wp2
    go_ret
    exact ⟨rfl, Below.refl _ _⟩
end Go.Proofs.Ytooegjdppeiccaa
