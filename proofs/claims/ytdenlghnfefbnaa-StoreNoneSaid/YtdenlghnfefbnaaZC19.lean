import Derived.Test.YtdenlghnfefbnaaZC18
import Derived.Deep.DeepCutAuto
/-
  Chains, the document's own answers: Find, Get, Last.
-/
namespace Go.Proofs.Ytdenlghnfefbnaa
open Go.RowKit

/-- What Find tells beside whether there is one. -/
def optH (o : Option Ver) : Ver := o.getD Ver0
def RetFind (o : Option Ver) (w : World) (r : Ending) (w' : World) : Prop :=
  ∃ A c, r = .returned (.tuple #[verVal (optH o) A c, .bool o.isSome]) ∧ Sl w' w'.heap.size A c (optH o).dat ∧ Below w.heap.size w w'
def RetFindL (hi : Nat) (o : Option Ver) (w : World) (r : Ending) (w' : World) : Prop :=
  ∃ A c, r = .returned (.tuple #[verVal (optH o) A c, .bool o.isSome]) ∧ Sl w' hi A c (optH o).dat ∧ Below w.heap.size w w'
theorem findH_take_yes {l : List Ver} {j t : Nat} (hj : j < l.length) (h : (l[j]'hj).tm ≤ t) : findH (l.take (j + 1)) t = some (l[j]'hj) := by
  unfold findH
  rw [List.take_succ_eq_append_getElem hj, List.filter_append]
  simp [List.filter, h]
theorem findH_take_no {l : List Ver} {j t : Nat} (hj : j < l.length) (h : ¬ (l[j]'hj).tm ≤ t) : findH (l.take (j + 1)) t = findH (l.take j) t := by
  unfold findH
  rw [List.take_succ_eq_append_getElem hj, List.filter_append]
  simp [List.filter, h]
theorem optH_tm {l : List Ver} (h : ∀ x ∈ l, x.tm < 18446744073709551616) (t : Nat) : (optH (findH l t)).tm < 18446744073709551616 := by
  cases hf : findH l t with
  | none => exact (by decide : (0 : Nat) < 18446744073709551616)
  | some v =>
    have hm := List.mem_of_getLast? hf
    rw [List.mem_filter] at hm
    exact h v hm.1

set_option maxRecDepth 100000 in
set_option maxHeartbeats 4000000 in
theorem refFind_hi (l : List Ver) (A : Option Addr) (c : Nat) (t hi : Nat) (w : World) (hl : l.length ≤ 9223372036854775807) (hr : RowH w hi A l) (hhi : hi ≤ w.heap.size) :
    Calls Try.prog 73 #[.slice A l.length c, .int .u64 t] w (RetFindL hi (findH l t) w) := by
  obtain ⟨w0, hw0⟩ : ∃ y, w.alloc (.cells #[.int .u64 0, .bool false, .slice none 0 0] 72) = y := ⟨_, rfl⟩
  obtain ⟨w1, hw1⟩ : ∃ y, w0.alloc (.cells #[.int .u64 0, .bool false, .slice none 0 0] 72) = y := ⟨_, rfl⟩
  have b0 : Below w.heap.size w w0 := by rw [← hw0]; exact (Below.refl _ w).alloc (Nat.le_refl _) _
  have s0 : w0.heap.size = w.heap.size + 1 := by rw [← hw0]; simp
  have b1 : Below w0.heap.size w0 w1 := by rw [← hw1]; exact (Below.refl _ w0).alloc (Nat.le_refl _) _
  have h0 : w1.heap[w.heap.size]? = some (.cells #[.int .u64 0, .bool false, .slice none 0 0] 72 (0, 0)) := by
    rw [← hw1]; exact heap_allocs (by rw [← hw0]; exact heap_alloc_new w _) _
  have h1 : w1.heap[w.heap.size + 1]? = some (.cells #[.int .u64 0, .bool false, .slice none 0 0] 72 (0, 0)) := by
    rw [← hw1, ← s0]; exact heap_alloc_new w0 _
  have HB1 := Lib.hid (b0.trans (b1.mono b0.size))
  have HR := Lib.hid hr
  have HH0 := Lib.hid h0
  have HH1 := Lib.hid h1
  have HW0 := Lib.hid hw0
  have HW1 := Lib.hid hw1
  have HTM := Lib.hid hr.tm
  clear hr hw0 hw1 b0 b1 s0 h0 h1
  go_enter Try.func73, Try.ntmps73
  go_upto_region 2 with fail
  rw [HW0.out, HW1.out]
  clear HW0 HW1
  go_wp2_with fail
  go_loopg [7, 12] l.length (fun q v i wr => ∃ (j : Nat) (A' : Option Addr) (c' : Nat), j + q = l.length ∧ v = .bool (findH (l.take j) t).isSome ∧ i = .int .i64 j ∧ Below w.heap.size w wr ∧
    wr.heap[w.heap.size]? = some (.cells #[.int .u64 0, .bool false, .slice none 0 0] 72 (0, 0)) ∧
    wr.heap[w.heap.size + 1]? = some (.cells #[.int .u64 (optH (findH (l.take j) t)).tm, .bool (optH (findH (l.take j) t)).gone, .slice A' (optH (findH (l.take j) t)).dat.length c'] 72 (0, 0)) ∧
    Sl wr hi A' c' (optH (findH (l.take j) t)).dat)
  case atStart => exact ⟨0, none, 0, by omega, rfl, rfl, HB1.out, HH0.out, HH1.out, Sl.none_ _ _⟩
  case round =>
    obtain ⟨j, A', c', hk, rfl, rfl, hb, hz, ho, hsl⟩ := hrel
    have HK := Lib.hid hk
    have HB := Lib.hid hb
    have HZ := Lib.hid hz
    have HO := Lib.hid ho
    have HSL := Lib.hid hsl
    clear hb hk hz ho hsl
    by_cases hj : j < l.length
    · have hlt : decide ((j : Int) < (l.length : Int)) = true := by simpa using hj
      have hlt2 : decide (j < l.length) = true := by simpa using hj
      obtain ⟨b, o, A2, c2', rfl, _, c0, c1, c2, hs, htm⟩ := (HR.out.below HB.out hhi (Nat.le_refl _)).at_ hj
      have HY := Lib.hid (fun h => findH_take_yes hj (t := t) h)
      have HN := Lib.hid (fun h => findH_take_no hj (t := t) h)
      have HS := Lib.hid hs
      clear hs htm
      generalize l[j] = x at *
      obtain ⟨tm, gone, dat⟩ := x
      simp only at c0 c1 c2 HY HN HS
      have hsz : w.heap.size ≤ wr.heap.size := HB.out.size
      have HLT := Lib.hid (lt_of_heap HO.out)
      generalize hcur : optH (findH (l.take j) t) = cur at *
      by_cases h1 : tm ≤ t
      · have d1 : decide ((tm : Int) ≤ (t : Int)) = true := by rw [decide_eq_true_iff]; omega
        have d2 : decide (tm ≤ t) = true := by rw [decide_eq_true_iff]; omega
        have HF := Lib.hid (HY.out h1)
        have hoa := heap_allocs HO.out (.cells #[.int .u64 tm, .bool gone, .slice A2 dat.length c2'] 72)
        have f0 := frozen_of hoa 0
        have f1 := frozen_of hoa 1
        have f2 := frozen_of hoa 2
        have k0 := cell_of_row _ _ 0 _ _ _ hoa
        have k1 := cell_of_row _ _ 1 _ _ _ hoa
        have k2 := cell_of_row _ _ 2 _ _ _ hoa
        have HBA := Lib.hid ((HB.out.alloc HB.out.size (.cells #[.int .u64 tm, .bool gone, .slice A2 dat.length c2'] 72)))
        have HB3 := Lib.hid (Below.box3 HBA.out (b := w.heap.size + 1) (by omega) (.int .u64 tm) (.bool gone) (.slice A2 dat.length c2'))
        have HO3 := Lib.hid (box3_set hoa (.int .u64 tm) (.bool gone) (.slice A2 dat.length c2'))
        have HZ3 := Lib.hid ((box3_other (g := w.heap.size) (b := w.heap.size + 1) (by omega) (.int .u64 tm) (.bool gone) (.slice A2 dat.length c2')).trans (heap_allocs HZ.out (.cells #[.int .u64 tm, .bool gone, .slice A2 dat.length c2'] 72)))
        have HS3 := Lib.hid (Below.box3 ((Below.refl w.heap.size wr).alloc (by omega) (.cells #[.int .u64 tm, .bool gone, .slice A2 dat.length c2'] 72)) (b := w.heap.size + 1) (by omega) (.int .u64 tm) (.bool gone) (.slice A2 dat.length c2'))
        clear hoa
        clear h1 HY HN hcur
        go_wp2
        go_roundg (gk - 1)
        case measure => have := HK.out; omega
        case rel => exact ⟨j + 1, A2, c2', by have := HK.out; omega, by rw [HF.out]; rfl, by go_num, HB3.out, HZ3.out, by rw [HF.out]; exact HO3.out, by
          rw [HF.out]
          exact HS.out.below HS3.out hhi (Nat.le_refl _)⟩
      · have d1 : decide ((tm : Int) ≤ (t : Int)) = false := by rw [decide_eq_false_iff_not]; omega
        have d2 : decide (tm ≤ t) = false := by rw [decide_eq_false_iff_not]; omega
        have HF := Lib.hid (HN.out h1)
        have HC := Lib.hid hcur
        clear h1 HY HN hcur
        go_wp2
        go_roundg (gk - 1)
        case measure => have := HK.out; omega
        case rel => exact ⟨j + 1, A', c', by have := HK.out; omega, by rw [HF.out], by go_num, HB.out.alloc HB.out.size _, heap_allocs HZ.out _, by rw [HF.out, HC.out]; exact heap_allocs HO.out _, by
          rw [HF.out, HC.out]
          exact HSL.out.below ((Below.refl w.heap.size wr).alloc (by omega) _) hhi (Nat.le_refl _)⟩
    · have hj' : j = l.length := by have := HK.out; omega
      have hlt : decide ((j : Int) < (l.length : Int)) = false := by simpa using hj
      subst hj'
      rw [List.take_length] at HO HSL
      simp only [List.take_length]
      have hsz : w.heap.size ≤ wr.heap.size := HB.out.size
      have HTF := Lib.hid (optH_tm HTM.out t)
      generalize hF : findH l t = F at *
      have HFF := Lib.hid hF
      have HSL2 := Lib.hid HSL.out
      generalize hcur : optH F = cur at *
      obtain ⟨tm, gone, dat⟩ := cur
      have HC := Lib.hid hcur
      simp only at HO HSL
      have f0 := frozen_of HZ.out 0
      have f1 := frozen_of HZ.out 1
      have f2 := frozen_of HZ.out 2
      have z0 := cell_of_row wr _ 0 _ _ _ HZ.out
      have z1 := cell_of_row wr _ 1 _ _ _ HZ.out
      have z2 := cell_of_row wr _ 2 _ _ _ HZ.out
      have k0 := cell_of_row wr _ 0 _ _ _ HO.out
      have k1 := cell_of_row wr _ 1 _ _ _ HO.out
      have k2 := cell_of_row wr _ 2 _ _ _ HO.out
      have HB3 := Lib.hid (Below.box3 HB.out (b := w.heap.size) (Nat.le_refl _) (.int .u64 tm) (.bool gone) (.slice A' dat.length c'))
      have hx := box3_set HZ.out (.int .u64 tm) (.bool gone) (.slice A' dat.length c')
      have HX := Lib.hid hx
      have HB4 := Lib.hid (Below.box3 (Below.refl w.heap.size wr) (b := w.heap.size) (Nat.le_refl _) (.int .u64 tm) (.bool gone) (.slice A' dat.length c'))
      have HS4 := Lib.hid (show w.heap.size ≤ (((wr.setCell ⟨w.heap.size, 0, none⟩ (.int .u64 tm)).setCell ⟨w.heap.size, 1, none⟩ (.bool gone)).setCell ⟨w.heap.size, 2, none⟩ (.slice A' dat.length c')).heap.size from HB3.out.size)
      clear hF hcur hx
      go_wp2
      have t0 := cell_of_row _ _ 0 _ _ _ HX.out
      have t1 := cell_of_row _ _ 1 _ _ _ HX.out
      have t2 := cell_of_row _ _ 2 _ _ _ HX.out
      refine bodyPost_ret (v := .tuple #[.agg #[.int .u64 tm, .bool gone, .slice A' dat.length c'], .bool F.isSome]) (by simp [results, Try.results73, go_sem, t0, t1, t2]) rfl ?_
      refine ⟨A', c', by rw [HC.out]; rfl, ?_, HB3.out⟩
      rw [HC.out]
      exact HSL.out.below HB4.out hhi (Nat.le_refl _)

theorem refFind_any (l : List Ver) (A : Option Addr) (c : Nat) (t : Nat) (w : World) (hl : l.length ≤ 9223372036854775807) (hr : RowH w w.heap.size A l) :
    Calls Try.prog 73 #[.slice A l.length c, .int .u64 t] w (RetFind (findH l t) w) :=
  (refFind_hi l A c t w.heap.size w hl hr (Nat.le_refl _)).mono fun _ _ ⟨A', c', e, h, hb⟩ => ⟨A', c', e, h.below (Below.refl _ _) (Nat.le_refl _) hb.size, hb⟩
def RetGet (o : Option (List UInt8)) (w : World) (r : Ending) (w' : World) : Prop :=
  ∃ A c, r = .returned (.tuple #[.slice A (o.getD []).length c, .bool o.isSome]) ∧ Sl w' w'.heap.size A c (o.getD []) ∧ Below w.heap.size w w'
theorem getOf_here {v : Ver} (h : v.gone = false) : getOf (some v) = some v.dat := if_neg (by simp [h])

set_option maxRecDepth 100000 in
set_option maxHeartbeats 4000000 in
theorem refGetH_any (l : List Ver) (A : Option Addr) (c : Nat) (t : Nat) (w : World) (hl : l.length ≤ 9223372036854775807) (hr : RowH w w.heap.size A l) :
    Calls Try.prog 63 #[.slice A l.length c, .int .u64 t] w (RetGet (getH l t) w) := by
  have HC := Lib.hid (refFind_any l A c t w hl hr)
  unfold getH
  clear hr
  generalize findH l t = F at *
  go_enter Try.func63, Try.ntmps63
  go_wp2_with fail
  refine HC.out.mono ?_
  rintro r w1 ⟨A', c', rfl, hsl, hb⟩
  have HB := Lib.hid hb
  have HS := Lib.hid hsl
  have HB2 := Lib.hid (hb.alloc hb.size (.cells #[.int .u64 (optH F).tm, .bool (optH F).gone, .slice A' (optH F).dat.length c'] 72))
  have HB3 := Lib.hid ((Below.refl w1.heap.size w1).alloc (Nat.le_refl _) (.cells #[.int .u64 (optH F).tm, .bool (optH F).gone, .slice A' (optH F).dat.length c'] 72))
  clear hb hsl HC
  cases F with
  | none =>
    have e0 : verVal (optH none) A' c' = .agg #[.int .u64 0, .bool false, .slice A' 0 c'] := rfl
    have e1 : (none : Option Ver).isSome = false := rfl
    rw [e0, e1]
    go_wp2
    refine bodyPost_ret (v := .tuple #[.slice none 0 0, .bool false]) (by simp [results, Try.results63, go_sem]) rfl ?_
    exact ⟨none, 0, rfl, Sl.none_ _ _, HB2.out⟩
  | some v =>
    obtain ⟨tm, gone, dat⟩ := v
    have e0 : verVal (optH (some ⟨tm, gone, dat⟩)) A' c' = .agg #[.int .u64 tm, .bool gone, .slice A' dat.length c'] := rfl
    have e1 : (some (⟨tm, gone, dat⟩ : Ver)).isSome = true := rfl
    rw [e0, e1]
    clear e0 e1
    cases gone
    · go_wp2
      refine bodyPost_ret (v := .tuple #[.slice A' dat.length c', .bool true]) (by simp [results, Try.results63, go_sem]) rfl ?_
      exact ⟨A', c', rfl, HS.out.below HB3.out (Nat.le_refl _) HB3.out.size, HB2.out⟩
    · go_wp2
      refine bodyPost_ret (v := .tuple #[.slice none 0 0, .bool false]) (by simp [results, Try.results63, go_sem]) rfl ?_
      exact ⟨none, 0, rfl, Sl.none_ _ _, HB2.out⟩

theorem find_all {l : List Ver} (h : ∀ x ∈ l, x.tm < 18446744073709551616) : findH l 18446744073709551615 = l.getLast? := by
  unfold findH
  congr 1
  rw [List.filter_eq_self]
  intro x hx
  have := h x hx
  rw [decide_eq_true_iff]
  omega
theorem last_find {l : List Ver} (h : ∀ x ∈ l, x.tm < 18446744073709551616) : (optH (findH l 18446744073709551615)).tm = lastH l := by
  rw [find_all h]
  unfold lastH optH
  cases l.getLast? <;> rfl
set_option maxRecDepth 100000 in
set_option maxHeartbeats 4000000 in
theorem refLast_any (l : List Ver) (A : Option Addr) (c : Nat) (w : World) (hl : l.length ≤ 9223372036854775807) (hr : RowH w w.heap.size A l) :
    Calls Try.prog 64 #[.slice A l.length c] w fun r w' => r = .returned (.int .u64 (lastH l : Nat)) ∧ Below w.heap.size w w' := by
  have HC := Lib.hid (refFind_any l A c 18446744073709551615 w hl hr)
  rw [← last_find hr.tm]
  clear hr
  generalize findH l 18446744073709551615 = F at *
  obtain ⟨⟨tm, gone, dat⟩, hv⟩ : ∃ v, optH F = v := ⟨_, rfl⟩
  have HV := Lib.hid hv
  rw [hv]
  clear hv
  go_enter Try.func64, Try.ntmps64
  go_wp2_with fail
  refine HC.out.mono ?_
  rintro r w1 ⟨A', c', rfl, hsl, hb⟩
  clear HC hsl
  rw [HV.out]
  have HB2 := Lib.hid (hb.alloc hb.size (.cells #[.int .u64 tm, .bool gone, .slice A' dat.length c'] 72))
  clear hb
  have e0 : verVal ⟨tm, gone, dat⟩ A' c' = .agg #[.int .u64 tm, .bool gone, .slice A' dat.length c'] := rfl
  rw [e0]
  clear e0
  go_wp2
  go_ret
  exact ⟨rfl, HB2.out⟩
end Go.Proofs.Ytdenlghnfefbnaa
