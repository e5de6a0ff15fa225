import Derived.Test.YtooegjdppeiccaaZC16
import Derived.Deep.DeepCutAuto
import Derived.Deep.RegionHeld3
/-
  Chains, the document's own answers, once more: which elements, with their bytes' addresses, an answer has: each is one of the chain's own, or the one that is put.
-/
namespace Go.Proofs.Ytooegjdppeiccaa
open Go.RowKit

/-- A row of versions, each with where its bytes lie. -/
def RowM (w : World) (hi : Nat) (A : Option Addr) (ms : List MV) : Prop := RowG mvCells w 0 hi A ms ∧ ∀ x ∈ ms, OkMV w hi x
section
variable {w w' : World} {hi hi' B : Nat} {A : Option Addr} {ms : List MV}
theorem RowM.row (h : RowM w hi A ms) : RowH w hi A (ms.map MV.v) := ⟨ms, rfl, h.1, h.2⟩
theorem RowM.below (h : RowM w hi A ms) (hb : Below B w w') (hB : hi ≤ B) (hh : hi ≤ hi') : RowM w' hi' A ms := ⟨(h.1.below hb hB).wide (Nat.le_refl _) hh, fun x hx => (h.2 x hx).below hb hB hh⟩
theorem RowM.at_ (h : RowM w hi A ms) {j : Nat} (hj : j < (ms.map MV.v).length) :
    ∃ b o A' c', A = some ⟨b, o, none⟩ ∧ b < hi ∧ w.cell? ⟨b, o + j * 3, none⟩ = some (.int .u64 ((ms.map MV.v)[j]'hj).tm) ∧ w.cell? ⟨b, o + j * 3 + 1, none⟩ = some (.bool ((ms.map MV.v)[j]'hj).gone) ∧ w.cell? ⟨b, o + j * 3 + 2, none⟩ = some (.slice A' ((ms.map MV.v)[j]'hj).dat.length c') ∧
      Sl w hi A' c' ((ms.map MV.v)[j]'hj).dat ∧ ((ms.map MV.v)[j]'hj).tm < 18446744073709551616 ∧ (⟨(ms.map MV.v)[j]'hj, A', c'⟩ : MV) ∈ ms := by
  have hj' : j < ms.length := by simpa using hj
  obtain ⟨b, o, e, _, hb, hc⟩ := h.1.at_ mvF hj'
  obtain ⟨k1, k2⟩ := h.2 _ (List.getElem_mem hj')
  refine ⟨b, o, ms[j].A, ms[j].c, e, hb, ?_, ?_, ?_, by simpa using k2, by simpa using k1, ?_⟩
  · have := hc 0 _ rfl
    simpa using this
  · have := hc 1 _ rfl
    simpa using this
  · have := hc 2 _ rfl
    simpa using this
  · have h1 : (⟨(ms.map MV.v)[j]'hj, ms[j].A, ms[j].c⟩ : MV) = ms[j] := by rw [List.getElem_map]
    rw [h1]
    exact List.getElem_mem hj'
end
/-- What Find tells: the version, which is one of the chain's own. -/
def RetFindM (hi : Nat) (ms : List MV) (o : Option Ver) (w : World) (r : Ending) (w' : World) : Prop :=
  ∃ A c, r = .returned (.tuple #[verVal (optH o) A c, .bool o.isSome]) ∧ Sl w' hi A c (optH o).dat ∧ Below w.heap.size w w' ∧ ∀ v, o = some v → (⟨v, A, c⟩ : MV) ∈ ms
set_option maxRecDepth 100000 in
set_option maxHeartbeats 4000000 in
theorem refFindM (ms : List MV) (l : List Ver) (hms : ms.map MV.v = l) (A : Option Addr) (c : Nat) (t hi : Nat) (w : World) (hl : l.length ≤ 9223372036854775807) (hr : RowM w hi A ms) (hhi : hi ≤ w.heap.size) :
    Calls Try.prog 111 #[.slice A l.length c, .int .u64 t] w (RetFindM hi ms (findH l t) w) := by
  obtain ⟨w0, hw0⟩ : ∃ y, w.alloc (.cells #[.int .u64 0, .bool false, .slice none 0 0] 103) = y := ⟨_, rfl⟩
  obtain ⟨w1, hw1⟩ : ∃ y, w0.alloc (.cells #[.int .u64 0, .bool false, .slice none 0 0] 103) = y := ⟨_, rfl⟩
  have b0 : Below w.heap.size w w0 := by rw [← hw0]; exact (Below.refl _ w).alloc (Nat.le_refl _) _
  have s0 : w0.heap.size = w.heap.size + 1 := by rw [← hw0]; simp
  have b1 : Below w0.heap.size w0 w1 := by rw [← hw1]; exact (Below.refl _ w0).alloc (Nat.le_refl _) _
  have h0 : w1.heap[w.heap.size]? = some (.cells #[.int .u64 0, .bool false, .slice none 0 0] 103 (0, 0)) := by
    rw [← hw1]; exact heap_allocs (by rw [← hw0]; exact heap_alloc_new w _) _
  have h1 : w1.heap[w.heap.size + 1]? = some (.cells #[.int .u64 0, .bool false, .slice none 0 0] 103 (0, 0)) := by
    rw [← hw1, ← s0]; exact heap_alloc_new w0 _
  have HB1 := Lib.hid (b0.trans (b1.mono b0.size))
  have HR := Lib.hid hr
  have HH0 := Lib.hid h0
  have HH1 := Lib.hid h1
  have HW0 := Lib.hid hw0
  have HW1 := Lib.hid hw1
  have HTM : Hid (∀ x ∈ l, x.tm < 18446744073709551616) := Lib.hid (by rw [← hms]; exact hr.row.tm)
  have HMap := Lib.hid hms
  clear hr hms hw0 hw1 b0 b1 s0 h0 h1
  go_enter Try.func111, Try.ntmps111
  go_upto_region 2 with fail
  rw [HW0.out, HW1.out]
  clear HW0 HW1
  go_wp2_with fail
  go_loopg [7, 12] l.length (fun q v i wr => ∃ (j : Nat) (A' : Option Addr) (c' : Nat), j + q = l.length ∧ v = .bool (findH (l.take j) t).isSome ∧ i = .int .i64 j ∧ Below w.heap.size w wr ∧
    wr.heap[w.heap.size]? = some (.cells #[.int .u64 0, .bool false, .slice none 0 0] 103 (0, 0)) ∧
    wr.heap[w.heap.size + 1]? = some (.cells #[.int .u64 (optH (findH (l.take j) t)).tm, .bool (optH (findH (l.take j) t)).gone, .slice A' (optH (findH (l.take j) t)).dat.length c'] 103 (0, 0)) ∧
    Sl wr hi A' c' (optH (findH (l.take j) t)).dat ∧ ∀ v, findH (l.take j) t = some v → (⟨v, A', c'⟩ : MV) ∈ ms)
  case atStart => exact ⟨0, none, 0, by omega, rfl, rfl, HB1.out, HH0.out, HH1.out, Sl.none_ _ _, fun v h => (by cases h)⟩
  case round =>
    obtain ⟨j, A', c', hk, rfl, rfl, hb, hz, ho, hsl, hin⟩ := hrel
    have HIn := Lib.hid hin
    have HK := Lib.hid hk
    have HB := Lib.hid hb
    have HZ := Lib.hid hz
    have HO := Lib.hid ho
    have HSL := Lib.hid hsl
    clear hb hk hz ho hsl hin
    by_cases hj : j < l.length
    · have hlt : decide ((j : Int) < (l.length : Int)) = true := by simpa using hj
      have hlt2 : decide (j < l.length) = true := by simpa using hj
      obtain ⟨b, o, A2, c2', rfl, _, c0, c1, c2, hs, htm, hmem⟩ : ∃ b o A' c', A = some ⟨b, o, none⟩ ∧ b < hi ∧ wr.cell? ⟨b, o + j * 3, none⟩ = some (.int .u64 (l[j]'hj).tm) ∧ wr.cell? ⟨b, o + j * 3 + 1, none⟩ = some (.bool (l[j]'hj).gone) ∧ wr.cell? ⟨b, o + j * 3 + 2, none⟩ = some (.slice A' (l[j]'hj).dat.length c') ∧ Sl wr hi A' c' (l[j]'hj).dat ∧ (l[j]'hj).tm < 18446744073709551616 ∧ (⟨l[j]'hj, A', c'⟩ : MV) ∈ ms := by
        have h := HMap.out
        subst h
        exact (HR.out.below HB.out hhi (Nat.le_refl _)).at_ hj
      have HMem := Lib.hid hmem
      have HY := Lib.hid (fun h => findH_take_yes hj (t := t) h)
      have HN := Lib.hid (fun h => findH_take_no hj (t := t) h)
      have HS := Lib.hid hs
      clear hs htm hmem
      generalize l[j] = x at *
      obtain ⟨tm, gone, dat⟩ := x
      simp only at c0 c1 c2 HY HN HS HMem
      have hsz : w.heap.size ≤ wr.heap.size := HB.out.size
      have HLT := Lib.hid (lt_of_heap HO.out)
      generalize hcur : optH (findH (l.take j) t) = cur at *
      by_cases h1 : tm ≤ t
      · have d1 : decide ((tm : Int) ≤ (t : Int)) = true := by rw [decide_eq_true_iff]; omega
        have d2 : decide (tm ≤ t) = true := by rw [decide_eq_true_iff]; omega
        have HF := Lib.hid (HY.out h1)
        have hoa := heap_allocs HO.out (.cells #[.int .u64 tm, .bool gone, .slice A2 dat.length c2'] 103)
        have f0 := frozen_of hoa 0
        have f1 := frozen_of hoa 1
        have f2 := frozen_of hoa 2
        have k0 := cell_of_row _ _ 0 _ _ _ hoa
        have k1 := cell_of_row _ _ 1 _ _ _ hoa
        have k2 := cell_of_row _ _ 2 _ _ _ hoa
        have HBA := Lib.hid ((HB.out.alloc HB.out.size (.cells #[.int .u64 tm, .bool gone, .slice A2 dat.length c2'] 103)))
        have HB3 := Lib.hid (Below.box3 HBA.out (b := w.heap.size + 1) (by omega) (.int .u64 tm) (.bool gone) (.slice A2 dat.length c2'))
        have HO3 := Lib.hid (box3_set hoa (.int .u64 tm) (.bool gone) (.slice A2 dat.length c2'))
        have HZ3 := Lib.hid ((box3_other (g := w.heap.size) (b := w.heap.size + 1) (by omega) (.int .u64 tm) (.bool gone) (.slice A2 dat.length c2')).trans (heap_allocs HZ.out (.cells #[.int .u64 tm, .bool gone, .slice A2 dat.length c2'] 103)))
        have HS3 := Lib.hid (Below.box3 ((Below.refl w.heap.size wr).alloc (by omega) (.cells #[.int .u64 tm, .bool gone, .slice A2 dat.length c2'] 103)) (b := w.heap.size + 1) (by omega) (.int .u64 tm) (.bool gone) (.slice A2 dat.length c2'))
        clear hoa
        clear h1 HY HN hcur
        go_wp2
        go_roundg (gk - 1)
        case measure => have := HK.out; omega
        case rel => exact ⟨j + 1, A2, c2', by have := HK.out; omega, by rw [HF.out]; rfl, by go_num, HB3.out, HZ3.out, by rw [HF.out]; exact HO3.out, by
          rw [HF.out]
          exact HS.out.below HS3.out hhi (Nat.le_refl _), fun v h => by
          rw [HF.out] at h
          cases h
          exact HMem.out⟩
      · have d1 : decide ((tm : Int) ≤ (t : Int)) = false := by rw [decide_eq_false_iff_not]; omega
        have d2 : decide (tm ≤ t) = false := by rw [decide_eq_false_iff_not]; omega
        have HF := Lib.hid (HN.out h1)
        have HC := Lib.hid hcur
        clear h1 HY HN hcur
        go_wp2
        go_roundg (gk - 1)
        case measure => have := HK.out; omega
        case rel => exact ⟨j + 1, A', c', by have := HK.out; omega, by rw [HF.out], by go_num, HB.out.alloc HB.out.size _, heap_allocs HZ.out _, by rw [HF.out, HC.out]; exact heap_allocs HO.out _, by
          rw [HF.out, HC.out]
          exact HSL.out.below ((Below.refl w.heap.size wr).alloc (by omega) _) hhi (Nat.le_refl _), fun v h => by
          rw [HF.out] at h
          exact HIn.out v h⟩
    · have hj' : j = l.length := by have := HK.out; omega
      have hlt : decide ((j : Int) < (l.length : Int)) = false := by simpa using hj
      subst hj'
      rw [List.take_length] at HO HSL HIn
      simp only [List.take_length]
      have hsz : w.heap.size ≤ wr.heap.size := HB.out.size
      have HTF := Lib.hid (optH_tm HTM.out t)
      generalize hF : findH l t = F at *
      have HFF := Lib.hid hF
      have HSL2 := Lib.hid HSL.out
      generalize hcur : optH F = cur at *
      obtain ⟨tm, gone, dat⟩ := cur
      have HC := Lib.hid hcur
      simp only at HO HSL
      have f0 := frozen_of HZ.out 0
      have f1 := frozen_of HZ.out 1
      have f2 := frozen_of HZ.out 2
      have z0 := cell_of_row wr _ 0 _ _ _ HZ.out
      have z1 := cell_of_row wr _ 1 _ _ _ HZ.out
      have z2 := cell_of_row wr _ 2 _ _ _ HZ.out
      have k0 := cell_of_row wr _ 0 _ _ _ HO.out
      have k1 := cell_of_row wr _ 1 _ _ _ HO.out
      have k2 := cell_of_row wr _ 2 _ _ _ HO.out
      have HB3 := Lib.hid (Below.box3 HB.out (b := w.heap.size) (Nat.le_refl _) (.int .u64 tm) (.bool gone) (.slice A' dat.length c'))
      have hx := box3_set HZ.out (.int .u64 tm) (.bool gone) (.slice A' dat.length c')
      have HX := Lib.hid hx
      have HB4 := Lib.hid (Below.box3 (Below.refl w.heap.size wr) (b := w.heap.size) (Nat.le_refl _) (.int .u64 tm) (.bool gone) (.slice A' dat.length c'))
      have HS4 := Lib.hid (show w.heap.size ≤ (((wr.setCell ⟨w.heap.size, 0, none⟩ (.int .u64 tm)).setCell ⟨w.heap.size, 1, none⟩ (.bool gone)).setCell ⟨w.heap.size, 2, none⟩ (.slice A' dat.length c')).heap.size from HB3.out.size)
      clear hF hcur hx
      go_wp2
      have t0 := cell_of_row _ _ 0 _ _ _ HX.out
      have t1 := cell_of_row _ _ 1 _ _ _ HX.out
      have t2 := cell_of_row _ _ 2 _ _ _ HX.out
      refine bodyPost_ret (v := .tuple #[.agg #[.int .u64 tm, .bool gone, .slice A' dat.length c'], .bool F.isSome]) (by simp [results, Try.results111, go_sem, t0, t1, t2]) rfl ?_
      refine ⟨A', c', by rw [HC.out]; rfl, ?_, HB3.out, fun v h => HIn.out v h⟩
      rw [HC.out]
      exact HSL.out.below HB4.out hhi (Nat.le_refl _)

/-- What Put tells, and which elements the chain has then. -/
def RetPutM (ms : List MV) (x : MV) (m : List Ver × Int) (w : World) (r : Ending) (w' : World) : Prop :=
  ∃ A c ns, r = .returned (.tuple #[.slice A m.1.length c, .int .i64 m.2]) ∧ ns.map MV.v = m.1 ∧ ns.length ≤ c ∧ c ≤ maxLen ∧ (A = none → c = 0) ∧ RowG mvCells w' w.heap.size w'.heap.size A ns ∧ (∀ y ∈ ns, y ∈ ms ∨ y = x) ∧ Below w.heap.size w w'
set_option maxRecDepth 100000 in
set_option maxHeartbeats 4000000 in
theorem refPutM (ms : List MV) (l : List Ver) (hms0 : ms.map MV.v = l) (A : Option Addr) (c : Nat) (v : Ver) (B : Option Addr) (d : Nat) (w : World) (hl : l.length ≤ 4294967296) (hch : l.length ≤ c ∧ c ≤ maxLen ∧ (A = none → c = 0)) (hm : RowM w w.heap.size A ms) (hv : v.tm < 18446744073709551616) (hs : Sl w w.heap.size B d v.dat) :
    Calls Try.prog 110 #[.slice A l.length c, verVal v B d] w (RetPutM ms ⟨v, B, d⟩ (putH l v) w) := by
  have hr : ChH w w.heap.size A c l := ⟨hch.1, hch.2.1, hch.2.2, by rw [← hms0]; exact hm.row⟩
  obtain ⟨w0, hw0⟩ : ∃ y, w.alloc (.cells #[.int .u64 v.tm, .bool v.gone, .slice B v.dat.length d] 103) = y := ⟨_, rfl⟩
  obtain ⟨w1, hw1⟩ : ∃ y, w0.alloc (.cells #[.int .u64 v.tm, .bool v.gone, .slice B v.dat.length d] 103) = y := ⟨_, rfl⟩
  have s0 : w0.heap.size = w.heap.size + 1 := by rw [← hw0]; simp
  have s1 : w1.heap.size = w.heap.size + 2 := by rw [← hw1]; simp [s0]
  have b0 : Below w.heap.size w w0 := by rw [← hw0]; exact (Below.refl _ w).alloc (Nat.le_refl _) _
  have b1 : Below w.heap.size w w1 := b0.trans (by rw [← hw1]; exact (Below.refl _ w0).alloc (by omega) _)
  have h0 : w1.heap[w.heap.size]? = some (.cells #[.int .u64 v.tm, .bool v.gone, .slice B v.dat.length d] 103 (0, 0)) := by
    rw [← hw1]; exact heap_allocs (by rw [← hw0]; exact heap_alloc_new w _) _
  have h1 : w1.heap[w.heap.size + 1]? = some (.cells #[.int .u64 v.tm, .bool v.gone, .slice B v.dat.length d] 103 (0, 0)) := by
    rw [← hw1, ← s0]; exact heap_alloc_new w0 _
  have hch1 := hr.below b1 (Nat.le_refl _) (hi' := w1.heap.size) (by omega)
  have hs1 := hs.below b1 (Nat.le_refl _) (hi' := w1.heap.size) (by omega)
  have hone := rowH_one h1 hv hs1 (by omega)
  have HCR := Lib.hid (refRight_any l A c w1.heap.size w1 (by omega) hch1.2.2.2 (Nat.le_refl _))
  have HCO : Hid (∀ w', Below w1.heap.size w1 w' → Calls Try.prog 125 #[.slice (some ⟨w.heap.size + 1, 0, none⟩) 1 1] w' fun r w'' => r = .returned (.bool (rightC [v])) ∧ Below w1.heap.size w1 w'') := Lib.hid fun w' h =>
    (refRight_any [v] (some ⟨w.heap.size + 1, 0, none⟩) 1 w1.heap.size w' (by simp) (hone.below h (Nat.le_refl _) (Nat.le_refl _)) h.size).mono fun _ _ q => ⟨q.1, h.trans (q.2.mono h.size)⟩
  have HCL : Hid (∀ w', Below w1.heap.size w1 w' → Calls Try.prog 97 #[.slice A l.length c] w' fun r w'' => r = .returned (.int .u64 (lastH l : Nat)) ∧ Below w1.heap.size w1 w'') := Lib.hid fun w' h =>
    (refLast_any l A c w' (by omega) ((hch1.2.2.2).below h (Nat.le_refl _) h.size)).mono fun _ _ q => ⟨q.1, h.trans (q.2.mono h.size)⟩
  have HMM : Hid (∀ W, Below w1.heap.size w1 W → RowM W W.heap.size A ms) := Lib.hid fun W h => (hm.below b1 (Nat.le_refl _) (hi' := w1.heap.size) (by omega)).below h (Nat.le_refl _) h.size
  have HMap := Lib.hid hms0
  have HNil := Lib.hid hch.2.2
  have HS := Lib.hid hs1
  have H0 := Lib.hid h0
  have HB1 := Lib.hid b1
  have HS1 := Lib.hid s1
  have HW0 := Lib.hid hw0
  have HW1 := Lib.hid hw1
  have HV := Lib.hid hv
  clear hr hs hm hms0 hch hw0 hw1 b0 b1 s0 s1 h0 h1 hch1 hs1 hone hv
  obtain ⟨tm, gone, dat⟩ := v
  simp only at HCO H0 HS HV HW0 HW1
  unfold verVal
  simp only
  have hput : putH l ⟨tm, gone, dat⟩ = if (rightC l && rightC [⟨tm, gone, dat⟩]) = true then if tm ≤ lastH l then ([], 70) else (l ++ [⟨tm, gone, dat⟩], 0) else ([], 1) := rfl
  have HOne := Lib.hid (rfl : ([⟨tm, gone, dat⟩] : List Ver) = [⟨tm, gone, dat⟩])
  generalize hr1 : rightC l = r1 at *
  generalize hr2 : rightC [⟨tm, gone, dat⟩] = r2 at *
  clear hr1 hr2
  rw [hput]
  clear hput
  cases r1
  · go_enter Try.func110, Try.ntmps110
    go_upto_region 2 with fail
    rw [HW0.out, HW1.out]
    clear HW0 HW1
    go_wp2_with fail
    refine HCR.out.mono ?_
    rintro r w2 ⟨rfl, hb2⟩
    have HB2 := Lib.hid hb2
    clear hb2
    go_wp2_with fail
    refine bodyPost_ret (v := .tuple #[.slice none 0 0, .int .i64 1]) (by simp [results, Try.results110, go_sem]) rfl ?_
    exact ⟨none, 0, [], rfl, rfl, Nat.le_refl _, Nat.zero_le _, (fun _ => rfl), RowG.nil_, (fun _ h => by cases h), HB1.out.trans (HB2.out.mono HB1.out.size)⟩
  · cases r2
    · go_enter Try.func110, Try.ntmps110
      go_upto_region 2 with fail
      rw [HW0.out, HW1.out]
      clear HW0 HW1
      go_wp2_with fail
      refine HCR.out.mono ?_
      rintro r w2 ⟨rfl, hb2⟩
      have HB2 := Lib.hid hb2
      clear hb2
      go_wp2_with fail
      refine (HCO.out _ HB2.out).mono ?_
      rintro r w3 ⟨rfl, hb3⟩
      have HB3 := Lib.hid hb3
      clear hb3
      go_wp2_with fail
      refine bodyPost_ret (v := .tuple #[.slice none 0 0, .int .i64 1]) (by simp [results, Try.results110, go_sem]) rfl ?_
      exact ⟨none, 0, [], rfl, rfl, Nat.le_refl _, Nat.zero_le _, (fun _ => rfl), RowG.nil_, (fun _ h => by cases h), HB1.out.trans (HB3.out.mono HB1.out.size)⟩
    · have KEEP : Hid (∀ w', Below w1.heap.size w1 w' → w'.cell? ⟨w.heap.size, 0, none⟩ = some (.int .u64 tm) ∧ Below w1.heap.size w1 w') := Lib.hid (fun w' h => ⟨cell_of_row w' _ 0 _ _ _ (heap_below H0.out h (by have := HS1.out; omega)), h⟩)
      by_cases hlast : tm ≤ lastH l
      · have d1 : decide ((tm : Int) ≤ (lastH l : Int)) = true := by rw [decide_eq_true_iff]; omega
        have d2 : decide (tm ≤ lastH l) = true := by rw [decide_eq_true_iff]; omega
        rw [if_pos hlast]
        clear hlast
        go_enter Try.func110, Try.ntmps110
        go_upto_region 2 with fail
        rw [HW0.out, HW1.out]
        clear HW0 HW1
        go_wp2_with fail
        refine HCR.out.mono ?_
        rintro r w2 ⟨rfl, hb2⟩
        have HB2 := Lib.hid hb2
        clear hb2
        go_wp2_with fail
        refine (HCO.out _ HB2.out).mono ?_
        rintro r w3 ⟨rfl, hb3⟩
        have HB3 := Lib.hid hb3
        have q0 := (KEEP.out _ hb3).1
        clear hb3
        go_wp2_with fail
        go_region_held3 (fun w' => w'.cell? ⟨w.heap.size, 0, none⟩ = some (.int .u64 tm) ∧ Below w1.heap.size w1 w')
          (first | with_reducible exact KEEP.out _ hb6 | with_reducible exact KEEP.out _ HB3.out.drew)
          ((go_at_call 97; refine (HCL.out _ (by go_split_ands; assumption)).mono ?_; rintro r w' ⟨rfl, hb6⟩))
        go_wp2_with fail
        refine bodyPost_ret (v := .tuple #[.slice none 0 0, .int .i64 70]) (by simp [results, Try.results110, go_sem]) rfl ?_
        exact ⟨none, 0, [], rfl, rfl, Nat.le_refl _, Nat.zero_le _, (fun _ => rfl), RowG.nil_, (fun _ h => by cases h), HB1.out.trans (hb6.mono HB1.out.size)⟩
      · have d1 : decide ((tm : Int) ≤ (lastH l : Int)) = false := by rw [decide_eq_false_iff_not]; omega
        have d2 : decide (tm ≤ lastH l) = false := by rw [decide_eq_false_iff_not]; omega
        rw [if_neg hlast]
        clear hlast
        go_enter Try.func110, Try.ntmps110
        go_upto_region 2 with fail
        rw [HW0.out, HW1.out]
        clear HW0 HW1
        go_wp2_with fail
        refine HCR.out.mono ?_
        rintro r w2 ⟨rfl, hb2⟩
        have HB2 := Lib.hid hb2
        clear hb2
        go_wp2_with fail
        refine (HCO.out _ HB2.out).mono ?_
        rintro r w3 ⟨rfl, hb3⟩
        have HB3 := Lib.hid hb3
        have q0 := (KEEP.out _ hb3).1
        clear hb3
        go_wp2_with fail
        go_region_held3 (fun w' => w'.cell? ⟨w.heap.size, 0, none⟩ = some (.int .u64 tm) ∧ Below w1.heap.size w1 w')
          (first | with_reducible exact KEEP.out _ hb6 | with_reducible exact KEEP.out _ HB3.out.drew)
          ((go_at_call 97; refine (HCL.out _ (by go_split_ands; assumption)).mono ?_; rintro r w' ⟨rfl, hb6⟩))
        have HB6 := Lib.hid hb6
        obtain ⟨hg, hok⟩ := HMM.out _ hb6
        have hnil := HNil.out
        have hms := HMap.out
        have hml : ms.length = l.length := by rw [← hms, List.length_map]
        have hsz1 : w.heap.size + 2 ≤ w'.heap.size := by have := HS1.out; have := hb6.size; omega
        have HMS := Lib.hid hms
        have HOK := Lib.hid hok
        have HSB := Lib.hid (HS.out.below hb6 (Nat.le_refl _) hb6.size)
        have HG := Lib.hid (hg.below ((Below.refl _ w').alloc (Nat.le_refl _) (.cells #[] 103)) (Nat.le_refl _))
        have HNIL := Lib.hid hnil
        have HX := Lib.hid (heap_allocs (heap_below H0.out hb6 (by have := HS1.out; omega)) (.cells #[] 103))
        clear hok hg hnil hms hb6 q0
        go_wp2_with (first
          | (at_builtin; refine append_row _ rfl _ _ 56 103 40 mvF mvInfo Try.underlying56 rfl w'.heap.size _ [] rfl (OwnG.made w' 103 3 mvCells) 0 _ A l.length c ms rfl hml.symm HNIL.out HG.out (by simp [maxLen]; omega) (by simp; omega) (by simp) ?_; intro v1 w5 ho5 hg5; have HO5 := Lib.hid ho5; have HX5 := Lib.hid ((hg5.block _ (by simp; omega) (fun e => by have := (OwnG.made w' 103 3 mvCells).lt _ e.symm; omega)).trans HX.out); have HB5 := Lib.hid (((Below.refl _ w').alloc (Nat.le_refl _) (.cells #[] 103)).grown hg5 (by simp) (fun k hk => ((OwnG.made w' 103 3 mvCells).lt k hk).1)); clear ho5 hg5; have x0 := cell_of_row w5 _ 0 _ _ _ HX5.out; have x1 := cell_of_row w5 _ 1 _ _ _ HX5.out; have x2 := cell_of_row w5 _ 2 _ _ _ HX5.out)
          | (at_builtin; refine append_row _ rfl _ _ 56 103 40 mvF mvInfo Try.underlying56 rfl w'.heap.size _ ([] ++ ms) rfl (HO5.out.allocs _) w5.heap.size (w5.heap.size + 1) (some ⟨w5.heap.size, 0, none⟩) 1 1 [⟨⟨tm, gone, dat⟩, B, d⟩] rfl rfl (fun e => by cases e) (RowG.one (heap_alloc_new w5 _)) (by simp [maxLen]; omega) (by simp; omega) (by have := HB5.out.size; simp; omega) ?_; intro v2 w6 ho6 hg6; have HO6 := Lib.hid ho6; have HB7 := Lib.hid ((HB5.out.alloc HB5.out.size (.cells #[.int .u64 tm, .bool gone, .slice B dat.length d] 103)).grown hg6 (by have := HB5.out.size; simp; omega) (fun k hk => (HO5.out.lt k hk).1)); clear ho6 hg6))
        obtain ⟨A9, c9, rfl, k1, k2, k3, k4⟩ := HO6.out.form
        rw [List.nil_append] at k1 k4
        have hlen : (([] : List MV) ++ ms ++ [(⟨⟨tm, gone, dat⟩, B, d⟩ : MV)]).length = (l ++ [(⟨tm, gone, dat⟩ : Ver)]).length := by simp [hml]
        have hlen2 : (ms ++ [(⟨⟨tm, gone, dat⟩, B, d⟩ : MV)]).length = (l ++ [(⟨tm, gone, dat⟩ : Ver)]).length := by simp [hml]
        rw [hlen]
        rw [hlen2] at k1
        refine bodyPost_ret (v := .tuple #[.slice A9 (l ++ [(⟨tm, gone, dat⟩ : Ver)]).length c9, .int .i64 0]) (by simp [results, Try.results110, go_sem]) rfl ?_
        refine ⟨A9, c9, ms ++ [(⟨⟨tm, gone, dat⟩, B, d⟩ : MV)], rfl, by rw [List.map_append, HMS.out]; rfl, by rw [hlen2]; exact k1, k2, k3, k4.wide (by have := HB1.out.size; have := HB6.out.size; have := HS1.out; omega) (Nat.le_refl _), (fun x hx => ?_), HB1.out.trans ((HB6.out.trans (HB7.out.mono HB6.out.size)).mono HB1.out.size)⟩
        rcases List.mem_append.1 hx with hx | hx
        · exact .inl hx
        · rw [List.mem_singleton] at hx
          exact .inr hx

/-- What Trim tells, and which elements the chain has then. -/
def RetChM (os : List MV) (m : List Ver) (w : World) (r : Ending) (w' : World) : Prop :=
  ∃ A c ns, r = .returned (.slice A m.length c) ∧ ns.map MV.v = m ∧ ns.length ≤ c ∧ c ≤ maxLen ∧ (A = none → c = 0) ∧ RowG mvCells w' w.heap.size w'.heap.size A ns ∧ (∀ y ∈ ns, y ∈ os) ∧ Below w.heap.size w w'
def TrimAtM (os : List MV) (w wx : World) (lo : Nat) (v : Value) (m : List Ver) : Prop :=
  ∃ ms : List MV, OwnG 103 3 mvCells wx lo v ms ∧ ms.map MV.v = m ∧ (∀ x ∈ ms, x ∈ os) ∧ Below w.heap.size w wx
theorem rowM_at {os : List MV} {l : List Ver} {w wr : World} {A : Option Addr} {j : Nat} (hr : RowM w w.heap.size A os) (hm : os.map MV.v = l) (hb : Below w.heap.size w wr) (hj : j < l.length) :
    ∃ b o A' c', A = some ⟨b, o, none⟩ ∧ b < w.heap.size ∧ wr.cell? ⟨b, o + j * 3, none⟩ = some (.int .u64 (l[j]'hj).tm) ∧ wr.cell? ⟨b, o + j * 3 + 1, none⟩ = some (.bool (l[j]'hj).gone) ∧ wr.cell? ⟨b, o + j * 3 + 2, none⟩ = some (.slice A' (l[j]'hj).dat.length c') ∧
      Sl wr w.heap.size A' c' (l[j]'hj).dat ∧ (l[j]'hj).tm < 18446744073709551616 ∧ (⟨l[j]'hj, A', c'⟩ : MV) ∈ os := by
  subst hm
  exact (hr.below hb (Nat.le_refl _) (Nat.le_refl _)).at_ hj
set_option maxRecDepth 100000 in
set_option maxHeartbeats 4000000 in
theorem refTrimM (os : List MV) (l : List Ver) (hms0 : os.map MV.v = l) (A : Option Addr) (c : Nat) (low : Nat) (w : World) (hl : l.length ≤ 4294967296) (hr : RowM w w.heap.size A os) :
    Calls Try.prog 95 #[.slice A l.length c, .int .u64 low] w (RetChM os (trimH l low) w) := by
  obtain ⟨w0, hw0⟩ : ∃ y, w.alloc (.cells #[] 103) = y := ⟨_, rfl⟩
  have s0 : w0.heap.size = w.heap.size + 1 := by rw [← hw0]; simp
  have b0 : Below w.heap.size w w0 := by rw [← hw0]; exact (Below.refl _ w).alloc (Nat.le_refl _) _
  have ho0 : OwnG 103 3 mvCells w0 w.heap.size (.slice (some ⟨w.heap.size, 0, none⟩) 0 0) ([] : List MV) := by rw [← hw0]; exact OwnG.made w _ _ _
  have HCF := Lib.hid (refFindM os l hms0 A c low w.heap.size w0 (by omega) (hr.below b0 (Nat.le_refl _) (Nat.le_refl _)) (by omega))
  have HMap := Lib.hid hms0
  have HR := Lib.hid hr
  have HTM := Lib.hid (optH_tm (l := l) (by rw [← hms0]; exact hr.row.tm) low)
  have HB0 := Lib.hid b0
  have HO0 := Lib.hid ho0
  have HS0 := Lib.hid s0
  have HW0 := Lib.hid hw0
  have HFI : Hid (∀ v, findH l low = some v → v ∈ l) := Lib.hid fun v hv => by
    have hm := List.mem_of_getLast? hv
    rw [List.mem_filter] at hm
    exact hm.1
  have htr : trimH l low = keepH (findH l low) ++ ((l.take l.length).filter fun v => decide (low < v.tm)) := by rw [List.take_length]; rfl
  rw [htr]
  generalize findH l low = F at *
  have hkl := fun j => keep_len F l low j
  obtain ⟨kp, hkp⟩ : ∃ y, keepH F = y := ⟨_, rfl⟩
  rw [hkp]
  simp only [hkp] at hkl
  have HKL := Lib.hid hkl
  have HKP := Lib.hid hkp
  clear hkl hkp
  clear hr hms0 s0 b0 ho0 hw0 htr
  go_enter Try.func95, Try.ntmps95
  go_upto_region 2 with fail
  rw [HW0.out]
  clear HW0
  go_wp2_with fail
  refine HCF.out.mono ?_
  rintro r w1 ⟨A', c', rfl, hsl, hb1, hin0⟩
  have HIn0 := Lib.hid hin0
  clear hin0
  have hb01 : Below w.heap.size w w1 := HB0.out.trans (hb1.mono HB0.out.size)
  have ho1 := HO0.out.keep (w' := w1) (fun g _ hg => hb1.block g hg) (Nat.le_refl _)
  have hs1 : w.heap.size + 1 ≤ w1.heap.size := by have := HS0.out; have := hb1.size; omega
  clear hb1 HO0 HB0 HCF
  have HB2 := Lib.hid (hb01.alloc hb01.size (.cells #[.int .u64 (optH F).tm, .bool (optH F).gone, .slice A' (optH F).dat.length c'] 103))
  have HO2 := Lib.hid (ho1.allocs (.cells #[.int .u64 (optH F).tm, .bool (optH F).gone, .slice A' (optH F).dat.length c'] 103))
  have HS1 := Lib.hid hs1
  have HSL := Lib.hid hsl
  have hT : (kp = []) → TrimAtM os w (w1.alloc (.cells #[.int .u64 (optH F).tm, .bool (optH F).gone, .slice A' (optH F).dat.length c'] 103)) w.heap.size (.slice (some ⟨w.heap.size, 0, none⟩) 0 0) (kp ++ ((l.take 0).filter fun v => decide (low < v.tm))) := fun h => ⟨[], HO2.out, by rw [h]; rfl, by simp, HB2.out⟩
  have HT := Lib.hid hT
  clear hT hb01 ho1 hsl
  rcases F with _ | ⟨tm, gone, dat⟩
  · have e0 : verVal (optH none) A' c' = .agg #[.int .u64 0, .bool false, .slice A' 0 c'] := rfl
    have e1 : (none : Option Ver).isSome = false := rfl
    rw [e0, e1]
    clear e0 e1
    have HT0 := Lib.hid (HT.out HKP.out.symm)
    go_wp2_with fail
    go_loopg [5, 29] l.length (fun q v i wr => ∃ j : Nat, j + q = l.length ∧ i = .int .i64 j ∧ TrimAtM os w wr w.heap.size v (kp ++ ((l.take j).filter fun v => decide (low < v.tm))))
    case atStart => exact ⟨0, by omega, rfl, HT0.out⟩
    case round =>
      obtain ⟨j, hk, rfl, ms, ho, hms, hok, hb⟩ := hrel
      have HK := Lib.hid hk
      have HB := Lib.hid hb
      have HO := Lib.hid ho
      have HOK := Lib.hid hok
      have hkl := HKL.out j
      rw [← hms, List.length_map] at hkl
      have HML := Lib.hid hkl
      have HMS := Lib.hid hms
      clear hk hb ho hok hms hkl
      by_cases hj : j < l.length
      · have hlt : decide ((j : Int) < (l.length : Int)) = true := by simpa using hj
        have hlt2 : decide (j < l.length) = true := by simpa using hj
        obtain ⟨b, o, A2, c2', rfl, _, c0, c1, c2, hs, htm, hmem⟩ := rowM_at HR.out HMap.out HB.out hj
        have HMem := Lib.hid hmem
        have HY := Lib.hid (fun h => trim_take_yes hj (low := low) h)
        have HN := Lib.hid (fun h => trim_take_no hj (low := low) h)
        have HS := Lib.hid hs
        have HTX := Lib.hid htm
        have hsz : w.heap.size ≤ wr.heap.size := HB.out.size
        have HSZ := Lib.hid hsz
        clear hs htm hsz hmem
        generalize l[j] = x at *
        obtain ⟨tn, gn, dt⟩ := x
        simp only at c0 c1 c2 HY HN HS HTX HMem
        by_cases h1 : low < tn
        · have d1 : decide ((low : Int) < (tn : Int)) = true := by rw [decide_eq_true_iff]; omega
          have d2 : decide (low < tn) = true := by rw [decide_eq_true_iff]; omega
          have HF := Lib.hid (HY.out h1)
          clear h1 HY HN
          go_wp2_with (at_builtin; refine append_row _ rfl _ _ 56 103 40 mvF mvInfo Try.underlying56 rfl w.heap.size _ ms rfl ((HO.out.allocs _).allocs _) (wr.heap.size + 1) (wr.heap.size + 1 + 1) (some ⟨wr.heap.size + 1, 0, none⟩) 1 1 [⟨⟨tn, gn, dt⟩, A2, c2'⟩] rfl rfl (fun e => by cases e) (RowG.one (heap_new2 wr _ _)) (by have := HML.out; simp [maxLen]; omega) (by have := HML.out; simp; omega) (by have := HSZ.out; simp; omega) ?_; intro v1 w5 ho5 hg5; have HO5 := Lib.hid ho5; have HB51 := Lib.hid ((((Below.refl w.heap.size wr).alloc HSZ.out (.cells #[.int .u64 tn, .bool gn, .slice A2 dt.length c2'] 103)).alloc (by have := HSZ.out; simp; omega) (.cells #[.int .u64 tn, .bool gn, .slice A2 dt.length c2'] 103)).grown hg5 (by have := HSZ.out; simp; omega) (fun k hk => (HO.out.lt k hk).1)); clear ho5 hg5)
          go_roundg (gk - 1)
          case measure => have := HK.out; omega
          case rel =>
            refine ⟨j + 1, by have := HK.out; omega, by go_num, _, HO5.out, by rw [List.map_append, HMS.out, HF.out, List.append_assoc]; rfl, fun x hx => ?_, HB.out.trans (HB51.out.mono (Nat.le_refl _))⟩
            rcases List.mem_append.1 hx with hx | hx
            · exact HOK.out x hx
            · rw [List.mem_singleton] at hx
              subst hx
              exact HMem.out
        · have d1 : decide ((low : Int) < (tn : Int)) = false := by rw [decide_eq_false_iff_not]; omega
          have d2 : decide (low < tn) = false := by rw [decide_eq_false_iff_not]; omega
          have HF := Lib.hid (HN.out h1)
          have HBN := Lib.hid ((Below.refl w.heap.size wr).alloc HSZ.out (.cells #[.int .u64 tn, .bool gn, .slice A2 dt.length c2'] 103))
          clear h1 HY HN
          go_wp2
          go_roundg (gk - 1)
          case measure => have := HK.out; omega
          case rel => exact ⟨j + 1, by have := HK.out; omega, by go_num, ms, HO.out.allocs _, by rw [HF.out]; exact HMS.out, HOK.out, HB.out.trans HBN.out⟩
      · have hj' : j = l.length := by have := HK.out; omega
        have hlt : decide ((j : Int) < (l.length : Int)) = false := by simpa using hj
        have HJ := Lib.hid hj'
        clear hj'
        obtain ⟨A9, c9, rfl, k1, k2, k3, k4⟩ := HO.out.form
        have hml : ms.length = (kp ++ ((l.take l.length).filter fun v => decide (low < v.tm))).length := by rw [← HJ.out, ← HMS.out, List.length_map]
        have HQ := Lib.hid (show RetChM os (kp ++ ((l.take l.length).filter fun v => decide (low < v.tm))) w (.returned (.slice A9 ms.length c9)) wr from ⟨A9, c9, ms, by rw [hml], by rw [HMS.out, HJ.out], k1, k2, k3, k4, HOK.out, HB.out⟩)
        clear k1 k2 k3 k4 hml
        go_wp2
        go_ret
        exact HQ.out
  · have e0 : verVal (optH (some ⟨tm, gone, dat⟩)) A' c' = .agg #[.int .u64 tm, .bool gone, .slice A' dat.length c'] := rfl
    have e1 : (some (⟨tm, gone, dat⟩ : Ver)).isSome = true := rfl
    rw [e0, e1]
    clear e0 e1
    cases gone
    · have HKT := Lib.hid (show kp = [⟨tm, false, dat⟩] from HKP.out.symm.trans rfl)
      have hy := heap_new2 w1 (.cells #[.int .u64 tm, .bool false, .slice A' dat.length c'] 103) (.cells #[.int .u64 tm, .bool false, .slice A' dat.length c'] 103)
      have HY := Lib.hid hy
      have HO3 : Hid (OwnG 103 3 mvCells (w1.alloc (.cells #[.int .u64 tm, .bool false, .slice A' dat.length c'] 103)) w.heap.size (.slice (some ⟨w.heap.size, 0, none⟩) 0 0) ([] : List MV)) := Lib.hid HO2.out
      have HB3 : Hid (Below w.heap.size w (w1.alloc (.cells #[.int .u64 tm, .bool false, .slice A' dat.length c'] 103))) := Lib.hid HB2.out
      clear hy
      go_wp2_with (at_builtin; refine append_row _ rfl _ _ 56 103 40 mvF mvInfo Try.underlying56 rfl w.heap.size _ [] rfl (HO3.out.allocs _) (w1.heap.size + 1) (w1.heap.size + 2) (some ⟨w1.heap.size + 1, 0, none⟩) 1 1 [⟨⟨tm, false, dat⟩, A', c'⟩] rfl rfl (fun e => by cases e) (RowG.one HY.out) (by simp [maxLen]) (by simp) (by have := HS1.out; simp; omega) ?_; intro v1 w5 ho5 hg5; have HO5 := Lib.hid ho5; have HB5 := Lib.hid ((HB3.out.alloc HB3.out.size (.cells #[.int .u64 tm, .bool false, .slice A' dat.length c'] 103)).grown hg5 (by have := HS1.out; simp; omega) (fun k hk => (HO3.out.lt k hk).1)); have HB51 := Lib.hid ((((Below.refl w.heap.size w1).alloc (by have := HS1.out; omega) (.cells #[.int .u64 tm, .bool false, .slice A' dat.length c'] 103)).alloc (by have := HS1.out; simp; omega) (.cells #[.int .u64 tm, .bool false, .slice A' dat.length c'] 103)).grown hg5 (by have := HS1.out; simp; omega) (fun k hk => (HO3.out.lt k hk).1)); clear ho5 hg5)
      have HT0 : Hid (TrimAtM os w w5 w.heap.size v1 (kp ++ ((l.take 0).filter fun v => decide (low < v.tm)))) := Lib.hid ⟨_, HO5.out, by rw [HKT.out]; rfl, fun x hx => by
        simp only [List.nil_append, List.mem_singleton] at hx
        subst hx
        exact HIn0.out _ rfl, HB5.out⟩
      go_loopg [5, 29] l.length (fun q v i wr => ∃ j : Nat, j + q = l.length ∧ i = .int .i64 j ∧ TrimAtM os w wr w.heap.size v (kp ++ ((l.take j).filter fun v => decide (low < v.tm))))
      case atStart => exact ⟨0, by omega, rfl, HT0.out⟩
      case round =>
        obtain ⟨j, hk, rfl, ms, ho, hms, hok, hb⟩ := hrel
        have HK := Lib.hid hk
        have HB := Lib.hid hb
        have HO := Lib.hid ho
        have HOK := Lib.hid hok
        have hkl := HKL.out j
        rw [← hms, List.length_map] at hkl
        have HML := Lib.hid hkl
        have HMS := Lib.hid hms
        clear hk hb ho hok hms hkl
        by_cases hj : j < l.length
        · have hlt : decide ((j : Int) < (l.length : Int)) = true := by simpa using hj
          have hlt2 : decide (j < l.length) = true := by simpa using hj
          obtain ⟨b, o, A2, c2', rfl, _, c0, c1, c2, hs, htm, hmem⟩ := rowM_at HR.out HMap.out HB.out hj
          have HMem := Lib.hid hmem
          have HY := Lib.hid (fun h => trim_take_yes hj (low := low) h)
          have HN := Lib.hid (fun h => trim_take_no hj (low := low) h)
          have HS := Lib.hid hs
          have HTX := Lib.hid htm
          have hsz : w.heap.size ≤ wr.heap.size := HB.out.size
          have HSZ := Lib.hid hsz
          clear hs htm hsz hmem
          generalize l[j] = x at *
          obtain ⟨tn, gn, dt⟩ := x
          simp only at c0 c1 c2 HY HN HS HTX HMem
          by_cases h1 : low < tn
          · have d1 : decide ((low : Int) < (tn : Int)) = true := by rw [decide_eq_true_iff]; omega
            have d2 : decide (low < tn) = true := by rw [decide_eq_true_iff]; omega
            have HF := Lib.hid (HY.out h1)
            clear h1 HY HN
            go_wp2_with (at_builtin; refine append_row _ rfl _ _ 56 103 40 mvF mvInfo Try.underlying56 rfl w.heap.size _ ms rfl ((HO.out.allocs _).allocs _) (wr.heap.size + 1) (wr.heap.size + 1 + 1) (some ⟨wr.heap.size + 1, 0, none⟩) 1 1 [⟨⟨tn, gn, dt⟩, A2, c2'⟩] rfl rfl (fun e => by cases e) (RowG.one (heap_new2 wr _ _)) (by have := HML.out; simp [maxLen]; omega) (by have := HML.out; simp; omega) (by have := HSZ.out; simp; omega) ?_; intro v1 w5 ho5 hg5; have HO5 := Lib.hid ho5; have HB51 := Lib.hid ((((Below.refl w.heap.size wr).alloc HSZ.out (.cells #[.int .u64 tn, .bool gn, .slice A2 dt.length c2'] 103)).alloc (by have := HSZ.out; simp; omega) (.cells #[.int .u64 tn, .bool gn, .slice A2 dt.length c2'] 103)).grown hg5 (by have := HSZ.out; simp; omega) (fun k hk => (HO.out.lt k hk).1)); clear ho5 hg5)
            go_roundg (gk - 1)
            case measure => have := HK.out; omega
            case rel =>
              refine ⟨j + 1, by have := HK.out; omega, by go_num, _, HO5.out, by rw [List.map_append, HMS.out, HF.out, List.append_assoc]; rfl, fun x hx => ?_, HB.out.trans (HB51.out.mono (Nat.le_refl _))⟩
              rcases List.mem_append.1 hx with hx | hx
              · exact HOK.out x hx
              · rw [List.mem_singleton] at hx
                subst hx
                exact HMem.out
          · have d1 : decide ((low : Int) < (tn : Int)) = false := by rw [decide_eq_false_iff_not]; omega
            have d2 : decide (low < tn) = false := by rw [decide_eq_false_iff_not]; omega
            have HF := Lib.hid (HN.out h1)
            have HBN := Lib.hid ((Below.refl w.heap.size wr).alloc HSZ.out (.cells #[.int .u64 tn, .bool gn, .slice A2 dt.length c2'] 103))
            clear h1 HY HN
            go_wp2
            go_roundg (gk - 1)
            case measure => have := HK.out; omega
            case rel => exact ⟨j + 1, by have := HK.out; omega, by go_num, ms, HO.out.allocs _, by rw [HF.out]; exact HMS.out, HOK.out, HB.out.trans HBN.out⟩
        · have hj' : j = l.length := by have := HK.out; omega
          have hlt : decide ((j : Int) < (l.length : Int)) = false := by simpa using hj
          have HJ := Lib.hid hj'
          clear hj'
          obtain ⟨A9, c9, rfl, k1, k2, k3, k4⟩ := HO.out.form
          have hml : ms.length = (kp ++ ((l.take l.length).filter fun v => decide (low < v.tm))).length := by rw [← HJ.out, ← HMS.out, List.length_map]
          have HQ := Lib.hid (show RetChM os (kp ++ ((l.take l.length).filter fun v => decide (low < v.tm))) w (.returned (.slice A9 ms.length c9)) wr from ⟨A9, c9, ms, by rw [hml], by rw [HMS.out, HJ.out], k1, k2, k3, k4, HOK.out, HB.out⟩)
          clear k1 k2 k3 k4 hml
          go_wp2
          go_ret
          exact HQ.out
    · have HT0 := Lib.hid (HT.out (HKP.out.symm.trans (keep_gone rfl)))
      go_wp2_with fail
      go_loopg [5, 29] l.length (fun q v i wr => ∃ j : Nat, j + q = l.length ∧ i = .int .i64 j ∧ TrimAtM os w wr w.heap.size v (kp ++ ((l.take j).filter fun v => decide (low < v.tm))))
      case atStart => exact ⟨0, by omega, rfl, HT0.out⟩
      case round =>
        obtain ⟨j, hk, rfl, ms, ho, hms, hok, hb⟩ := hrel
        have HK := Lib.hid hk
        have HB := Lib.hid hb
        have HO := Lib.hid ho
        have HOK := Lib.hid hok
        have hkl := HKL.out j
        rw [← hms, List.length_map] at hkl
        have HML := Lib.hid hkl
        have HMS := Lib.hid hms
        clear hk hb ho hok hms hkl
        by_cases hj : j < l.length
        · have hlt : decide ((j : Int) < (l.length : Int)) = true := by simpa using hj
          have hlt2 : decide (j < l.length) = true := by simpa using hj
          obtain ⟨b, o, A2, c2', rfl, _, c0, c1, c2, hs, htm, hmem⟩ := rowM_at HR.out HMap.out HB.out hj
          have HMem := Lib.hid hmem
          have HY := Lib.hid (fun h => trim_take_yes hj (low := low) h)
          have HN := Lib.hid (fun h => trim_take_no hj (low := low) h)
          have HS := Lib.hid hs
          have HTX := Lib.hid htm
          have hsz : w.heap.size ≤ wr.heap.size := HB.out.size
          have HSZ := Lib.hid hsz
          clear hs htm hsz hmem
          generalize l[j] = x at *
          obtain ⟨tn, gn, dt⟩ := x
          simp only at c0 c1 c2 HY HN HS HTX HMem
          by_cases h1 : low < tn
          · have d1 : decide ((low : Int) < (tn : Int)) = true := by rw [decide_eq_true_iff]; omega
            have d2 : decide (low < tn) = true := by rw [decide_eq_true_iff]; omega
            have HF := Lib.hid (HY.out h1)
            clear h1 HY HN
            go_wp2_with (at_builtin; refine append_row _ rfl _ _ 56 103 40 mvF mvInfo Try.underlying56 rfl w.heap.size _ ms rfl ((HO.out.allocs _).allocs _) (wr.heap.size + 1) (wr.heap.size + 1 + 1) (some ⟨wr.heap.size + 1, 0, none⟩) 1 1 [⟨⟨tn, gn, dt⟩, A2, c2'⟩] rfl rfl (fun e => by cases e) (RowG.one (heap_new2 wr _ _)) (by have := HML.out; simp [maxLen]; omega) (by have := HML.out; simp; omega) (by have := HSZ.out; simp; omega) ?_; intro v1 w5 ho5 hg5; have HO5 := Lib.hid ho5; have HB51 := Lib.hid ((((Below.refl w.heap.size wr).alloc HSZ.out (.cells #[.int .u64 tn, .bool gn, .slice A2 dt.length c2'] 103)).alloc (by have := HSZ.out; simp; omega) (.cells #[.int .u64 tn, .bool gn, .slice A2 dt.length c2'] 103)).grown hg5 (by have := HSZ.out; simp; omega) (fun k hk => (HO.out.lt k hk).1)); clear ho5 hg5)
            go_roundg (gk - 1)
            case measure => have := HK.out; omega
            case rel =>
              refine ⟨j + 1, by have := HK.out; omega, by go_num, _, HO5.out, by rw [List.map_append, HMS.out, HF.out, List.append_assoc]; rfl, fun x hx => ?_, HB.out.trans (HB51.out.mono (Nat.le_refl _))⟩
              rcases List.mem_append.1 hx with hx | hx
              · exact HOK.out x hx
              · rw [List.mem_singleton] at hx
                subst hx
                exact HMem.out
          · have d1 : decide ((low : Int) < (tn : Int)) = false := by rw [decide_eq_false_iff_not]; omega
            have d2 : decide (low < tn) = false := by rw [decide_eq_false_iff_not]; omega
            have HF := Lib.hid (HN.out h1)
            have HBN := Lib.hid ((Below.refl w.heap.size wr).alloc HSZ.out (.cells #[.int .u64 tn, .bool gn, .slice A2 dt.length c2'] 103))
            clear h1 HY HN
            go_wp2
            go_roundg (gk - 1)
            case measure => have := HK.out; omega
            case rel => exact ⟨j + 1, by have := HK.out; omega, by go_num, ms, HO.out.allocs _, by rw [HF.out]; exact HMS.out, HOK.out, HB.out.trans HBN.out⟩
        · have hj' : j = l.length := by have := HK.out; omega
          have hlt : decide ((j : Int) < (l.length : Int)) = false := by simpa using hj
          have HJ := Lib.hid hj'
          clear hj'
          obtain ⟨A9, c9, rfl, k1, k2, k3, k4⟩ := HO.out.form
          have hml : ms.length = (kp ++ ((l.take l.length).filter fun v => decide (low < v.tm))).length := by rw [← HJ.out, ← HMS.out, List.length_map]
          have HQ := Lib.hid (show RetChM os (kp ++ ((l.take l.length).filter fun v => decide (low < v.tm))) w (.returned (.slice A9 ms.length c9)) wr from ⟨A9, c9, ms, by rw [hml], by rw [HMS.out, HJ.out], k1, k2, k3, k4, HOK.out, HB.out⟩)
          clear k1 k2 k3 k4 hml
          go_wp2
          go_ret
          exact HQ.out
end Go.Proofs.Ytooegjdppeiccaa
