import Derived.Test.YtooegjdppeiccaaZC08
import Derived.Deep.LoopGhost
import Derived.RegionTactic
/-
  The statements' own helpers on stores: writes, few; room, May.
-/
namespace Go.Proofs.Ytooegjdppeiccaa
open Go.RowKit

/-- Few writes, with little in each. -/
def fewWr (w : Wr) : Bool := decide (w.key.length ≤ 300) && decide (w.dat.length ≤ 5000)
def writesB (l : List Wr) : Bool := l.all fewWr && decide (l.length ≤ 20)
def fewOp (o : OpS) : Bool := writesB o.l && decide (o.lo.length ≤ 300) && decide (o.hi.length ≤ 300)
def fewO (l : List OpS) : Bool := l.all fewOp && decide (l.length ≤ 40)
theorem writes_ok {l : List Wr} (h : writesB l = true) : okW l := by
  unfold writesB at h
  rw [Bool.and_eq_true, List.all_eq_true, decide_eq_true_iff] at h
  refine ⟨by omega, fun w hw => ?_⟩
  have := h.1 w hw
  unfold fewWr at this
  simp only [Bool.and_eq_true, decide_eq_true_eq] at this
  omega
theorem fewO_yes {l : List OpS} (h : fewO l = true) : (∀ o ∈ l, okW o.l ∧ o.lo.length ≤ 300 ∧ o.hi.length ≤ 300) ∧ l.length ≤ 40 := by
  unfold fewO at h
  rw [Bool.and_eq_true, List.all_eq_true, decide_eq_true_iff] at h
  refine ⟨fun o ho => ?_, h.2⟩
  have := h.1 o ho
  unfold fewOp at this
  simp only [Bool.and_eq_true, decide_eq_true_eq] at this
  exact ⟨writes_ok this.1.1, this.1.2, this.2⟩

set_option maxRecDepth 100000 in
set_option maxHeartbeats 2000000 in
theorem writes_any (l : List Wr) (A : Option Addr) (c lo hi : Nat) (w : World) (hl : l.length ≤ 9223372036854775807) (hr : RowW w lo hi A l) (hhi : hi ≤ w.heap.size) :
    Calls Try.prog 58 #[.slice A l.length c] w fun r w' => r = .returned (.bool (writesB l)) ∧ Below w.heap.size w w' := by
  have HR := Lib.hid hr
  clear hr
  go_enter Try.func58, Try.ntmps58
  go_wp2
  go_loopg [7] l.length (fun q i wr => ∃ j : Nat, j + q = l.length ∧ i = .int .i64 j ∧ (l.take j).all fewWr = true ∧ Below w.heap.size w wr)
  case atStart => exact ⟨0, by omega, rfl, rfl, Below.refl _ _⟩
  case round =>
    obtain ⟨j, hk, rfl, hall, hb⟩ := hrel
    have HK := Lib.hid hk
    have HA := Lib.hid hall
    have HB := Lib.hid hb
    clear hall hb hk
    by_cases hj : j < l.length
    · have hlt : decide ((j : Int) < (l.length : Int)) = true := by simpa using hj
      have hlt2 : decide (j < l.length) = true := by simpa using hj
      obtain ⟨b, o, A', c', rfl, _, c0, c1, c2, hs, hkl⟩ := (HR.out.below HB.out hhi (Nat.le_refl _)).at_ hj
      have HTS := Lib.hid (show l.take (j + 1) = l.take j ++ [l[j]] from by rw [List.take_succ_eq_append_getElem hj])
      have HM := Lib.hid (List.getElem_mem hj)
      have hdl : l[j].dat.length ≤ maxLen := Nat.le_trans hs.1 hs.2.1
      clear hs
      generalize l[j] = x at *
      obtain ⟨key, gone, dat⟩ := x
      simp only at c0 c1 c2 hdl hkl
      rw [← bs_size] at hkl
      have HBN := Lib.hid (HB.out.alloc HB.out.size (.cells #[.string (bs key), .bool gone, .slice A' dat.length c'] 84))
      unfold maxLen at hdl hkl
      have HBad := Lib.hid (fun (h : fewWr ⟨key, gone, dat⟩ = false) => show writesB l = false by
        unfold writesB
        rw [Bool.and_eq_false_iff]
        left
        rw [List.all_eq_false]
        exact ⟨_, HM.out, by rw [h]; simp⟩)
      by_cases h1 : 300 < (bs key).size
      · have d1 : decide (300 < ((bs key).size : Int)) = true := by rw [decide_eq_true_iff]; omega
        have d2 : decide (300 < (bs key).size) = true := by rw [decide_eq_true_iff]; omega
        have HF := Lib.hid (HBad.out (by unfold fewWr; rw [bs_size] at h1; rw [decide_eq_false (show ¬ key.length ≤ 300 by omega)]; rfl))
        clear h1
        go_wp2
        go_ret
        rw [HF.out]
        exact ⟨rfl, HBN.out⟩
      · have d1 : decide (300 < ((bs key).size : Int)) = false := by rw [decide_eq_false_iff_not]; omega
        have d2 : decide (300 < (bs key).size) = false := by rw [decide_eq_false_iff_not]; omega
        by_cases h2 : 5000 < dat.length
        · have d3 : decide (5000 < (dat.length : Int)) = true := by rw [decide_eq_true_iff]; omega
          have d4 : decide (5000 < dat.length) = true := by rw [decide_eq_true_iff]; omega
          have HF := Lib.hid (HBad.out (by unfold fewWr; simp only; rw [decide_eq_false (show ¬ dat.length ≤ 5000 by omega), Bool.and_false]))
          clear h1 h2
          go_wp2
          go_ret
          rw [HF.out]
          exact ⟨rfl, HBN.out⟩
        · have d3 : decide (5000 < (dat.length : Int)) = false := by rw [decide_eq_false_iff_not]; omega
          have d4 : decide (5000 < dat.length) = false := by rw [decide_eq_false_iff_not]; omega
          have HF := Lib.hid (show fewWr ⟨key, gone, dat⟩ = true by unfold fewWr; rw [bs_size] at h1; simp only [Bool.and_eq_true, decide_eq_true_eq]; omega)
          clear h1 h2
          go_wp2
          go_roundg (gk - 1)
          case measure => have := HK.out; omega
          case rel => exact ⟨j + 1, by have := HK.out; omega, by go_num, by rw [HTS.out, List.all_append, HA.out]; simp [HF.out], HBN.out⟩
    · have hj' : j = l.length := by have := HK.out; omega
      have hlt : decide ((j : Int) < (l.length : Int)) = false := by simpa using hj
      have HF := Lib.hid (show writesB l = decide ((l.length : Int) ≤ 20) by
        have h := HA.out
        rw [hj', List.take_length] at h
        unfold writesB
        rw [h, Bool.true_and, decide_eq_decide]
        omega)
      clear hj'
      go_wp2
      go_ret
      rw [HF.out]
      exact ⟨rfl, HB.out⟩

set_option maxRecDepth 100000 in
set_option maxHeartbeats 4000000 in
theorem fewO_any (l : List OpS) (A : Option Addr) (c hi : Nat) (w : World) (hl : l.length ≤ 9223372036854775807) (hr : RowO w hi A l) (hhi : hi ≤ w.heap.size) :
    Calls Try.prog 12 #[.slice A l.length c] w fun r w' => r = .returned (.bool (fewO l)) ∧ Below w.heap.size w w' := by
  have HR := Lib.hid hr
  clear hr
  go_enter Try.func12, Try.ntmps12
  go_wp2
  go_loopg [7] l.length (fun q i wr => ∃ j : Nat, j + q = l.length ∧ i = .int .i64 j ∧ (l.take j).all fewOp = true ∧ Below w.heap.size w wr)
  case atStart => exact ⟨0, by omega, rfl, rfl, Below.refl _ _⟩
  case round =>
    obtain ⟨j, hk, rfl, hall, hb⟩ := hrel
    have HK := Lib.hid hk
    have HA := Lib.hid hall
    have HB := Lib.hid hb
    clear hall hb hk
    by_cases hj : j < l.length
    · have hlt : decide ((j : Int) < (l.length : Int)) = true := by simpa using hj
      have hlt2 : decide (j < l.length) = true := by simpa using hj
      obtain ⟨b, o, A', c', rfl, _, c0, c1, c2, c3, c4, c5, hok⟩ := (HR.out.below HB.out hhi (Nat.le_refl _)).at_ hj
      have HTS := Lib.hid (show l.take (j + 1) = l.take j ++ [l[j]] from by rw [List.take_succ_eq_append_getElem hj])
      have HM := Lib.hid (List.getElem_mem hj)
      generalize l[j] = x at *
      obtain ⟨what, ws, low, tm, klo, khi⟩ := x
      obtain ⟨_, _, _, k1, k2, k3⟩ := hok
      simp only at c0 c1 c2 c3 c4 c5 k1 k2 k3
      have hwl : ws.length ≤ 9223372036854775807 := by have := k3.1; have := k3.2.1; unfold maxLen at *; omega
      rw [← bs_size] at k1 k2
      have hba : Below wr.heap.size wr (wr.alloc (.cells #[.int .i64 what, .slice A' ws.length c', .int .u64 low, .int .u64 tm, .string (bs klo), .string (bs khi)] 39)) := (Below.refl _ wr).alloc (Nat.le_refl _) _
      have hsz := HB.out.size
      have HW := Lib.hid (writes_any ws A' c' 0 hi (wr.alloc (.cells #[.int .i64 what, .slice A' ws.length c', .int .u64 low, .int .u64 tm, .string (bs klo), .string (bs khi)] 39)) hwl (k3.2.2.2.below hba (by omega) (Nat.le_refl _)) (by simp; omega))
      have hnew := heap_alloc_new wr (.cells #[.int .i64 what, .slice A' ws.length c', .int .u64 low, .int .u64 tm, .string (bs klo), .string (bs khi)] 39)
      have HNew := Lib.hid hnew
      have HBA := Lib.hid (HB.out.trans (hba.mono hsz))
      unfold maxLen at k1 k2
      clear k3 hba hnew
      have HBad := Lib.hid (fun (h : fewOp ⟨what, ws, low, tm, klo, khi⟩ = false) => show fewO l = false by
        unfold fewO
        rw [Bool.and_eq_false_iff]
        left
        rw [List.all_eq_false]
        exact ⟨_, HM.out, by rw [h]; simp⟩)
      have HOp : Hid (fewOp ⟨what, ws, low, tm, klo, khi⟩ = (writesB ws && decide (klo.length ≤ 300) && decide (khi.length ≤ 300))) := Lib.hid rfl
      generalize writesB ws = wb at *
      cases wb
      · have HF := Lib.hid (HBad.out (by rw [HOp.out]; rfl))
        go_wp2_with fail
        refine HW.out.mono ?_
        rintro r w2 ⟨rfl, hb2⟩
        have HB2 := Lib.hid (HBA.out.trans (hb2.mono HBA.out.size))
        clear hb2
        go_wp2_with fail
        go_ret
        rw [HF.out]
        exact ⟨rfl, HB2.out⟩
      · go_wp2_with fail
        refine HW.out.mono ?_
        rintro r w2 ⟨rfl, hb2⟩
        have HB2 := Lib.hid (HBA.out.trans (hb2.mono HBA.out.size))
        have hx := heap_below HNew.out hb2 (by simp)
        have x4 := cell_of_row w2 _ 4 _ _ _ hx
        have x5 := cell_of_row w2 _ 5 _ _ _ hx
        clear hb2 hx
        by_cases h1 : 300 < (bs klo).size
        · have d1 : decide (300 < ((bs klo).size : Int)) = true := by rw [decide_eq_true_iff]; omega
          have d2 : decide (300 < (bs klo).size) = true := by rw [decide_eq_true_iff]; omega
          have HF := Lib.hid (HBad.out (by rw [HOp.out]; rw [bs_size] at h1; rw [decide_eq_false (show ¬ klo.length ≤ 300 by omega)]; rfl))
          clear h1
          go_wp2_with fail
          go_ret
          rw [HF.out]
          exact ⟨rfl, HB2.out⟩
        · have d1 : decide (300 < ((bs klo).size : Int)) = false := by rw [decide_eq_false_iff_not]; omega
          have d2 : decide (300 < (bs klo).size) = false := by rw [decide_eq_false_iff_not]; omega
          by_cases h2 : 300 < (bs khi).size
          · have d3 : decide (300 < ((bs khi).size : Int)) = true := by rw [decide_eq_true_iff]; omega
            have d4 : decide (300 < (bs khi).size) = true := by rw [decide_eq_true_iff]; omega
            have HF := Lib.hid (HBad.out (by rw [HOp.out]; rw [bs_size] at h2; rw [decide_eq_false (show ¬ khi.length ≤ 300 by omega), Bool.and_false]))
            clear h1 h2
            go_wp2_with fail
            go_ret
            rw [HF.out]
            exact ⟨rfl, HB2.out⟩
          · have d3 : decide (300 < ((bs khi).size : Int)) = false := by rw [decide_eq_false_iff_not]; omega
            have d4 : decide (300 < (bs khi).size) = false := by rw [decide_eq_false_iff_not]; omega
            have HF := Lib.hid (show fewOp ⟨what, ws, low, tm, klo, khi⟩ = true by
              rw [HOp.out]
              rw [bs_size] at h1 h2
              simp only [Bool.true_and, Bool.and_eq_true, decide_eq_true_eq]
              omega)
            clear h1 h2
            go_wp2_with fail
            go_roundg (gk - 1)
            case measure => have := HK.out; omega
            case rel => exact ⟨j + 1, by have := HK.out; omega, by go_num, by rw [HTS.out, List.all_append, HA.out]; simp [HF.out], HB2.out⟩
    · have hj' : j = l.length := by have := HK.out; omega
      have hlt : decide ((j : Int) < (l.length : Int)) = false := by simpa using hj
      have HF := Lib.hid (show fewO l = decide ((l.length : Int) ≤ 40) by
        have h := HA.out
        rw [hj', List.take_length] at h
        unfold fewO
        rw [h, Bool.true_and, decide_eq_decide]
        omega)
      clear hj'
      go_wp2
      go_ret
      rw [HF.out]
      exact ⟨rfl, HB.out⟩

theorem room_any (n : Int) (w : World) : Calls Try.prog 60 #[.int .i64 n] w fun r w' => r = .returned (.bool (roomB n)) ∧ w = w' := by
  unfold roomB
  by_cases h1 : 1 ≤ n
  · have d1 : decide (1 ≤ n) = true := by rw [decide_eq_true_iff]; exact h1
    go_enter Try.func60, Try.ntmps60
    go_wp2
    go_ret
    exact ⟨by simp [d1], rfl⟩
  · have d1 : decide (1 ≤ n) = false := by rw [decide_eq_false_iff_not]; exact h1
    go_enter Try.func60, Try.ntmps60
    go_wp2
    go_ret
    exact ⟨by simp [d1], rfl⟩
set_option maxRecDepth 100000 in
set_option maxHeartbeats 4000000 in
theorem may_any (L : LimS) (m r v : Int) (w : World) : Calls Try.prog 14 #[limVal L m r v] w fun r w' => r = .returned (.bool (MayS L)) ∧ Below w.heap.size w w' := by
  obtain ⟨keys, vers, byts, last⟩ := L
  have HB := Lib.hid ((Below.refl _ w).alloc (Nat.le_refl _) (.cells #[.int .i64 keys, .int .i64 vers, .int .i64 byts, .int .i64 m, .int .i64 r, .int .i64 v, .int .u64 last] 24))
  have H1 := Lib.hid (fun W => room_any keys W)
  have H2 := Lib.hid (fun W => room_any vers W)
  have H3 := Lib.hid (fun W => room_any byts W)
  have HM : Hid (MayS ⟨keys, vers, byts, last⟩ = (roomB keys && roomB vers && roomB byts && decide (1 ≤ last))) := Lib.hid rfl
  have d0 : decide (1 ≤ (last : Int)) = decide (1 ≤ last) := by rw [decide_eq_decide]; omega
  unfold limVal
  simp only
  rw [HM.out]
  generalize roomB keys = r1 at *
  generalize roomB vers = r2 at *
  generalize roomB byts = r3 at *
  clear HM
  cases r1
  · go_enter Try.func14, Try.ntmps14
    go_wp2_with fail
    refine (H1.out _).mono ?_
    rintro r w' ⟨rfl, rfl⟩
    go_wp2_with fail
    go_ret
    exact ⟨rfl, HB.out⟩
  · cases r2
    · go_enter Try.func14, Try.ntmps14
      go_wp2_with fail
      refine (H1.out _).mono ?_
      rintro r w' ⟨rfl, rfl⟩
      go_wp2_with fail
      refine (H2.out _).mono ?_
      rintro r w' ⟨rfl, rfl⟩
      go_wp2_with fail
      go_ret
      exact ⟨rfl, HB.out⟩
    · cases r3
      · go_enter Try.func14, Try.ntmps14
        go_wp2_with fail
        refine (H1.out _).mono ?_
        rintro r w' ⟨rfl, rfl⟩
        go_wp2_with fail
        refine (H2.out _).mono ?_
        rintro r w' ⟨rfl, rfl⟩
        go_wp2_with fail
        refine (H3.out _).mono ?_
        rintro r w' ⟨rfl, rfl⟩
        go_wp2_with fail
        go_ret
        exact ⟨rfl, HB.out⟩
      · go_enter Try.func14, Try.ntmps14
        go_wp2_with fail
        refine (H1.out _).mono ?_
        rintro r w' ⟨rfl, rfl⟩
        go_wp2_with fail
        refine (H2.out _).mono ?_
        rintro r w' ⟨rfl, rfl⟩
        go_wp2_with fail
        refine (H3.out _).mono ?_
        rintro r w' ⟨rfl, rfl⟩
        go_wp2_with fail
        go_ret
        exact ⟨by simp, HB.out⟩
end Go.Proofs.Ytooegjdppeiccaa
