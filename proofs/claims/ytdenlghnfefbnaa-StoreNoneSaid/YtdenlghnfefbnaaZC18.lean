import Derived.Test.YtdenlghnfefbnaaZC02
import Derived.Deep.LoopGhost
import Derived.RegionTactic
/-
  Chains, the document's own answers and the statements' own helpers: few, Right, Size.
-/
namespace Go.Proofs.Ytdenlghnfefbnaa
open Go.RowKit

/-- Few versions, with little in each. -/
def fewVer (v : Ver) : Bool := decide (v.dat.length ≤ 1000)
def fewH (l : List Ver) : Bool := l.all fewVer && decide (l.length ≤ 100)
theorem fewH_yes {l : List Ver} (h : fewH l = true) : (∀ x ∈ l, x.dat.length ≤ 1000) ∧ l.length ≤ 100 := by
  unfold fewH at h
  rw [Bool.and_eq_true, List.all_eq_true] at h
  exact ⟨fun x hx => by simpa [fewVer] using h.1 x hx, by simpa using h.2⟩


theorem rightH_cons (t : Nat) (v : Ver) (l : List Ver) : rightH t (v :: l) = (decide (t < v.tm) && okVer v && rightH v.tm l) := rfl
set_option maxRecDepth 100000 in
set_option maxHeartbeats 2000000 in
theorem refRight_any (l : List Ver) (A : Option Addr) (c : Nat) (hi : Nat) (w : World) (hl : l.length ≤ 9223372036854775807) (hr : RowH w hi A l) (hhi : hi ≤ w.heap.size) :
    Calls Try.prog 81 #[.slice A l.length c] w fun r w' => r = .returned (.bool (rightC l)) ∧ Below w.heap.size w w' := by
  have HR := Lib.hid hr
  clear hr
  go_enter Try.func81, Try.ntmps81
  go_wp2
  go_loopg [3, 8] l.length (fun q v i wr => ∃ j t : Nat, j + q = l.length ∧ v = .int .u64 t ∧ i = .int .i64 j ∧ rightC l = rightH t (l.drop j) ∧ t < 18446744073709551616 ∧ Below w.heap.size w wr)
  case atStart => exact ⟨0, 0, by omega, rfl, rfl, rfl, by omega, Below.refl _ _⟩
  case round =>
    obtain ⟨j, t, hk, rfl, rfl, hall, ht, hb⟩ := hrel
    have HK := Lib.hid hk
    have HA := Lib.hid hall
    have HB := Lib.hid hb
    clear hall hb hk
    by_cases hj : j < l.length
    · have hlt : decide ((j : Int) < (l.length : Int)) = true := by simpa using hj
      have hlt2 : decide (j < l.length) = true := by simpa using hj
      obtain ⟨b, o, A', c', rfl, _, c0, c1, c2, hs, htm⟩ := (HR.out.below HB.out hhi (Nat.le_refl _)).at_ hj
      have HDR := Lib.hid (HA.out.trans (by rw [List.drop_eq_getElem_cons hj, rightH_cons]))
      have hdl : l[j].dat.length ≤ maxLen := Nat.le_trans hs.1 hs.2.1
      clear hs
      generalize l[j] = x at *
      obtain ⟨tm, gone, dat⟩ := x
      simp only at c0 c1 c2 hdl HDR htm
      have hbn := HB.out.alloc HB.out.size (.cells #[.int .u64 tm, .bool gone, .slice A' dat.length c'] 72)
      have HBN := Lib.hid hbn
      have HT := Lib.hid htm
      unfold maxLen at hdl
      clear hbn htm
      by_cases h1 : tm ≤ t
      · have d1 : decide ((tm : Int) ≤ (t : Int)) = true := by rw [decide_eq_true_iff]; omega
        have d2 : decide (tm ≤ t) = true := by rw [decide_eq_true_iff]; omega
        have HF := Lib.hid (HDR.out.trans (by rw [decide_eq_false (by omega : ¬ t < tm), Bool.false_and, Bool.false_and]))
        clear h1
        go_wp2
        go_ret
        rw [HF.out]
        exact ⟨rfl, HBN.out⟩
      · have d1 : decide ((tm : Int) ≤ (t : Int)) = false := by rw [decide_eq_false_iff_not]; omega
        have d2 : decide (tm ≤ t) = false := by rw [decide_eq_false_iff_not]; omega
        have HF := Lib.hid (HDR.out.trans (by rw [decide_eq_true (by omega : t < tm), Bool.true_and]))
        clear h1
        cases gone
        · have HF2 := Lib.hid (HF.out.trans (by rw [show okVer ⟨tm, false, dat⟩ = true from rfl, Bool.true_and]))
          go_wp2
          go_roundg (gk - 1)
          case measure => have := HK.out; omega
          case rel => exact ⟨j + 1, tm, by have := HK.out; omega, rfl, by go_num, HF2.out, HT.out, HBN.out⟩
        · by_cases h0 : 0 < dat.length
          · have d3 : decide (0 < (dat.length : Int)) = true := by rw [decide_eq_true_iff]; omega
            have d4 : decide (0 < dat.length) = true := by rw [decide_eq_true_iff]; omega
            have HF2 := Lib.hid (HF.out.trans (by rw [show okVer ⟨tm, true, dat⟩ = false by show (!(true && decide (0 < dat.length))) = false; rw [d4]; rfl, Bool.false_and]))
            clear h0
            go_wp2
            go_ret
            rw [HF2.out]
            exact ⟨rfl, HBN.out⟩
          · have d3 : decide (0 < (dat.length : Int)) = false := by rw [decide_eq_false_iff_not]; omega
            have d4 : decide (0 < dat.length) = false := by rw [decide_eq_false_iff_not]; omega
            have HF2 := Lib.hid (HF.out.trans (by rw [show okVer ⟨tm, true, dat⟩ = true by show (!(true && decide (0 < dat.length))) = true; rw [d4]; rfl, Bool.true_and]))
            clear h0
            go_wp2
            go_roundg (gk - 1)
            case measure => have := HK.out; omega
            case rel => exact ⟨j + 1, tm, by have := HK.out; omega, rfl, by go_num, HF2.out, HT.out, HBN.out⟩
    · have hj' : j = l.length := by have := HK.out; omega
      have hlt : decide ((j : Int) < (l.length : Int)) = false := by simpa using hj
      have HF := Lib.hid (show rightC l = true by rw [HA.out, hj', List.drop_length]; rfl)
      clear hj'
      go_wp2
      go_ret
      rw [HF.out]
      exact ⟨rfl, HB.out⟩

theorem sizeH_app (a b : List Ver) : sizeH (a ++ b) = sizeH a + sizeH b := by
  induction a with
  | nil => simp [sizeH]
  | cons x a ih =>
    have e : ∀ l : List Ver, sizeH (x :: l) = x.dat.length + sizeH l := fun l => by simp [sizeH]
    rw [List.cons_append, e, e, ih]
    omega
theorem sizeH_take {l : List Ver} {j : Nat} (hj : j < l.length) : sizeH (l.take (j + 1)) = sizeH (l.take j) + (l[j]'hj).dat.length := by
  rw [List.take_succ_eq_append_getElem hj, sizeH_app]
  rfl
theorem sizeH_take_le (l : List Ver) (j : Nat) : sizeH (l.take j) ≤ sizeH l := by
  have h : sizeH l = sizeH (l.take j) + sizeH (l.drop j) := by
    rw [← sizeH_app, List.take_append_drop]
  omega
set_option maxRecDepth 100000 in
set_option maxHeartbeats 2000000 in
theorem refSize_any (l : List Ver) (A : Option Addr) (c : Nat) (hi : Nat) (w : World) (hl : l.length ≤ 9223372036854775807) (hsz : sizeH l ≤ 9223372036854775807) (hr : RowH w hi A l) (hhi : hi ≤ w.heap.size) :
    Calls Try.prog 48 #[.slice A l.length c] w fun r w' => r = .returned (.int .i64 (sizeH l : Nat)) ∧ Below w.heap.size w w' := by
  have HR := Lib.hid hr
  have HS := Lib.hid hsz
  clear hr hsz
  go_enter Try.func48, Try.ntmps48
  go_wp2
  go_loopg [3, 8] l.length (fun q v i wr => ∃ j n : Nat, j + q = l.length ∧ v = .int .i64 n ∧ i = .int .i64 j ∧ n = sizeH (l.take j) ∧ Below w.heap.size w wr)
  case atStart => exact ⟨0, 0, by omega, rfl, rfl, rfl, Below.refl _ _⟩
  case round =>
    obtain ⟨j, n, hk, rfl, rfl, hall, hb⟩ := hrel
    have HK := Lib.hid hk
    have HA := Lib.hid hall
    have HB := Lib.hid hb
    clear hall hb hk
    by_cases hj : j < l.length
    · have hlt : decide ((j : Int) < (l.length : Int)) = true := by simpa using hj
      have hlt2 : decide (j < l.length) = true := by simpa using hj
      obtain ⟨b, o, A', c', rfl, _, c0, c1, c2, hs, htm⟩ := (HR.out.below HB.out hhi (Nat.le_refl _)).at_ hj
      have HN := Lib.hid (show n + l[j].dat.length = sizeH (l.take (j + 1)) by rw [sizeH_take hj, HA.out])
      have hle : n + l[j].dat.length ≤ 9223372036854775807 := by rw [HN.out]; exact Nat.le_trans (sizeH_take_le _ _) HS.out
      clear hs htm
      generalize l[j] = x at *
      obtain ⟨tm, gone, dat⟩ := x
      simp only at c0 c1 c2 hle HN
      have hbn := HB.out.alloc HB.out.size (.cells #[.int .u64 tm, .bool gone, .slice A' dat.length c'] 72)
      have HBN := Lib.hid hbn
      clear hbn
      go_wp2
      go_roundg (gk - 1)
      case measure => have := HK.out; omega
      case rel => exact ⟨j + 1, n + dat.length, by have := HK.out; omega, by go_num, by go_num, HN.out, HBN.out⟩
    · have hj' : j = l.length := by have := HK.out; omega
      have hlt : decide ((j : Int) < (l.length : Int)) = false := by simpa using hj
      have HF := Lib.hid (show n = sizeH l by rw [HA.out, hj', List.take_length])
      clear hj'
      go_wp2
      go_ret
      rw [← HF.out]
      exact ⟨rfl, HB.out⟩
end Go.Proofs.Ytdenlghnfefbnaa
