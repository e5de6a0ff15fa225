import Derived.Test.YtdenlghnfefbnaaZC22
import Derived.Laws.Cover1
import Derived.Deep.LoopGhost
import Derived.Shelf.Abstract
import Derived.Lib.SliceRun
import Derived.Deep.DeepCutAuto
import Derived.IntWalk
/-
  Package chain: Same, by slices.EqualFunc.
-/
namespace Go.Proofs.Ytdenlghnfefbnaa
open Go.RowKit

end Go.Proofs.Ytdenlghnfefbnaa

/-
  Package chain: where a time stands in a chain, by halves; Find, Get, Last; a chain from a place on.
-/
namespace Go.Proofs.Ytdenlghnfefbnaa
open Go.RowKit

/-- The first n versions are up to a time, and no other. -/
def SplitH (l : List Ver) (t n : Nat) : Prop := n ≤ l.length ∧ (∀ i (h : i < l.length), i < n → (l[i]'h).tm ≤ t) ∧ ∀ i (h : i < l.length), n ≤ i → t < (l[i]'h).tm
theorem SplitH.upto {l : List Ver} {t n : Nat} (h : SplitH l t n) : (l.filter fun v => decide (v.tm ≤ t)) = l.take n := by
  conv => lhs; rw [← List.take_append_drop n l, List.filter_append]
  rw [List.filter_eq_self.2, List.filter_eq_nil_iff.2, List.append_nil]
  · intro x hx
    obtain ⟨i, hi, rfl⟩ := List.mem_iff_getElem.1 hx
    rw [List.getElem_drop]
    rw [List.length_drop] at hi
    have := h.2.2 (n + i) (by omega) (by omega)
    simp; omega
  · intro x hx
    obtain ⟨i, hi, rfl⟩ := List.mem_iff_getElem.1 hx
    rw [List.getElem_take]
    rw [List.length_take] at hi
    have := h.2.1 i (by omega) (by omega)
    simpa using this
theorem SplitH.behind {l : List Ver} {t n : Nat} (h : SplitH l t n) : (l.filter fun v => decide (t < v.tm)) = l.drop n := by
  conv => lhs; rw [← List.take_append_drop n l, List.filter_append]
  rw [List.filter_eq_nil_iff.2, List.filter_eq_self.2, List.nil_append]
  · intro x hx
    obtain ⟨i, hi, rfl⟩ := List.mem_iff_getElem.1 hx
    rw [List.getElem_drop]
    rw [List.length_drop] at hi
    have := h.2.2 (n + i) (by omega) (by omega)
    simpa using this
  · intro x hx
    obtain ⟨i, hi, rfl⟩ := List.mem_iff_getElem.1 hx
    rw [List.getElem_take]
    rw [List.length_take] at hi
    have := h.2.1 i (by omega) (by omega)
    simp; omega
theorem SplitH.none_ {l : List Ver} {t : Nat} (h : SplitH l t 0) : findH l t = none := by
  unfold findH
  rw [h.upto]
  rfl
theorem SplitH.some_ {l : List Ver} {t n : Nat} (h : SplitH l t (n + 1)) : findH l t = some (l[n]'(by have := h.1; omega)) := by
  have hn : n < l.length := by have := h.1; omega
  unfold findH
  rw [h.upto, List.take_succ_eq_append_getElem hn, List.getLast?_append]
  rfl
theorem right_pairD {l : List Ver} (h : rightC l = true) : l.Pairwise (fun a b => a.tm < b.tm) := ((right_iff l 0).1 h).2
theorem rising_at {l : List Ver} (h : l.Pairwise (fun a b => a.tm < b.tm)) {i j : Nat} (hj : j < l.length) (hij : i ≤ j) : (l[i]'(by omega)).tm ≤ (l[j]'hj).tm := by
  rcases Nat.lt_or_eq_of_le hij with h1 | h1
  · exact Nat.le_of_lt (List.pairwise_iff_getElem.1 h i j (by omega) hj h1)
  · subst h1
    exact Nat.le_refl _

theorem dBeyond_any (v : Ver) (A : Option Addr) (c t B : Nat) (w : World) (hB : B < w.heap.size) (hc : w.cell? ⟨B, 0, none⟩ = some (.int .u64 t)) :
    Calls Try.prog 83 #[verVal v A c, .pointer (some ⟨B, 0, none⟩)] w fun e w' => e = .returned (.bool (decide (t < v.tm))) ∧ Below w.heap.size w w' := by
  obtain ⟨tm, gone, dat⟩ := v
  have hne : B ≠ w.heap.size := by omega
  have hca := Lib.cell?_alloc_some (.cells #[.int .u64 tm, .bool gone, .slice A dat.length c] 72) hc
  have HB := Lib.hid ((Below.refl _ w).alloc (Nat.le_refl _) (.cells #[.int .u64 tm, .bool gone, .slice A dat.length c] 72))
  unfold verVal
  go_enter Try.func83, Try.ntmps83
  go_wp2
  go_ret
  exact ⟨rfl, HB.out⟩

set_option maxRecDepth 100000 in
set_option maxHeartbeats 4000000 in
theorem dAhead_any (l : List Ver) (A : Option Addr) (c t B hi : Nat) (w : World) (hl : l.length ≤ 4294967296) (hr : RowH w hi A l) (hhi : hi ≤ w.heap.size) (hri : l.Pairwise (fun a b => a.tm < b.tm)) (hB : B < w.heap.size) (hc : w.cell? ⟨B, 0, none⟩ = some (.int .u64 t)) :
    Calls Try.prog 82 #[.slice A l.length c, .func (.func 83) #[] #[.pointer (some ⟨B, 0, none⟩)]] w fun e w' => (∃ n : Nat, e = .returned (.int .i64 n) ∧ SplitH l t n) ∧ Below w.heap.size w w' := by
  have eg : ∀ args w, (callFunc 83 args).run Try.prog w = .ok (.enter 83 args) w := enters_of Try.func83 (by kernel_rfl) rfl
  have HR := Lib.hid hr
  have HRI := Lib.hid hri
  have HC := Lib.hid hc
  clear hr hri hc
  go_enter Try.func82, Try.ntmps82
  go_wp2
  go_loopg [5, 6, 7] l.length (fun q vl vh _ wr => ∃ lo hi : Nat, vl = .int .i64 lo ∧ vh = .int .i64 hi ∧ lo ≤ hi ∧ hi ≤ l.length ∧ hi - lo ≤ q ∧ (∀ i (h : i < l.length), i < lo → (l[i]'h).tm ≤ t) ∧ (∀ i (h : i < l.length), hi ≤ i → t < (l[i]'h).tm) ∧ Below w.heap.size w wr)
  case atStart => exact ⟨0, l.length, rfl, rfl, Nat.zero_le _, Nat.le_refl _, by omega, fun i _ h => absurd h (by omega), fun i h h2 => absurd h (by omega), Below.refl _ _⟩
  case round =>
    obtain ⟨lo, hx, rfl, rfl, h1, h2, h3, h4, h5, hb⟩ := hrel
    have HB := Lib.hid hb
    have H3 := Lib.hid h3
    have H4 := Lib.hid h4
    have H5 := Lib.hid h5
    clear hb h3 h4 h5
    by_cases hlt : lo < hx
    · have d1 : decide ((lo : Int) < (hx : Int)) = true := by rw [decide_eq_true_iff]; omega
      obtain ⟨mid, hmid⟩ : ∃ m, lo + (hx - lo) / 2 = m := ⟨_, rfl⟩
      have hm1 : lo ≤ mid := by omega
      have hm2 : mid < hx := by omega
      have hml : mid < l.length := by omega
      have e1 : (hx : Int) - (lo : Int) = ((hx - lo : Nat) : Int) := by omega
      have e2 : (((hx - lo : Nat) : Int)).tdiv 2 = (((hx - lo) / 2 : Nat) : Int) := by rw [Int.tdiv_eq_ediv_of_nonneg (by omega)]; omega
      have e3 : (lo : Int) + (((hx - lo) / 2 : Nat) : Int) = (mid : Int) := by omega
      have hdm : decide ((mid : Int) < (l.length : Int)) = true := by rw [decide_eq_true_iff]; omega
      have hdm2 : decide (mid < l.length) = true := by rw [decide_eq_true_iff]; omega
      obtain ⟨b, o, A', c', rfl, _, c0, c1, c2, hs, htm⟩ := (HR.out.below HB.out hhi (Nat.le_refl _)).at_ hml
      have HCall := Lib.hid (dBeyond_any (l[mid]'hml) A' c' t B wr (Nat.lt_of_lt_of_le hB HB.out.size) ((HB.out.cell (p := ⟨B, 0, none⟩) hB).trans HC.out))
      have HLo := Lib.hid (fun (h : ¬ t < (l[mid]'hml).tm) => show ∀ i (hi : i < l.length), i < mid + 1 → (l[i]'hi).tm ≤ t from fun i hi hij => by
        have := rising_at HRI.out (i := i) hml (by omega)
        omega)
      have HHi := Lib.hid (fun (h : t < (l[mid]'hml).tm) => show ∀ i (hi : i < l.length), mid ≤ i → t < (l[i]'hi).tm from fun i hi hij => by
        have := rising_at HRI.out (i := mid) hi (by omega)
        omega)
      clear hs htm
      generalize l[mid] = x at *
      obtain ⟨tm, gone, dat⟩ := x
      unfold verVal at HCall
      simp only at c0 c1 c2 HCall HLo HHi
      by_cases hq : t < tm
      · rw [decide_eq_true hq] at HCall
        have HF := Lib.hid (HHi.out hq)
        clear hq HHi HLo
        go_wp2_with (go_at_fn 83; refine HCall.out.mono ?_; rintro e w' ⟨rfl, hb'⟩)
        go_roundg (gk - 1)
        case measure => have := H3.out; omega
        case rel => exact ⟨lo, mid, rfl, by go_num, by omega, by omega, by have := H3.out; omega, H4.out, HF.out, HB.out.trans (hb'.mono HB.out.size)⟩
      · rw [decide_eq_false hq] at HCall
        have HF := Lib.hid (HLo.out hq)
        clear hq HHi HLo
        go_wp2_with (go_at_fn 83; refine HCall.out.mono ?_; rintro e w' ⟨rfl, hb'⟩)
        go_roundg (gk - 1)
        case measure => have := H3.out; omega
        case rel => exact ⟨mid + 1, hx, by go_num, rfl, by omega, by omega, by have := H3.out; omega, HF.out, H5.out, HB.out.trans (hb'.mono HB.out.size)⟩
    · have d1 : decide ((lo : Int) < (hx : Int)) = false := by rw [decide_eq_false_iff_not]; omega
      have HN := Lib.hid (show SplitH l t lo from ⟨by omega, H4.out, fun i hi h => H5.out i hi (by omega)⟩)
      go_wp2
      go_ret
      exact ⟨⟨_, rfl, HN.out⟩, HB.out⟩

theorem dUpTo_any (l : List Ver) (A : Option Addr) (c t hi : Nat) (w : World) (hl : l.length ≤ 4294967296) (hr : RowH w hi A l) (hhi : hi ≤ w.heap.size) (hri : l.Pairwise (fun a b => a.tm < b.tm)) :
    Calls Try.prog 74 #[.slice A l.length c, .int .u64 t] w fun e w' => (∃ n : Nat, e = .returned (.int .i64 n) ∧ SplitH l t n) ∧ Below w.heap.size w w' := by
  have hb : Below w.heap.size w (w.alloc (.cells #[.int .u64 t] 22)) := (Below.refl _ w).alloc (Nat.le_refl _) _
  have HC := Lib.hid (dAhead_any l A c t w.heap.size hi (w.alloc (.cells #[.int .u64 t] 22)) hl (hr.below hb hhi (Nat.le_refl _)) (by simp; omega) hri (by simp) (by simp))
  have HB := Lib.hid hb
  clear hb hr
  go_enter Try.func74, Try.ntmps74
  go_wp2_with (go_at_call 82; refine HC.out.mono ?_; rintro e w' ⟨⟨z, rfl, hz⟩, hb'⟩)
  go_ret
  exact ⟨⟨_, rfl, hz⟩, HB.out.trans (hb'.mono HB.out.size)⟩
end Go.Proofs.Ytdenlghnfefbnaa
