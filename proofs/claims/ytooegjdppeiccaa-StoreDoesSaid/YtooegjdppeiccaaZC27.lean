import Derived.Test.YtooegjdppeiccaaZC26
import Derived.Laws.Cover1
import Derived.Deep.LoopGhost
import Derived.Shelf.Abstract
import Derived.Lib.SliceRun
import Derived.Deep.DeepCutAuto
import Derived.IntWalk
import Derived.Test.YtooegjdppeiccaaZC25
/-
  Package chain: Same, by slices.EqualFunc.
-/
namespace Go.Proofs.Ytooegjdppeiccaa
open Go.RowKit

end Go.Proofs.Ytooegjdppeiccaa

/-
  Package chain: where a time stands in a chain, by halves; Find, Get, Last; a chain from a place on.
-/
namespace Go.Proofs.Ytooegjdppeiccaa
open Go.RowKit

/-- The first n versions are up to a time, and no other. -/
def SplitH (l : List Ver) (t n : Nat) : Prop := n ≤ l.length ∧ (∀ i (h : i < l.length), i < n → (l[i]'h).tm ≤ t) ∧ ∀ i (h : i < l.length), n ≤ i → t < (l[i]'h).tm
theorem SplitH.upto {l : List Ver} {t n : Nat} (h : SplitH l t n) : (l.filter fun v => decide (v.tm ≤ t)) = l.take n := by
  conv => lhs; rw [← List.take_append_drop n l, List.filter_append]
  rw [List.filter_eq_self.2, List.filter_eq_nil_iff.2, List.append_nil]
  · intro x hx
    obtain ⟨i, hi, rfl⟩ := List.mem_iff_getElem.1 hx
    rw [List.getElem_drop]
    rw [List.length_drop] at hi
    have := h.2.2 (n + i) (by omega) (by omega)
    simp; omega
  · intro x hx
    obtain ⟨i, hi, rfl⟩ := List.mem_iff_getElem.1 hx
    rw [List.getElem_take]
    rw [List.length_take] at hi
    have := h.2.1 i (by omega) (by omega)
    simpa using this
theorem SplitH.behind {l : List Ver} {t n : Nat} (h : SplitH l t n) : (l.filter fun v => decide (t < v.tm)) = l.drop n := by
  conv => lhs; rw [← List.take_append_drop n l, List.filter_append]
  rw [List.filter_eq_nil_iff.2, List.filter_eq_self.2, List.nil_append]
  · intro x hx
    obtain ⟨i, hi, rfl⟩ := List.mem_iff_getElem.1 hx
    rw [List.getElem_drop]
    rw [List.length_drop] at hi
    have := h.2.2 (n + i) (by omega) (by omega)
    simpa using this
  · intro x hx
    obtain ⟨i, hi, rfl⟩ := List.mem_iff_getElem.1 hx
    rw [List.getElem_take]
    rw [List.length_take] at hi
    have := h.2.1 i (by omega) (by omega)
    simp; omega
theorem SplitH.none_ {l : List Ver} {t : Nat} (h : SplitH l t 0) : findH l t = none := by
  unfold findH
  rw [h.upto]
  rfl
theorem SplitH.some_ {l : List Ver} {t n : Nat} (h : SplitH l t (n + 1)) : findH l t = some (l[n]'(by have := h.1; omega)) := by
  have hn : n < l.length := by have := h.1; omega
  unfold findH
  rw [h.upto, List.take_succ_eq_append_getElem hn, List.getLast?_append]
  rfl
theorem right_pairD {l : List Ver} (h : rightC l = true) : l.Pairwise (fun a b => a.tm < b.tm) := ((right_iff l 0).1 h).2
theorem rising_at {l : List Ver} (h : l.Pairwise (fun a b => a.tm < b.tm)) {i j : Nat} (hj : j < l.length) (hij : i ≤ j) : (l[i]'(by omega)).tm ≤ (l[j]'hj).tm := by
  rcases Nat.lt_or_eq_of_le hij with h1 | h1
  · exact Nat.le_of_lt (List.pairwise_iff_getElem.1 h i j (by omega) hj h1)
  · subst h1
    exact Nat.le_refl _

theorem dBeyond_any (v : Ver) (A : Option Addr) (c t B : Nat) (w : World) (hB : B < w.heap.size) (hc : w.cell? ⟨B, 0, none⟩ = some (.int .u64 t)) :
    Calls Try.prog 127 #[verVal v A c, .pointer (some ⟨B, 0, none⟩)] w fun e w' => e = .returned (.bool (decide (t < v.tm))) ∧ Below w.heap.size w w' := by
  obtain ⟨tm, gone, dat⟩ := v
  have hne : B ≠ w.heap.size := by omega
  have hca := Lib.cell?_alloc_some (.cells #[.int .u64 tm, .bool gone, .slice A dat.length c] 103) hc
  have HB := Lib.hid ((Below.refl _ w).alloc (Nat.le_refl _) (.cells #[.int .u64 tm, .bool gone, .slice A dat.length c] 103))
  unfold verVal
  go_enter Try.func127, Try.ntmps127
  go_wp2
  go_ret
  exact ⟨rfl, HB.out⟩

set_option maxRecDepth 100000 in
set_option maxHeartbeats 4000000 in
theorem dAhead_any (l : List Ver) (A : Option Addr) (c t B hi : Nat) (w : World) (hl : l.length ≤ 4294967296) (hr : RowH w hi A l) (hhi : hi ≤ w.heap.size) (hri : l.Pairwise (fun a b => a.tm < b.tm)) (hB : B < w.heap.size) (hc : w.cell? ⟨B, 0, none⟩ = some (.int .u64 t)) :
    Calls Try.prog 126 #[.slice A l.length c, .func (.func 127) #[] #[.pointer (some ⟨B, 0, none⟩)]] w fun e w' => (∃ n : Nat, e = .returned (.int .i64 n) ∧ SplitH l t n) ∧ Below w.heap.size w w' := by
  have eg : ∀ args w, (callFunc 127 args).run Try.prog w = .ok (.enter 127 args) w := enters_of Try.func127 (by kernel_rfl) rfl
  have HR := Lib.hid hr
  have HRI := Lib.hid hri
  have HC := Lib.hid hc
  clear hr hri hc
  go_enter Try.func126, Try.ntmps126
  go_wp2
  go_loopg [5, 6, 7] l.length (fun q vl vh _ wr => ∃ lo hi : Nat, vl = .int .i64 lo ∧ vh = .int .i64 hi ∧ lo ≤ hi ∧ hi ≤ l.length ∧ hi - lo ≤ q ∧ (∀ i (h : i < l.length), i < lo → (l[i]'h).tm ≤ t) ∧ (∀ i (h : i < l.length), hi ≤ i → t < (l[i]'h).tm) ∧ Below w.heap.size w wr)
  case atStart => exact ⟨0, l.length, rfl, rfl, Nat.zero_le _, Nat.le_refl _, by omega, fun i _ h => absurd h (by omega), fun i h h2 => absurd h (by omega), Below.refl _ _⟩
  case round =>
    obtain ⟨lo, hx, rfl, rfl, h1, h2, h3, h4, h5, hb⟩ := hrel
    have HB := Lib.hid hb
    have H3 := Lib.hid h3
    have H4 := Lib.hid h4
    have H5 := Lib.hid h5
    clear hb h3 h4 h5
    by_cases hlt : lo < hx
    · have d1 : decide ((lo : Int) < (hx : Int)) = true := by rw [decide_eq_true_iff]; omega
      obtain ⟨mid, hmid⟩ : ∃ m, lo + (hx - lo) / 2 = m := ⟨_, rfl⟩
      have hm1 : lo ≤ mid := by omega
      have hm2 : mid < hx := by omega
      have hml : mid < l.length := by omega
      have e1 : (hx : Int) - (lo : Int) = ((hx - lo : Nat) : Int) := by omega
      have e2 : (((hx - lo : Nat) : Int)).tdiv 2 = (((hx - lo) / 2 : Nat) : Int) := by rw [Int.tdiv_eq_ediv_of_nonneg (by omega)]; omega
      have e3 : (lo : Int) + (((hx - lo) / 2 : Nat) : Int) = (mid : Int) := by omega
      have hdm : decide ((mid : Int) < (l.length : Int)) = true := by rw [decide_eq_true_iff]; omega
      have hdm2 : decide (mid < l.length) = true := by rw [decide_eq_true_iff]; omega
      obtain ⟨b, o, A', c', rfl, _, c0, c1, c2, hs, htm⟩ := (HR.out.below HB.out hhi (Nat.le_refl _)).at_ hml
      have HCall := Lib.hid (dBeyond_any (l[mid]'hml) A' c' t B wr (Nat.lt_of_lt_of_le hB HB.out.size) ((HB.out.cell (p := ⟨B, 0, none⟩) hB).trans HC.out))
      have HLo := Lib.hid (fun (h : ¬ t < (l[mid]'hml).tm) => show ∀ i (hi : i < l.length), i < mid + 1 → (l[i]'hi).tm ≤ t from fun i hi hij => by
        have := rising_at HRI.out (i := i) hml (by omega)
        omega)
      have HHi := Lib.hid (fun (h : t < (l[mid]'hml).tm) => show ∀ i (hi : i < l.length), mid ≤ i → t < (l[i]'hi).tm from fun i hi hij => by
        have := rising_at HRI.out (i := mid) hi (by omega)
        omega)
      clear hs htm
      generalize l[mid] = x at *
      obtain ⟨tm, gone, dat⟩ := x
      unfold verVal at HCall
      simp only at c0 c1 c2 HCall HLo HHi
      by_cases hq : t < tm
      · rw [decide_eq_true hq] at HCall
        have HF := Lib.hid (HHi.out hq)
        clear hq HHi HLo
        go_wp2_with (go_at_fn 127; refine HCall.out.mono ?_; rintro e w' ⟨rfl, hb'⟩)
        go_roundg (gk - 1)
        case measure => have := H3.out; omega
        case rel => exact ⟨lo, mid, rfl, by go_num, by omega, by omega, by have := H3.out; omega, H4.out, HF.out, HB.out.trans (hb'.mono HB.out.size)⟩
      · rw [decide_eq_false hq] at HCall
        have HF := Lib.hid (HLo.out hq)
        clear hq HHi HLo
        go_wp2_with (go_at_fn 127; refine HCall.out.mono ?_; rintro e w' ⟨rfl, hb'⟩)
        go_roundg (gk - 1)
        case measure => have := H3.out; omega
        case rel => exact ⟨mid + 1, hx, by go_num, rfl, by omega, by omega, by have := H3.out; omega, HF.out, H5.out, HB.out.trans (hb'.mono HB.out.size)⟩
    · have d1 : decide ((lo : Int) < (hx : Int)) = false := by rw [decide_eq_false_iff_not]; omega
      have HN := Lib.hid (show SplitH l t lo from ⟨by omega, H4.out, fun i hi h => H5.out i hi (by omega)⟩)
      go_wp2
      go_ret
      exact ⟨⟨_, rfl, HN.out⟩, HB.out⟩

theorem dUpTo_any (l : List Ver) (A : Option Addr) (c t hi : Nat) (w : World) (hl : l.length ≤ 4294967296) (hr : RowH w hi A l) (hhi : hi ≤ w.heap.size) (hri : l.Pairwise (fun a b => a.tm < b.tm)) :
    Calls Try.prog 112 #[.slice A l.length c, .int .u64 t] w fun e w' => (∃ n : Nat, e = .returned (.int .i64 n) ∧ SplitH l t n) ∧ Below w.heap.size w w' := by
  have hb : Below w.heap.size w (w.alloc (.cells #[.int .u64 t] 22)) := (Below.refl _ w).alloc (Nat.le_refl _) _
  have HC := Lib.hid (dAhead_any l A c t w.heap.size hi (w.alloc (.cells #[.int .u64 t] 22)) hl (hr.below hb hhi (Nat.le_refl _)) (by simp; omega) hri (by simp) (by simp))
  have HB := Lib.hid hb
  clear hb hr
  go_enter Try.func112, Try.ntmps112
  go_wp2_with (go_at_call 126; refine HC.out.mono ?_; rintro e w' ⟨⟨z, rfl, hz⟩, hb'⟩)
  go_ret
  exact ⟨⟨_, rfl, hz⟩, HB.out.trans (hb'.mono HB.out.size)⟩
end Go.Proofs.Ytooegjdppeiccaa

/-
  Package chain: Find, Get, Last; a chain from a place on; a chain with memory of its own.
-/
namespace Go.Proofs.Ytooegjdppeiccaa
open Go.RowKit

theorem RetFind.no {w w' : World} (hb : Below w.heap.size w w') : RetFind none w (.returned (.tuple #[.agg #[.int .u64 0, .bool false, .slice none 0 0], .bool false])) w' := ⟨none, 0, rfl, Sl.none_ _ _, hb⟩
theorem RetFind.yes {v : Ver} {A : Option Addr} {c : Nat} {w w' : World} (h : Sl w' w'.heap.size A c v.dat) (hb : Below w.heap.size w w') : RetFind (some v) w (.returned (.tuple #[verVal v A c, .bool true])) w' := ⟨A, c, rfl, h, hb⟩
set_option maxRecDepth 100000 in
set_option maxHeartbeats 4000000 in
theorem dFind_any (l : List Ver) (A : Option Addr) (c t : Nat) (w : World) (hk : okLen l) (hr : ChH w w.heap.size A c l) (hri : rightC l = true) :
    Calls Try.prog 107 #[.slice A l.length c, .int .u64 t] w (RetFind (findH l t) w) := by
  obtain ⟨w0, hw0⟩ : ∃ y, w.alloc (.cells #[.int .u64 0, .bool false, .slice none 0 0] 103) = y := ⟨_, rfl⟩
  have b0 : Below w.heap.size w w0 := by rw [← hw0]; exact (Below.refl _ w).alloc (Nat.le_refl _) _
  have s0 : w0.heap.size = w.heap.size + 1 := by rw [← hw0]; simp
  have h0 : w0.heap[w.heap.size]? = some (.cells #[.int .u64 0, .bool false, .slice none 0 0] 103 (0, 0)) := by rw [← hw0]; exact heap_alloc_new w _
  have HC := Lib.hid (dUpTo_any l A c t w.heap.size w0 hk.1 (hr.2.2.2.below b0 (Nat.le_refl _) (Nat.le_refl _)) b0.size (right_pairD hri))
  have HR := Lib.hid hr.2.2.2
  have HK := Lib.hid hk
  have HB0 := Lib.hid b0
  have H0 := Lib.hid h0
  have HW0 := Lib.hid hw0
  have HS0 := Lib.hid s0
  clear hr hri hk b0 h0 hw0 s0
  go_enter Try.func107, Try.ntmps107
  go_upto_region 1 with fail
  rw [HW0.out]
  clear HW0
  go_wp2_with fail
  refine HC.out.mono ?_
  rintro r w1 ⟨⟨m, rfl, hsp⟩, hb⟩
  have HSP := Lib.hid hsp
  have HB1 := Lib.hid (HB0.out.trans (hb.mono HB0.out.size))
  have hx := heap_below H0.out hb (by have := HS0.out; omega)
  have HX := Lib.hid hx
  clear HC hsp hb H0 hx
  rcases Nat.eq_zero_or_pos m with rfl | hm
  · have f0 := frozen_of HX.out 0
    have f1 := frozen_of HX.out 1
    have f2 := frozen_of HX.out 2
    have z0 := cell_of_row w1 _ 0 _ _ _ HX.out
    have z1 := cell_of_row w1 _ 1 _ _ _ HX.out
    have z2 := cell_of_row w1 _ 2 _ _ _ HX.out
    have HZ := Lib.hid (box3_set HX.out (.int .u64 0) (.bool false) (.slice none 0 0))
    have HB3 := Lib.hid (Below.box3 HB1.out (b := w.heap.size) (Nat.le_refl _) (.int .u64 0) (.bool false) (.slice none 0 0))
    have HF := Lib.hid HSP.out.none_
    go_wp2
    have t0 := cell_of_row _ _ 0 _ _ _ HZ.out
    have t1 := cell_of_row _ _ 1 _ _ _ HZ.out
    have t2 := cell_of_row _ _ 2 _ _ _ HZ.out
    refine bodyPost_ret (v := .tuple #[.agg #[.int .u64 0, .bool false, .slice none 0 0], .bool false]) (by simp [results, Try.results107, go_sem, t0, t1, t2]) rfl ?_
    rw [HF.out]
    exact RetFind.no HB3.out
  · obtain ⟨k, hk⟩ : ∃ k, m = k + 1 := ⟨m - 1, by omega⟩
    have hkl : k < l.length := by have := HSP.out.1; omega
    have HF : Hid (findH l t = some (l[k]'hkl)) := Lib.hid (SplitH.some_ (by rw [← hk]; exact HSP.out))
    have e1 : ((m : Int) == 0) = false := by rw [beq_eq_false_iff_ne]; omega
    have e2 : ¬ ((m : Int) = 0) := by omega
    have e4 : (m : Int) - 1 = (k : Int) := by omega
    have hdm : decide ((k : Int) < (l.length : Int)) = true := by rw [decide_eq_true_iff]; omega
    have hdm2 : decide (k < l.length) = true := by rw [decide_eq_true_iff]; omega
    have hml : m ≤ 4294967296 := by have := HSP.out.1; have := HK.out.1; omega
    obtain ⟨b, o, A', c', rfl, _, c0, c1, c2, hs, htm⟩ := (HR.out.below HB1.out (Nat.le_refl _) (Nat.le_refl _)).at_ hkl
    have hdl : (l[k]'hkl).dat.length ≤ 4294967296 := Nat.le_trans (size_mem (List.getElem_mem hkl)) HK.out.2
    have HCall := Lib.hid (dOwn_any (l[k]'hkl) A' c' w.heap.size w1 hdl hs HB1.out.size)
    clear hs htm HSP hdl
    generalize l[k] = x at *
    obtain ⟨tm, gone, dat⟩ := x
    unfold verVal at HCall
    simp only at c0 c1 c2 HCall
    go_wp2_with fail
    refine HCall.out.mono ?_
    rintro r w2 hv
    obtain ⟨A9, c9, rfl, r1, r2, r3, hrd, hb2⟩ := hv
    have hlt1 : w.heap.size < w1.heap.size := lt_of_heap HX.out
    have hx := heap_below HX.out hb2 hlt1
    have f0 := frozen_of hx 0
    have f1 := frozen_of hx 1
    have f2 := frozen_of hx 2
    have z0 := cell_of_row w2 _ 0 _ _ _ hx
    have z1 := cell_of_row w2 _ 1 _ _ _ hx
    have z2 := cell_of_row w2 _ 2 _ _ _ hx
    have HZ := Lib.hid (box3_set hx (.int .u64 tm) (.bool gone) (.slice A9 dat.length c9))
    have HB3 := Lib.hid (Below.box3 (HB1.out.trans (hb2.mono HB1.out.size)) (b := w.heap.size) (Nat.le_refl _) (.int .u64 tm) (.bool gone) (.slice A9 dat.length c9))
    have HRD := Lib.hid (hrd.keep (w' := ((w2.setCell ⟨w.heap.size, 0, none⟩ (.int .u64 tm)).setCell ⟨w.heap.size, 1, none⟩ (.bool gone)).setCell ⟨w.heap.size, 2, none⟩ (.slice A9 dat.length c9)) fun p hp _ => World.cell?_of_block (box3_other (by omega) _ _ _))
    have HQ := Lib.hid (And.intro r1 (And.intro r2 r3))
    clear r1 r2 r3 hrd hb2 hx HCall hlt1
    unfold verVal
    go_wp2
    have t0 := cell_of_row _ _ 0 _ _ _ HZ.out
    have t1 := cell_of_row _ _ 1 _ _ _ HZ.out
    have t2 := cell_of_row _ _ 2 _ _ _ HZ.out
    refine bodyPost_ret (v := .tuple #[.agg #[.int .u64 tm, .bool gone, .slice A9 dat.length c9], .bool true]) (by simp [results, Try.results107, go_sem, t0, t1, t2]) rfl ?_
    rw [HF.out]
    refine RetFind.yes (v := ⟨tm, gone, dat⟩) ⟨HQ.out.1, HQ.out.2.1, HQ.out.2.2, HRD.out.wide (Nat.zero_le _) ?_⟩ HB3.out
    simp only [box_size]
    exact Nat.le_refl _

set_option maxRecDepth 100000 in
set_option maxHeartbeats 4000000 in
theorem dGet_any (l : List Ver) (A : Option Addr) (c : Nat) (t : Nat) (w : World) (hk : okLen l) (hr : ChH w w.heap.size A c l) (hri : rightC l = true) :
    Calls Try.prog 88 #[.slice A l.length c, .int .u64 t] w (RetGet (getH l t) w) := by
  have HC := Lib.hid (dFind_any l A c t w hk hr hri)
  unfold getH
  clear hr
  generalize findH l t = F at *
  go_enter Try.func88, Try.ntmps88
  go_wp2_with fail
  refine HC.out.mono ?_
  rintro r w1 ⟨A', c', rfl, hsl, hb⟩
  have HB := Lib.hid hb
  have HS := Lib.hid hsl
  have HB2 := Lib.hid (hb.alloc hb.size (.cells #[.int .u64 (optH F).tm, .bool (optH F).gone, .slice A' (optH F).dat.length c'] 103))
  have HB3 := Lib.hid ((Below.refl w1.heap.size w1).alloc (Nat.le_refl _) (.cells #[.int .u64 (optH F).tm, .bool (optH F).gone, .slice A' (optH F).dat.length c'] 103))
  clear hb hsl HC
  cases F with
  | none =>
    have e0 : verVal (optH none) A' c' = .agg #[.int .u64 0, .bool false, .slice A' 0 c'] := rfl
    have e1 : (none : Option Ver).isSome = false := rfl
    rw [e0, e1]
    go_wp2
    refine bodyPost_ret (v := .tuple #[.slice none 0 0, .bool false]) (by simp [results, Try.results88, go_sem]) rfl ?_
    exact ⟨none, 0, rfl, Sl.none_ _ _, HB2.out⟩
  | some v =>
    obtain ⟨tm, gone, dat⟩ := v
    have e0 : verVal (optH (some ⟨tm, gone, dat⟩)) A' c' = .agg #[.int .u64 tm, .bool gone, .slice A' dat.length c'] := rfl
    have e1 : (some (⟨tm, gone, dat⟩ : Ver)).isSome = true := rfl
    rw [e0, e1]
    clear e0 e1
    cases gone
    · go_wp2
      refine bodyPost_ret (v := .tuple #[.slice A' dat.length c', .bool true]) (by simp [results, Try.results88, go_sem]) rfl ?_
      exact ⟨A', c', rfl, HS.out.below HB3.out (Nat.le_refl _) HB3.out.size, HB2.out⟩
    · go_wp2
      refine bodyPost_ret (v := .tuple #[.slice none 0 0, .bool false]) (by simp [results, Try.results88, go_sem]) rfl ?_
      exact ⟨none, 0, rfl, Sl.none_ _ _, HB2.out⟩


theorem last_at {l : List Ver} {k : Nat} (hk : k + 1 = l.length) : lastH l = (l[k]'(by omega)).tm := by
  unfold lastH
  have e : l.length - 1 = k := by omega
  rw [List.getLast?_eq_getElem?, e, List.getElem?_eq_getElem (by omega)]
set_option maxRecDepth 100000 in
set_option maxHeartbeats 4000000 in
theorem dLast_any (l : List Ver) (A : Option Addr) (c hi : Nat) (w : World) (hl : l.length ≤ 9223372036854775807) (hr : RowH w hi A l) :
    Calls Try.prog 90 #[.slice A l.length c] w fun r w' => r = .returned (.int .u64 (lastH l : Nat)) ∧ w = w' := by
  rcases Nat.eq_zero_or_pos l.length with h0 | h0
  · have hl0 : lastH l = 0 := by rw [List.eq_nil_of_length_eq_zero h0]; rfl
    rw [hl0, h0]
    go_enter Try.func90, Try.ntmps90
    go_wp2
    go_ret
    exact ⟨rfl, rfl⟩
  · obtain ⟨k, hk⟩ : ∃ k, k + 1 = l.length := ⟨l.length - 1, by omega⟩
    have hkl : k < l.length := by omega
    rw [last_at hk]
    obtain ⟨b, o, A', c', rfl, _, c0, c1, c2, hs, htm⟩ := hr.at_ hkl
    clear hs htm hr
    generalize l[k] = x at *
    obtain ⟨tm, gone, dat⟩ := x
    simp only at c0 c1 c2
    generalize l.length = n at *
    have e1 : ((n : Int) == 0) = false := by rw [beq_eq_false_iff_ne]; omega
    have e2 : ¬ ((n : Int) = 0) := by omega
    have e4 : (n : Int) - 1 = (k : Int) := by omega
    have hdm : decide ((k : Int) < (n : Int)) = true := by rw [decide_eq_true_iff]; omega
    have hdm2 : decide (k < n) = true := by rw [decide_eq_true_iff]; omega
    go_enter Try.func90, Try.ntmps90
    go_wp2
    go_ret
    exact ⟨rfl, rfl⟩

/-- Where a chain begins from a place on. -/
def cutA (A : Option Addr) (n j : Nat) : Option Addr := if n = j then A else A.map (·.add (j * 3))
theorem RowH.drop {w : World} {hi : Nat} {A : Option Addr} {l : List Ver} (h : RowH w hi A l) (j : Nat) (hj : j ≤ l.length) : RowH w hi (cutA A l.length j) (l.drop j) := by
  obtain ⟨ms, rfl, h1, h2⟩ := h
  rw [List.length_map] at hj ⊢
  exact ⟨ms.drop j, by rw [List.map_drop], RowG.drop mvF h1 j ms.length hj (Nat.le_refl _), fun x hx => h2 x (List.mem_of_mem_drop hx)⟩
set_option maxRecDepth 100000 in
theorem dCut_any (n : Nat) (A : Option Addr) (c j : Nat) (w : World) (hl : n ≤ 9223372036854775807) (hc : n ≤ c) (hj : j ≤ n) :
    Calls Try.prog 114 #[.slice A n c, .int .i64 j] w fun r w' => r = .returned (.slice (cutA A n j) (n - j) (n - j)) ∧ w = w' := by
  have h1 : (0 : Int) ≤ (j : Int) := by omega
  have h2 : (j : Int) ≤ (n : Int) := by omega
  have h3 : (n : Int) ≤ (c : Int) := by omega
  by_cases h : n = j
  · subst h
    rw [show cutA A n n = A from if_pos rfl, Nat.sub_self]
    go_enter Try.func114, Try.ntmps114
    go_wp2
    go_ret
    exact ⟨rfl, rfl⟩
  · rw [show cutA A n j = A.map (·.add (j * 3)) from if_neg h]
    go_enter Try.func114, Try.ntmps114
    go_wp2
    go_ret
    exact ⟨rfl, rfl⟩
end Go.Proofs.Ytooegjdppeiccaa
