import Derived.Test.YtdenlghnfefbnaaZC23
import Derived.Test.YtdenlghnfefbnaaZC17
import Derived.Deep.DeepCutAuto
/-
  Package chain: Find, Get, Last; a chain from a place on; a chain with memory of its own.
-/
namespace Go.Proofs.Ytdenlghnfefbnaa
open Go.RowKit

theorem RetFind.no {w w' : World} (hb : Below w.heap.size w w') : RetFind none w (.returned (.tuple #[.agg #[.int .u64 0, .bool false, .slice none 0 0], .bool false])) w' := ⟨none, 0, rfl, Sl.none_ _ _, hb⟩
theorem RetFind.yes {v : Ver} {A : Option Addr} {c : Nat} {w w' : World} (h : Sl w' w'.heap.size A c v.dat) (hb : Below w.heap.size w w') : RetFind (some v) w (.returned (.tuple #[verVal v A c, .bool true])) w' := ⟨A, c, rfl, h, hb⟩
set_option maxRecDepth 100000 in
set_option maxHeartbeats 4000000 in
theorem dFind_any (l : List Ver) (A : Option Addr) (c t : Nat) (w : World) (hk : okLen l) (hr : ChH w w.heap.size A c l) (hri : rightC l = true) :
    Calls Try.prog 66 #[.slice A l.length c, .int .u64 t] w (RetFind (findH l t) w) := by
  obtain ⟨w0, hw0⟩ : ∃ y, w.alloc (.cells #[.int .u64 0, .bool false, .slice none 0 0] 72) = y := ⟨_, rfl⟩
  have b0 : Below w.heap.size w w0 := by rw [← hw0]; exact (Below.refl _ w).alloc (Nat.le_refl _) _
  have s0 : w0.heap.size = w.heap.size + 1 := by rw [← hw0]; simp
  have h0 : w0.heap[w.heap.size]? = some (.cells #[.int .u64 0, .bool false, .slice none 0 0] 72 (0, 0)) := by rw [← hw0]; exact heap_alloc_new w _
  have HC := Lib.hid (dUpTo_any l A c t w.heap.size w0 hk.1 (hr.2.2.2.below b0 (Nat.le_refl _) (Nat.le_refl _)) b0.size (right_pairD hri))
  have HR := Lib.hid hr.2.2.2
  have HK := Lib.hid hk
  have HB0 := Lib.hid b0
  have H0 := Lib.hid h0
  have HW0 := Lib.hid hw0
  have HS0 := Lib.hid s0
  clear hr hri hk b0 h0 hw0 s0
  go_enter Try.func66, Try.ntmps66
  go_upto_region 1 with fail
  rw [HW0.out]
  clear HW0
  go_wp2_with fail
  refine HC.out.mono ?_
  rintro r w1 ⟨⟨m, rfl, hsp⟩, hb⟩
  have HSP := Lib.hid hsp
  have HB1 := Lib.hid (HB0.out.trans (hb.mono HB0.out.size))
  have hx := heap_below H0.out hb (by have := HS0.out; omega)
  have HX := Lib.hid hx
  clear HC hsp hb H0 hx
  rcases Nat.eq_zero_or_pos m with rfl | hm
  · have f0 := frozen_of HX.out 0
    have f1 := frozen_of HX.out 1
    have f2 := frozen_of HX.out 2
    have z0 := cell_of_row w1 _ 0 _ _ _ HX.out
    have z1 := cell_of_row w1 _ 1 _ _ _ HX.out
    have z2 := cell_of_row w1 _ 2 _ _ _ HX.out
    have HZ := Lib.hid (box3_set HX.out (.int .u64 0) (.bool false) (.slice none 0 0))
    have HB3 := Lib.hid (Below.box3 HB1.out (b := w.heap.size) (Nat.le_refl _) (.int .u64 0) (.bool false) (.slice none 0 0))
    have HF := Lib.hid HSP.out.none_
    go_wp2
    have t0 := cell_of_row _ _ 0 _ _ _ HZ.out
    have t1 := cell_of_row _ _ 1 _ _ _ HZ.out
    have t2 := cell_of_row _ _ 2 _ _ _ HZ.out
    refine bodyPost_ret (v := .tuple #[.agg #[.int .u64 0, .bool false, .slice none 0 0], .bool false]) (by simp [results, Try.results66, go_sem, t0, t1, t2]) rfl ?_
    rw [HF.out]
    exact RetFind.no HB3.out
  · obtain ⟨k, hk⟩ : ∃ k, m = k + 1 := ⟨m - 1, by omega⟩
    have hkl : k < l.length := by have := HSP.out.1; omega
    have HF : Hid (findH l t = some (l[k]'hkl)) := Lib.hid (SplitH.some_ (by rw [← hk]; exact HSP.out))
    have e1 : ((m : Int) == 0) = false := by rw [beq_eq_false_iff_ne]; omega
    have e2 : ¬ ((m : Int) = 0) := by omega
    have e4 : (m : Int) - 1 = (k : Int) := by omega
    have hdm : decide ((k : Int) < (l.length : Int)) = true := by rw [decide_eq_true_iff]; omega
    have hdm2 : decide (k < l.length) = true := by rw [decide_eq_true_iff]; omega
    have hml : m ≤ 4294967296 := by have := HSP.out.1; have := HK.out.1; omega
    obtain ⟨b, o, A', c', rfl, _, c0, c1, c2, hs, htm⟩ := (HR.out.below HB1.out (Nat.le_refl _) (Nat.le_refl _)).at_ hkl
    have hdl : (l[k]'hkl).dat.length ≤ 4294967296 := Nat.le_trans (size_mem (List.getElem_mem hkl)) HK.out.2
    have HCall := Lib.hid (dOwn_any (l[k]'hkl) A' c' w.heap.size w1 hdl hs HB1.out.size)
    clear hs htm HSP hdl
    generalize l[k] = x at *
    obtain ⟨tm, gone, dat⟩ := x
    unfold verVal at HCall
    simp only at c0 c1 c2 HCall
    go_wp2_with fail
    refine HCall.out.mono ?_
    rintro r w2 hv
    obtain ⟨A9, c9, rfl, r1, r2, r3, hrd, hb2⟩ := hv
    have hlt1 : w.heap.size < w1.heap.size := lt_of_heap HX.out
    have hx := heap_below HX.out hb2 hlt1
    have f0 := frozen_of hx 0
    have f1 := frozen_of hx 1
    have f2 := frozen_of hx 2
    have z0 := cell_of_row w2 _ 0 _ _ _ hx
    have z1 := cell_of_row w2 _ 1 _ _ _ hx
    have z2 := cell_of_row w2 _ 2 _ _ _ hx
    have HZ := Lib.hid (box3_set hx (.int .u64 tm) (.bool gone) (.slice A9 dat.length c9))
    have HB3 := Lib.hid (Below.box3 (HB1.out.trans (hb2.mono HB1.out.size)) (b := w.heap.size) (Nat.le_refl _) (.int .u64 tm) (.bool gone) (.slice A9 dat.length c9))
    have HRD := Lib.hid (hrd.keep (w' := ((w2.setCell ⟨w.heap.size, 0, none⟩ (.int .u64 tm)).setCell ⟨w.heap.size, 1, none⟩ (.bool gone)).setCell ⟨w.heap.size, 2, none⟩ (.slice A9 dat.length c9)) fun p hp _ => World.cell?_of_block (box3_other (by omega) _ _ _))
    have HQ := Lib.hid (And.intro r1 (And.intro r2 r3))
    clear r1 r2 r3 hrd hb2 hx HCall hlt1
    unfold verVal
    go_wp2
    have t0 := cell_of_row _ _ 0 _ _ _ HZ.out
    have t1 := cell_of_row _ _ 1 _ _ _ HZ.out
    have t2 := cell_of_row _ _ 2 _ _ _ HZ.out
    refine bodyPost_ret (v := .tuple #[.agg #[.int .u64 tm, .bool gone, .slice A9 dat.length c9], .bool true]) (by simp [results, Try.results66, go_sem, t0, t1, t2]) rfl ?_
    rw [HF.out]
    refine RetFind.yes (v := ⟨tm, gone, dat⟩) ⟨HQ.out.1, HQ.out.2.1, HQ.out.2.2, HRD.out.wide (Nat.zero_le _) ?_⟩ HB3.out
    simp only [box_size]
    exact Nat.le_refl _

set_option maxRecDepth 100000 in
set_option maxHeartbeats 4000000 in
theorem dGet_any (l : List Ver) (A : Option Addr) (c : Nat) (t : Nat) (w : World) (hk : okLen l) (hr : ChH w w.heap.size A c l) (hri : rightC l = true) :
    Calls Try.prog 52 #[.slice A l.length c, .int .u64 t] w (RetGet (getH l t) w) := by
  have HC := Lib.hid (dFind_any l A c t w hk hr hri)
  unfold getH
  clear hr
  generalize findH l t = F at *
  go_enter Try.func52, Try.ntmps52
  go_wp2_with fail
  refine HC.out.mono ?_
  rintro r w1 ⟨A', c', rfl, hsl, hb⟩
  have HB := Lib.hid hb
  have HS := Lib.hid hsl
  have HB2 := Lib.hid (hb.alloc hb.size (.cells #[.int .u64 (optH F).tm, .bool (optH F).gone, .slice A' (optH F).dat.length c'] 72))
  have HB3 := Lib.hid ((Below.refl w1.heap.size w1).alloc (Nat.le_refl _) (.cells #[.int .u64 (optH F).tm, .bool (optH F).gone, .slice A' (optH F).dat.length c'] 72))
  clear hb hsl HC
  cases F with
  | none =>
    have e0 : verVal (optH none) A' c' = .agg #[.int .u64 0, .bool false, .slice A' 0 c'] := rfl
    have e1 : (none : Option Ver).isSome = false := rfl
    rw [e0, e1]
    go_wp2
    refine bodyPost_ret (v := .tuple #[.slice none 0 0, .bool false]) (by simp [results, Try.results52, go_sem]) rfl ?_
    exact ⟨none, 0, rfl, Sl.none_ _ _, HB2.out⟩
  | some v =>
    obtain ⟨tm, gone, dat⟩ := v
    have e0 : verVal (optH (some ⟨tm, gone, dat⟩)) A' c' = .agg #[.int .u64 tm, .bool gone, .slice A' dat.length c'] := rfl
    have e1 : (some (⟨tm, gone, dat⟩ : Ver)).isSome = true := rfl
    rw [e0, e1]
    clear e0 e1
    cases gone
    · go_wp2
      refine bodyPost_ret (v := .tuple #[.slice A' dat.length c', .bool true]) (by simp [results, Try.results52, go_sem]) rfl ?_
      exact ⟨A', c', rfl, HS.out.below HB3.out (Nat.le_refl _) HB3.out.size, HB2.out⟩
    · go_wp2
      refine bodyPost_ret (v := .tuple #[.slice none 0 0, .bool false]) (by simp [results, Try.results52, go_sem]) rfl ?_
      exact ⟨none, 0, rfl, Sl.none_ _ _, HB2.out⟩


theorem last_at {l : List Ver} {k : Nat} (hk : k + 1 = l.length) : lastH l = (l[k]'(by omega)).tm := by
  unfold lastH
  have e : l.length - 1 = k := by omega
  rw [List.getLast?_eq_getElem?, e, List.getElem?_eq_getElem (by omega)]
set_option maxRecDepth 100000 in
set_option maxHeartbeats 4000000 in
theorem dLast_any (l : List Ver) (A : Option Addr) (c hi : Nat) (w : World) (hl : l.length ≤ 9223372036854775807) (hr : RowH w hi A l) :
    Calls Try.prog 58 #[.slice A l.length c] w fun r w' => r = .returned (.int .u64 (lastH l : Nat)) ∧ w = w' := by
  rcases Nat.eq_zero_or_pos l.length with h0 | h0
  · have hl0 : lastH l = 0 := by rw [List.eq_nil_of_length_eq_zero h0]; rfl
    rw [hl0, h0]
    go_enter Try.func58, Try.ntmps58
    go_wp2
    go_ret
    exact ⟨rfl, rfl⟩
  · obtain ⟨k, hk⟩ : ∃ k, k + 1 = l.length := ⟨l.length - 1, by omega⟩
    have hkl : k < l.length := by omega
    rw [last_at hk]
    obtain ⟨b, o, A', c', rfl, _, c0, c1, c2, hs, htm⟩ := hr.at_ hkl
    clear hs htm hr
    generalize l[k] = x at *
    obtain ⟨tm, gone, dat⟩ := x
    simp only at c0 c1 c2
    generalize l.length = n at *
    have e1 : ((n : Int) == 0) = false := by rw [beq_eq_false_iff_ne]; omega
    have e2 : ¬ ((n : Int) = 0) := by omega
    have e4 : (n : Int) - 1 = (k : Int) := by omega
    have hdm : decide ((k : Int) < (n : Int)) = true := by rw [decide_eq_true_iff]; omega
    have hdm2 : decide (k < n) = true := by rw [decide_eq_true_iff]; omega
    go_enter Try.func58, Try.ntmps58
    go_wp2
    go_ret
    exact ⟨rfl, rfl⟩

/-- Where a chain begins from a place on. -/
def cutA (A : Option Addr) (n j : Nat) : Option Addr := if n = j then A else A.map (·.add (j * 3))
theorem RowH.drop {w : World} {hi : Nat} {A : Option Addr} {l : List Ver} (h : RowH w hi A l) (j : Nat) (hj : j ≤ l.length) : RowH w hi (cutA A l.length j) (l.drop j) := by
  obtain ⟨ms, rfl, h1, h2⟩ := h
  rw [List.length_map] at hj ⊢
  exact ⟨ms.drop j, by rw [List.map_drop], RowG.drop mvF h1 j ms.length hj (Nat.le_refl _), fun x hx => h2 x (List.mem_of_mem_drop hx)⟩
set_option maxRecDepth 100000 in
theorem dCut_any (n : Nat) (A : Option Addr) (c j : Nat) (w : World) (hl : n ≤ 9223372036854775807) (hc : n ≤ c) (hj : j ≤ n) :
    Calls Try.prog 76 #[.slice A n c, .int .i64 j] w fun r w' => r = .returned (.slice (cutA A n j) (n - j) (n - j)) ∧ w = w' := by
  have h1 : (0 : Int) ≤ (j : Int) := by omega
  have h2 : (j : Int) ≤ (n : Int) := by omega
  have h3 : (n : Int) ≤ (c : Int) := by omega
  by_cases h : n = j
  · subst h
    rw [show cutA A n n = A from if_pos rfl, Nat.sub_self]
    go_enter Try.func76, Try.ntmps76
    go_wp2
    go_ret
    exact ⟨rfl, rfl⟩
  · rw [show cutA A n j = A.map (·.add (j * 3)) from if_neg h]
    go_enter Try.func76, Try.ntmps76
    go_wp2
    go_ret
    exact ⟨rfl, rfl⟩
end Go.Proofs.Ytdenlghnfefbnaa
