import Derived.Test.YtdpbllacfljmoaaGreatZD07
import Derived.Test.YtdpbllacfljmoaaGreatZD04
import Derived.Deep.LoopGhost
import Derived.Deep.DeepCutAuto
import Derived.Test.YtdpbllacfljmoaaGreatZD05
import Derived.Test.YtdpbllacfljmoaaGreatZD03
set_option maxRecDepth 100000
set_option maxHeartbeats 16000000
set_option linter.unusedVariables false
namespace Go.Proofs.YtdpbllacfljmoaaGreat
open Go.RowKit
def q25 (o : OpT) : Bool := decide (o.w.key.length ≤ 300) && decide (o.w.dat.length ≤ 5000) && decide (o.hi.length ≤ 300)
def fewT (l : List OpT) : Bool := l.all q25 && decide (l.length ≤ 80)
theorem qeu {l : List OpT} (h : fewT l = true) : (∀ o ∈ l, q2h o.w ∧ o.hi.length ≤ 300) ∧ l.length ≤ 80 := by
 unfold fewT at h
 rw [Bool.and_eq_true, List.all_eq_true, decide_eq_true_iff] at h
 refine ⟨fun o ho => ?_, h.2⟩
 have := h.1 o ho
 unfold q25 at this
 simp only [Bool.and_eq_true, decide_eq_true_eq] at this
 exact ⟨⟨this.1.1, this.1.2⟩, this.2⟩
theorem qfq {l : List OpT} {j : Nat} (hj : j < l.length) (h : q25 (l[j]'hj) = false) : fewT l = false := by
 unfold fewT
 rw [Bool.and_eq_false_iff]
 left
 rw [List.all_eq_false]
 exact ⟨_, List.getElem_mem hj, by rw [h]; simp⟩
theorem qcD {l : List OpT} {j : Nat} (hj : j < l.length) (h : (l.take j).all q25 = true) (h2 : q25 (l[j]'hj) = true) : (l.take (j + 1)).all q25 = true := by
 rw [List.take_succ_eq_append_getElem hj, List.all_append, h]
 simp [h2]
theorem ChOT.len {w : World} {hi : Nat} {A : Option Addr} {c : Nat} {l : List OpT} (h : ChOT w hi A c l) : l.length ≤ 9223372036854775807 := by have := h.1; have := h.2.1; unfold maxLen at this; omega
theorem qet (l : List OpT) (A : Option Addr) (c hi0 : Nat) (w : World) (hl : ChOT w hi0 A c l) (hhi : hi0 ≤ w.heap.size) :
  Calls Tryz.prog 13 #[.slice A l.length c] w fun r w' => r = .returned (.bool (fewT l)) ∧ Below w.heap.size w w' := by
 have hll := hl.len
 have HR := qh hl
 have HHi := qh hhi
 clear hl hhi
 go_enter Tryz.func13, Tryz.ntmps13
 go_wp2
 go_loopg [7] l.length (fun q i wr => ∃ j : Nat, j + q = l.length ∧ i = .int .i64 j ∧ (l.take j).all q25 = true ∧ Below w.heap.size w wr)
 case atStart => exact ⟨0, by omega, rfl, rfl, Below.refl _ _⟩
 case round =>
  obtain ⟨j, hk, rfl, hall, hb⟩ := hrel
  have HK := qh hk
  have HA := qh hall
  have HB := qh hb
  clear hall hb hk
  by_cases hj : j < l.length
  ·have hlt : decide ((j : Int) < (l.length : Int)) = true := by simpa using hj
   have hlt3 : decide (j < l.length) = true := by simpa using hj
   obtain ⟨b, o, rfl, hbl, x, hx, hok, c0, c1, c2, c3, c4, c5⟩ := (HR.out.below HB.out HHi.out (Nat.le_refl _)).2.2.2.at_ hj
   have HT := qh (fun h : q25 x.o = true => qcD hj HA.out (by rw [← hx]; exact h))
   have HNo := qh (fun h : q25 x.o = false => qfq hj (by rw [← hx]; exact h))
   obtain ⟨_, _, hkl, hhl, hdl⟩ := hok
   have hd1 := hdl.1
   have hd2 := hdl.2.1
   clear hx hdl
   obtain ⟨⟨what, id, ⟨key, gone, dat⟩, hi⟩, A', c'⟩ := x
   simp only at c0 c1 c2 c3 c4 c5 HT HNo hkl hhl hd1 hd2
   rw [← q1R] at hkl hhl
   unfold maxLen at hkl hhl hd2
   have hzk : (bs key).size = key.length := q1R key
   have hzh : (bs hi).size = hi.length := q1R hi
   obtain ⟨wo, hwo⟩ : ∃ y, y = wr := ⟨_, rfl⟩
   subst hwo
   have HBN := qh (HB.out.alloc HB.out.size (.cells #[.int .i64 what, .int .i64 id, .string (bs key), .bool gone, .slice A' dat.length c', .string (bs hi)] 39))
   by_cases h1 : 300 < (bs key).size
   ·have d1 : decide (300 < ((bs key).size : Int)) = true := by rw [decide_eq_true_iff]; omega
    have d2 : decide (300 < (bs key).size) = true := by rw [decide_eq_true_iff]; omega
    have HF := qh (HNo.out (by unfold q25; simp only; rw [decide_eq_false (show ¬ key.length ≤ 300 by omega)]; rfl))
    clear h1 hzk hzh
    go_wp2
    go_ret
    rw [HF.out]
    exact ⟨rfl, HBN.out⟩
   ·have d1 : decide (300 < ((bs key).size : Int)) = false := by rw [decide_eq_false_iff_not]; omega
    have d2 : decide (300 < (bs key).size) = false := by rw [decide_eq_false_iff_not]; omega
    by_cases h2 : 5000 < dat.length
    ·have d3 : decide (5000 < (dat.length : Int)) = true := by rw [decide_eq_true_iff]; omega
     have d4 : decide (5000 < dat.length) = true := by rw [decide_eq_true_iff]; omega
     have HF := qh (HNo.out (by unfold q25; simp only; rw [decide_eq_false (show ¬ dat.length ≤ 5000 by omega), Bool.and_false, Bool.false_and]))
     clear h1 h2 hzk hzh
     go_wp2
     go_ret
     rw [HF.out]
     exact ⟨rfl, HBN.out⟩
    ·have d3 : decide (5000 < (dat.length : Int)) = false := by rw [decide_eq_false_iff_not]; omega
     have d4 : decide (5000 < dat.length) = false := by rw [decide_eq_false_iff_not]; omega
     by_cases h3 : 300 < (bs hi).size
     ·have d5 : decide (300 < ((bs hi).size : Int)) = true := by rw [decide_eq_true_iff]; omega
      have d6 : decide (300 < (bs hi).size) = true := by rw [decide_eq_true_iff]; omega
      have HF := qh (HNo.out (by unfold q25; simp only; rw [decide_eq_false (show ¬ hi.length ≤ 300 by omega), Bool.and_false]))
      clear h1 h2 h3 hzk hzh
      go_wp2
      go_ret
      rw [HF.out]
      exact ⟨rfl, HBN.out⟩
     ·have d5 : decide (300 < ((bs hi).size : Int)) = false := by rw [decide_eq_false_iff_not]; omega
      have d6 : decide (300 < (bs hi).size) = false := by rw [decide_eq_false_iff_not]; omega
      have HF := qh (HT.out (by unfold q25; simp only [Bool.and_eq_true, decide_eq_true_eq]; omega))
      clear h1 h2 h3 hzk hzh
      go_wp2
      go_roundg (gk - 1)
      case measure => have := HK.out; omega
      case rel => exact ⟨j + 1, by have := HK.out; omega, by go_num, HF.out, HBN.out⟩
  ·have hj' : j = l.length := by have := HK.out; omega
   subst hj'
   have hlt : decide ((l.length : Int) < (l.length : Int)) = false := by simp
   have hlt2 : decide (l.length < l.length) = false := by simp
   have hF := HA.out
   rw [List.take_length] at hF
   by_cases h4 : l.length ≤ 80
   ·have d1 : decide ((l.length : Int) ≤ 80) = true := by rw [decide_eq_true_iff]; omega
    have d1' : decide (l.length ≤ 80) = true := by rw [decide_eq_true_iff]; omega
    have HF := qh (show fewT l = true by unfold fewT; rw [hF, d1']; rfl)
    clear hF hj h4
    go_wp2_with fail
    go_ret
    rw [HF.out]
    exact ⟨rfl, HB.out⟩
   ·have d1 : decide ((l.length : Int) ≤ 80) = false := by rw [decide_eq_false_iff_not]; omega
    have d1' : decide (l.length ≤ 80) = false := by rw [decide_eq_false_iff_not]; omega
    have HF := qh (show fewT l = false by unfold fewT; rw [hF, d1']; rfl)
    clear hF hj h4
    go_wp2_with fail
    go_ret
    rw [HF.out]
    exact ⟨rfl, HB.out⟩
def BigT : LimT := ⟨⟨1000, 100000, 1048576, 1099511627776⟩, 1000, 1000, 16⟩
theorem qed : MayT BigT = true := by decide
theorem q80 {w : World} {h : Nat} {t : TypeId} {a0 a1 a2 a3 a4 a5 a6 : Value} (hb : w.heap[h]? = some (.cells #[a0, a1, a2, a3, a4, a5, a6] t (0, 0))) : w.cell? ⟨h, 0, none⟩ = some a0 ∧ w.cell? ⟨h, 1, none⟩ = some a1 ∧ w.cell? ⟨h, 2, none⟩ = some a2 ∧ w.cell? ⟨h, 3, none⟩ = some a3 ∧ w.cell? ⟨h, 4, none⟩ = some a4 ∧ w.cell? ⟨h, 5, none⟩ = some a5 ∧ w.cell? ⟨h, 6, none⟩ = some a6 :=
 ⟨cell_of_row w h 0 _ _ _ hb, cell_of_row w h 1 _ _ _ hb, cell_of_row w h 2 _ _ _ hb, cell_of_row w h 3 _ _ _ hb, cell_of_row w h 4 _ _ _ hb, cell_of_row w h 5 _ _ _ hb, cell_of_row w h 6 _ _ _ hb⟩
theorem qak (w : World) : Calls Tryz.prog 36 #[] w fun r w' => r = .returned (limT BigT) ∧ Below w.heap.size w w' := by
 obtain ⟨w0, hw0⟩ : ∃ y, w.alloc (.cells #[.int .i64 0, .int .i64 0, .int .i64 0, .int .i64 0, .int .i64 0, .int .i64 0, .int .u64 0] 24) = y := ⟨_, rfl⟩
 have b0 : Below w.heap.size w w0 := by rw [← hw0]; exact (Below.refl _ w).alloc (Nat.le_refl _) _
 have h0 : w0.heap[w.heap.size]? = some (.cells #[.int .i64 0, .int .i64 0, .int .i64 0, .int .i64 0, .int .i64 0, .int .i64 0, .int .u64 0] 24 (0, 0)) := by rw [← hw0]; exact heap_alloc_new w _
 have f0 := q02 h0 0
 have f1 := q02 h0 1
 have f2 := q02 h0 2
 have f3 := q02 h0 3
 have f4 := q02 h0 4
 have f5 := q02 h0 5
 have f6 := q02 h0 6
 obtain ⟨z0, z1, z2, z3, z4, z5, z6⟩ := q80 h0
 have HZ := qh (qef h0 (.int .i64 1000) (.int .i64 100000) (.int .i64 1048576) (.int .i64 1000) (.int .i64 1000) (.int .i64 16) (.int .u64 1099511627776))
 have HB := qh (Below.box7 b0 (Nat.le_refl _) (.int .i64 1000) (.int .i64 100000) (.int .i64 1048576) (.int .i64 1000) (.int .i64 1000) (.int .i64 16) (.int .u64 1099511627776))
 have HW0 := qh hw0
 clear h0 b0 hw0
 go_enter Tryz.func36, Tryz.ntmps36
 go_upto_region 1 with fail
 rw [HW0.out]
 clear HW0
 go_wp2
 obtain ⟨t0, t1, t2, t3, t4, t5, t6⟩ := q80 HZ.out
 refine bodyPost_ret (v := limT BigT) (by simp [results, Tryz.results36, go_sem, t0, t1, t2, t3, t4, t5, t6]; rfl) rfl ?_
 exact ⟨rfl, HB.out⟩
theorem q6d {St : q2p} (K : TxnC St) (L : LimT) (o : Nat) (w : World) (ho : o ≤ w.heap.size) (h1 : I64 L.s.keys) (h2 : I64 L.s.vers) (h3 : I64 L.s.byts) (h4 : L.s.last < 18446744073709551616) (h5 : I64 L.marks) (h6 : I64 L.recs) (h7 : I64 L.live) :
  Calls Tryz.prog 35 #[limT L] w fun r w' => Below w.heap.size w w' ∧
   (if MayT L = true then ∃ p F, r = .returned (ptrS p) ∧ St o w' p F L q3u ∧ ∀ k, F k → w.heap.size ≤ k else r = .returned (.pointer none)) := by
 have hba : Below w.heap.size w (w.alloc (.cells #[.int .i64 L.s.keys, .int .i64 L.s.vers, .int .i64 L.s.byts, .int .i64 L.marks, .int .i64 L.recs, .int .i64 L.live, .int .u64 L.s.last] 24)) := (Below.refl _ w).alloc (Nat.le_refl _) _
 have HC := qh (K.new L o (w.alloc (.cells #[.int .i64 L.s.keys, .int .i64 L.s.vers, .int .i64 L.s.byts, .int .i64 L.marks, .int .i64 L.recs, .int .i64 L.live, .int .u64 L.s.last] 24)) (Nat.le_trans ho hba.size) h1 h2 h3 h4 h5 h6 h7)
 have HB := qh hba
 clear hba
 unfold limT q3A at *
 go_enter Tryz.func35, Tryz.ntmps35
 go_wp2_with fail
 refine HC.out.mono ?_
 rintro r w2 ⟨hb2, hr⟩
 have HB2 := qh (HB.out.trans (hb2.mono HB.out.size))
 clear hb2
 by_cases hm : MayT L = true
 ·rw [if_pos hm] at hr
  obtain ⟨p, F, rfl, hst, hF⟩ := hr
  have HQ := qh (And.intro hst hF)
  have HM := qh hm
  clear hst hF hm
  go_wp2_with fail
  go_ret
  refine ⟨HB2.out, ?_⟩
  exact ⟨p, rfl, F, HQ.out.1, fun k hk => Nat.le_trans (by simp) (HQ.out.2 k hk)⟩
 ·rw [if_neg hm] at hr
  have HM := qh hm
  clear hm
  subst hr
  go_wp2_with fail
  go_ret
  exact ⟨HB2.out, rfl⟩
theorem q5u (k : List UInt8) (x : UInt8) (w : World) : Calls Tryz.prog 51 #[.string (bs k), .string (bs [x])] w fun r w' => ∃ A c, r = .returned (q4i ⟨k, false, [x]⟩ A c) ∧ SlI w' w.heap.size w'.heap.size A c [x] ∧ Below w.heap.size w w' := by
 have hz : (bs [x]).size = 1 := q1R [x]
 obtain ⟨X, hX⟩ : ∃ X, bs [x] = X := ⟨_, rfl⟩
 rw [hX] at hz ⊢
 have HX := qh hX
 clear hX
 obtain ⟨w0, hw0⟩ : ∃ y, w.alloc (.cells #[.string ⟨#[]⟩, .bool false, .slice none 0 0] 37) = y := ⟨_, rfl⟩
 have b0 : Below w.heap.size w w0 := by rw [← hw0]; exact (Below.refl _ w).alloc (Nat.le_refl _) _
 have h0 : w0.heap[w.heap.size]? = some (.cells #[.string ⟨#[]⟩, .bool false, .slice none 0 0] 37 (0, 0)) := by rw [← hw0]; exact heap_alloc_new w _
 have hs0 : w0.heap.size = w.heap.size + 1 := by rw [← hw0]; simp
 have HW0 := qh hw0
 have H0 := qh h0
 have HS0 := qh hs0
 have HB0 := qh b0
 clear hw0 b0 h0 hs0
 have hcv := run_bytes_of_string (P := Tryz.prog) w0 9 35 5 X Tryz.underlying9 Tryz.underlying35 Tryz.underlying5
 have hg1 := grownCap_ge w0 1 0 5
 have hg2 := grownCap_le_maxLen w0 1 0 5 (by decide)
 rw [hz] at hcv
 generalize grownCap w0 1 0 5 = C at *
 obtain ⟨w1, hw1⟩ : ∃ y, w0.drew.alloc (.cells (bytesRow X C) 5 ((bytesRow X C).size, (bytesRow X C).size + 1)) = y := ⟨_, rfl⟩
 rw [hw1] at hcv
 have b1 : Below w.heap.size w w1 := by rw [← hw1]; exact (HB0.out.drew).alloc HB0.out.size _
 have hr1 : w1.heap[w.heap.size + 1]? = some (.cells (bytesRow X C) 5 ((bytesRow X C).size, (bytesRow X C).size + 1)) := by rw [← hw1, ← HS0.out]; exact heap_alloc_new w0.drew _
 have h1 : w1.heap[w.heap.size]? = some (.cells #[.string ⟨#[]⟩, .bool false, .slice none 0 0] 37 (0, 0)) := by rw [← hw1]; exact q01 H0.out ((Below.refl _ w0).drew.alloc (Nat.le_refl _) _) (q00 H0.out)
 have hs1 : w1.heap.size = w.heap.size + 2 := by rw [← hw1]; show (w0.alloc _).heap.size = _; simp [HS0.out]
 have f0 := q02 h1 0
 have f1 := q02 h1 1
 have f2 := q02 h1 2
 have z0 := cell_of_row w1 _ 0 _ _ _ h1
 have z1 := cell_of_row w1 _ 1 _ _ _ h1
 have z2 := cell_of_row w1 _ 2 _ _ _ h1
 have HR1 := qh hr1
 have HS1 := qh hs1
 have HB1 := qh b1
 have HZ := qh (q2s h1 (.string (bs k)) (.bool false) (.slice (some ⟨w.heap.size + 1, 0, none⟩) 1 C))
 rw [HS0.out] at hcv
 clear hr1 hs1 b1 hw1 h1
 go_enter Tryz.func51, Tryz.ntmps51
 go_upto_region 1 with fail
 rw [HW0.out]
 clear HW0
 go_wp2_with fail
 have t0 := cell_of_row _ _ 0 _ _ _ HZ.out
 have t1 := cell_of_row _ _ 1 _ _ _ HZ.out
 have t2 := cell_of_row _ _ 2 _ _ _ HZ.out
 refine bodyPost_ret (v := q4i ⟨k, false, [x]⟩ (some ⟨w.heap.size + 1, 0, none⟩) C) (by simp [results, Tryz.results51, go_sem, t0, t1, t2]; rfl) rfl ?_
 refine ⟨_, _, rfl, ⟨hg1, hg2, (fun e => by cases e), fun _ => ⟨w.heap.size + 1, 0, rfl, Nat.le_succ _, ?_, fun j hj => ?_⟩⟩, Below.box3 HB1.out (Nat.le_refl _) _ _ _⟩
 ·rw [show (World.setCell _ _ _).heap.size = w1.heap.size by simp [World.setCell], HS1.out]
  omega
 ·have hj0 : j = 0 := by simpa using hj
  subst hj0
  rw [World.cell?_of_block (q2V (by simp) _ _ _), cell_of_row _ (w.heap.size + 1) _ _ _ _ HR1.out, ← HX.out]
  unfold bytesRow
  rw [Array.getElem?_append_left (by simp [bs])]
  simp [bs]
structure q2k where
 ahead : Bool
 behind : Bool
 reach : Nat
 first : Nat
def q0y (r : RecS) : Nat := if r.writes.isEmpty then r.began else r.last
def q0t (s : q2k) (r : RecS) : q2k := ⟨true, s.behind, max s.reach (q0y r), s.first⟩
def q0i (s : q2k) (r : RecS) : q2k := ⟨s.ahead, true, s.reach, if !s.behind || decide (r.first < s.first) then r.first else s.first⟩
def q1t (s : q2k) : Bool := s.ahead && s.behind && decide (s.first ≤ s.reach)
def q1d (t r : RecS) : Bool := decide (t.began < r.last) && q1Y r.reads t.writes
def q1z (t r : RecS) : Bool := decide (t.began < r.last) && q1Y t.reads r.writes
def q3I (t : RecS) (s : q2k) (r : RecS) : q2k := if q1d t r = true then q0t s r else s
def qbT (t : RecS) (s : q2k) (r : RecS) : q2k := if q1z t r = true then q0i s r else s
def q50 (t : RecS) (s : q2k) (r : RecS) : q2k := qbT t (q3I t s r) r
def qfQ : q2k := ⟨false, false, 0, 0⟩
def q1W (l : List RecS) (t : RecS) (j : Nat) : q2k := (l.take j).foldl (q50 t) qfQ
theorem q8X {l : List RecS} {t : RecS} {j : Nat} (hj : j < l.length) : q1W l t (j + 1) = q50 t (q1W l t j) (l[j]'hj) := by
 unfold q1W
 rw [List.take_succ_eq_append_getElem hj, List.foldl_append]
 rfl
structure q7V (p : List RecS) (t : RecS) (s : q2k) : Prop where
 reach : ∀ b ∈ p, q1d t b = true → s.ahead = true ∧ q0y b ≤ s.reach
 some_r : s.ahead = true → ∃ b ∈ p, q1d t b = true ∧ (q0y b = s.reach)
 first : ∀ a ∈ p, q1z t a = true → s.behind = true ∧ s.first ≤ a.first
 some_f : s.behind = true → ∃ a ∈ p, q1z t a = true ∧ a.first = s.first
 none_r : s.ahead = false → s.reach = 0
 none_f : s.behind = false → s.first = 0
theorem qfJ (t : RecS) : q7V [] t qfQ := ⟨(fun b hb => by cases hb), (fun h => by cases h), (fun b hb => by cases hb), (fun h => by cases h), fun _ => rfl, fun _ => rfl⟩
theorem qfI {p : List RecS} {t r : RecS} {s : q2k} (h : q7V p t s) : q7V (p ++ [r]) t (q50 t s r) := by
 have hA : q7V p t s ∧ (q1d t r = true → (q3I t s r).ahead = true ∧ q0y r ≤ (q3I t s r).reach) ∧ (∀ b ∈ p, q1d t b = true → (q3I t s r).ahead = true ∧ q0y b ≤ (q3I t s r).reach) ∧
   ((q3I t s r).ahead = true → ∃ b ∈ p ++ [r], q1d t b = true ∧ q0y b = (q3I t s r).reach) ∧ (q3I t s r).behind = s.behind ∧ (q3I t s r).first = s.first ∧ ((q3I t s r).ahead = false → (q3I t s r).reach = 0) := by
  refine ⟨h, ?_⟩
  unfold q3I
  by_cases hr : q1d t r = true
  ·rw [if_pos hr]
   refine ⟨fun _ => ⟨rfl, Nat.le_max_right _ _⟩, fun b hb hrb => ⟨rfl, Nat.le_trans (h.reach b hb hrb).2 (Nat.le_max_left _ _)⟩, fun _ => ?_, rfl, rfl, fun e => by cases e⟩
   by_cases hm : s.reach ≤ q0y r
   ·exact ⟨r, by simp, hr, by show q0y r = max s.reach (q0y r); omega⟩
   ·cases ha : s.ahead with
    | false =>
     have := h.none_r ha
     omega
    | true =>
     obtain ⟨b, hb, h1, h2⟩ := h.some_r ha
     exact ⟨b, by simp [hb], h1, by show q0y b = max s.reach (q0y r); omega⟩
  ·rw [if_neg hr]
   refine ⟨fun e => absurd e hr, h.reach, fun ha => ?_, rfl, rfl, h.none_r⟩
   obtain ⟨b, hb, h1, h2⟩ := h.some_r ha
   exact ⟨b, by simp [hb], h1, h2⟩
 obtain ⟨_, a1, a2, a3, a4, a5, a6⟩ := hA
 unfold q50
 generalize q3I t s r = u at *
 unfold qbT
 by_cases hw : q1z t r = true
 ·rw [if_pos hw]
  refine ⟨fun b hb hrb => ?_, a3, fun a ha hwa => ?_, fun _ => ?_, a6, fun e => by cases e⟩
  ·rcases List.mem_append.1 hb with hb | hb
   ·exact a2 b hb hrb
   ·rw [List.mem_singleton] at hb
    subst hb
    exact a1 hrb
  ·refine ⟨rfl, ?_⟩
   show (if !u.behind || decide (r.first < u.first) then r.first else u.first) ≤ a.first
   rcases List.mem_append.1 ha with ha | ha
   ·obtain ⟨h1, h2⟩ := h.first a ha hwa
    rw [a4, a5, h1]
    by_cases hlt : r.first < s.first
    ·rw [decide_eq_true hlt]
     simp only [Bool.or_true, if_true]
     omega
    ·rw [decide_eq_false hlt]
     simpa using h2
   ·rw [List.mem_singleton] at ha
    subst ha
    by_cases hlt : a.first < u.first
    ·rw [decide_eq_true hlt]
     simp
    ·rw [decide_eq_false hlt]
     cases u.behind
     ·simp
     ·simp; omega
  ·show ∃ a ∈ p ++ [r], q1z t a = true ∧ a.first = if !u.behind || decide (r.first < u.first) then r.first else u.first
   rw [a4, a5]
   cases hb : s.behind with
   | false => exact ⟨r, by simp, hw, by simp⟩
   | true =>
    by_cases hlt : r.first < s.first
    ·exact ⟨r, by simp, hw, by rw [decide_eq_true hlt]; simp⟩
    ·obtain ⟨a, ha, h1, h2⟩ := h.some_f hb
     exact ⟨a, by simp [ha], h1, by rw [decide_eq_false hlt]; simpa using h2⟩
 ·rw [if_neg hw]
  refine ⟨fun b hb hrb => ?_, a3, fun a ha hwa => ?_, fun hb => ?_, a6, fun e => by rw [a5]; rw [a4] at e; exact h.none_f e⟩
  ·rcases List.mem_append.1 hb with hb | hb
   ·exact a2 b hb hrb
   ·rw [List.mem_singleton] at hb
    subst hb
    exact a1 hrb
  ·rcases List.mem_append.1 ha with ha | ha
   ·rw [a4, a5]; exact h.first a ha hwa
   ·rw [List.mem_singleton] at ha
    subst ha
    exact absurd hwa hw
  ·rw [a4] at hb
   obtain ⟨a, ha, h1, h2⟩ := h.some_f hb
   exact ⟨a, by simp [ha], h1, by rw [a5]; exact h2⟩
theorem q7J (l : List RecS) (t : RecS) : ∀ j, j ≤ l.length → q7V (l.take j) t (q1W l t j)
 | 0, _ => qfJ t
 | j + 1, h => by
  rw [q8X (by omega), List.take_succ_eq_append_getElem (by omega)]
  exact qfI (q7J l t j (by omega))
theorem q5e (a b : RecS) : q9G a b = decide (a.first ≤ q0y b) := by
 unfold q9G q0y
 split <;> rfl
theorem q8O {l : List RecS} {t b : RecS} : (b ∈ l ∧ q1d t b = true) ↔ (b ∈ q0c l t.began ∧ q1Y b.reads t.writes = true) := by
 unfold q1d q0c
 rw [Bool.and_eq_true, List.mem_filter, and_assoc]
theorem q2x {l : List RecS} {t a : RecS} : (a ∈ l ∧ q1z t a = true) ↔ (a ∈ q3t (q0c l t.began) t) := by
 unfold q1z q3t q0c
 rw [Bool.and_eq_true, List.mem_filter, List.mem_filter, and_assoc]
theorem q4G {l : List RecS} {a : RecS} {j : Nat} (h : a ∈ l.take j) : a ∈ l := List.mem_of_mem_take h
theorem q9X {l : List RecS} {t : RecS} {j : Nat} (hj : j ≤ l.length) (h : q1t (q1W l t j) = true) : q1r l t = none := by
 have ok := q7J l t j hj
 unfold q1t at h
 rw [Bool.and_eq_true, Bool.and_eq_true, decide_eq_true_eq] at h
 obtain ⟨⟨h1, h2⟩, h3⟩ := h
 obtain ⟨b, hb, b1, b2⟩ := ok.some_r h1
 obtain ⟨a, ha, a1, a2⟩ := ok.some_f h2
 obtain ⟨c1, c2⟩ := q8O.1 ⟨q4G hb, b1⟩
 have c3 := q2x.1 ⟨q4G ha, a1⟩
 unfold q1r
 rw [if_pos]
 refine List.any_eq_true.2 ⟨a, c3, ?_⟩
 rw [Bool.or_eq_true]
 right
 refine List.any_eq_true.2 ⟨b, c1, ?_⟩
 rw [c2, q5e, Bool.true_and, decide_eq_true_eq]
 omega
theorem qeL {l : List RecS} {t : RecS} {j : Nat} (hj : j < l.length) (hw : q1z t (l[j]'hj) = true) (ho : outB t (l[j]'hj) = true) : q1r l t = none := by
 unfold q1r
 rw [if_pos]
 refine List.any_eq_true.2 ⟨l[j]'hj, q2x.1 ⟨List.getElem_mem hj, hw⟩, ?_⟩
 rw [ho, Bool.true_or]
def qbB (l : List RecS) (t : RecS) (j : Nat) : Prop := ∀ a ∈ l.take j, q1z t a = true → outB t a = false
theorem qbD (l : List RecS) (t : RecS) : qbB l t 0 := fun a ha => by simp at ha
theorem qbC {l : List RecS} {t : RecS} {j : Nat} (h : qbB l t j) (hj : j < l.length) (hn : q1z t (l[j]'hj) = true → outB t (l[j]'hj) = false) : qbB l t (j + 1) := fun a ha hw => by
 rw [List.take_succ_eq_append_getElem hj] at ha
 rcases List.mem_append.1 ha with ha | ha
 ·exact h a ha hw
 ·rw [List.mem_singleton] at ha
  subst ha
  exact hn hw
theorem qdv {l : List RecS} {t : RecS} {n : Nat} (hn : n = l.length) (hd : q1t (q1W l t n) = false) (ho : qbB l t n) : q1r l t = some (q1W l t n).first := by
 subst hn
 have ok := q7J l t l.length (Nat.le_refl _)
 unfold qbB at ho
 rw [List.take_length] at ok ho
 generalize q1W l t l.length = s at *
 unfold q1r
 rw [if_neg]
 ·congr 1
  cases hb : s.behind with
  | false =>
   rw [ok.none_f hb]
   have e : q3t (q0c l t.began) t = [] := by
    cases he : q3t (q0c l t.began) t with
    | nil => rfl
    | cons a m =>
     obtain ⟨h1, h2⟩ := q2x.2 (show a ∈ q3t (q0c l t.began) t by rw [he]; exact List.mem_cons_self ..)
     rw [(ok.first a h1 h2).1] at hb
     cases hb
   rw [e]
   rfl
  | true =>
   obtain ⟨a, ha, a1, a2⟩ := ok.some_f hb
   have hmem := q2x.1 ⟨ha, a1⟩
   have h1 := qgg hmem
   obtain ⟨c, hc, ec⟩ := qfM (l := q3t (q0c l t.began) t) (fun e => by rw [e] at hmem; cases hmem)
   obtain ⟨c1, c2⟩ := q2x.2 hc
   have := (ok.first c c1 c2).2
   omega
 ·intro hc
  obtain ⟨a, ha, hs⟩ := List.any_eq_true.1 hc
  obtain ⟨a1, a2⟩ := q2x.2 ha
  rw [ho a a1 a2, Bool.false_or] at hs
  obtain ⟨b, hb, hs⟩ := List.any_eq_true.1 hs
  rw [Bool.and_eq_true, q5e, decide_eq_true_eq] at hs
  obtain ⟨b1, b2⟩ := q8O.2 ⟨hb, hs.1⟩
  obtain ⟨f1, f2⟩ := ok.first a a1 a2
  obtain ⟨r1, r2⟩ := ok.reach b b1 b2
  have : q1t s = true := by
   unfold q1t
   rw [f1, r1]
   simp only [Bool.and_self, Bool.true_and, decide_eq_true_eq]
   omega
  rw [hd] at this
  cases this
theorem qdK {t r : RecS} {s : q2k} (h1 : q1d t r = false) (h2 : q1z t r = false) : q50 t s r = s := by
 unfold q50 q3I qbT
 rw [h1, h2]
 rfl
theorem qbU {t r : RecS} {s : q2k} (h1 : q1d t r = true) (h2 : q1z t r = false) : q50 t s r = q0t s r := by
 unfold q50 q3I qbT
 rw [h1, h2]
 rfl
theorem qa5 {t r : RecS} {s : q2k} (h1 : q1d t r = false) (h2 : q1z t r = true) : q50 t s r = q0i s r := by
 unfold q50 q3I qbT
 rw [h1, h2]
 rfl
theorem qdI {t r : RecS} {s : q2k} (h1 : q1d t r = true) (h2 : q1z t r = true) : q50 t s r = q0i (q0t s r) r := by
 unfold q50 q3I qbT
 rw [h1, h2]
 rfl
theorem qeU {l : List RecS} {t : RecS} {j M : Nat} (hj : j ≤ l.length) (h : ∀ r ∈ l, r.first < M ∧ r.last < M ∧ r.began < M) (hM : 0 < M) : (q1W l t j).first < M ∧ (q1W l t j).reach < M := by
 have ok := q7J l t j hj
 constructor
 ·cases hb : (q1W l t j).behind with
  | false => rw [ok.none_f hb]; exact hM
  | true =>
   obtain ⟨a, ha, _, e⟩ := ok.some_f hb
   rw [← e]
   exact (h a (q4G ha)).1
 ·cases hb : (q1W l t j).ahead with
  | false => rw [ok.none_r hb]; exact hM
  | true =>
   obtain ⟨b, hb, _, e⟩ := ok.some_r hb
   rw [← e]
   unfold q0y
   split
   ·exact (h b (q4G hb)).2.2
   ·exact (h b (q4G hb)).2.1
open Go.RowKit
instance : DecidableEq RecS := fun a b => decidable_of_iff (a.first = b.first ∧ a.last = b.last ∧ a.began = b.began ∧ a.out = b.out ∧ a.reads = b.reads ∧ a.writes = b.writes) (by cases a; cases b; simp)
def jI (n : Int) (a b : List Sp) : List Sp := fitI n (q0a (a ++ b))
def okR (r : RecS) : Prop := r.reads.length ≤ 1000 ∧ r.writes.length ≤ 1000
def okRs (l : List RecS) : Prop := l.length ≤ 1000 ∧ q0A l ≤ 1000
theorem okRs.mem {l : List RecS} (h : okRs l) {r : RecS} (hr : r ∈ l) : okR r := by
 have h1 := qeF hr
 have h2 := h.2
 exact ⟨by omega, by omega⟩
structure SsiC : Prop where
 judge : ∀ (l : List RecS) (A : Option Addr) (c : Nat) (x : MR) (w : World), okRs l → okR x.r → ChR w w.heap.size A c l → OkMR w w.heap.size x → Calls Tryz.prog 135 #[.slice A l.length c, q0w x] w fun r w' => r = .returned (q3Q (q1r l x.r)) ∧ Below w.heap.size w w'
 join : ∀ (x y : MR) (n : Int) (w : World), x.r.reads.length + y.r.reads.length ≤ 1000 → x.r.writes.length + y.r.writes.length ≤ 1000 → -9223372036854775808 ≤ n → n ≤ 9223372036854775807 → OkMR w w.heap.size x → OkMR w w.heap.size y → Calls Tryz.prog 202 #[q0w x, q0w y, .int .i64 n] w (qbY (q2u (jI n) x.r y.r) w)
 forget : ∀ (l : List RecS) (A : Option Addr) (c : Nat) (low : Nat) (w : World), okRs l → low < 18446744073709551616 → ChR w w.heap.size A c l → Calls Tryz.prog 137 #[.slice A l.length c, .int .u64 low] w (q7T (q0c l low) w)
 fit : ∀ (l : List RecS) (A : Option Addr) (c : Nat) (n marks : Int) (w : World), okRs l → -9223372036854775808 ≤ n → n ≤ 9223372036854775807 → -9223372036854775808 ≤ marks → marks ≤ 9223372036854775807 → ChR w w.heap.size A c l → Calls Tryz.prog 138 #[.slice A l.length c, .int .i64 n, .int .i64 marks] w (q7T (fitR (jI marks) n.toNat l) w)
theorem qga (n : Int) (a b : List Sp) : (jI n a b).length ≤ a.length + b.length := by
 have h1 := q3d (n := n) (q0a (a ++ b))
 have h2 := q1p (a ++ b)
 rw [List.length_append] at h2
 unfold jI
 omega
theorem qeG {l : List RecS} (f : RecS → Bool) : q0A (l.filter f) ≤ q0A l := by
 induction l with
 | nil => exact Nat.le_refl _
 | cons x l ih =>
  have e : q0A (x :: l) = (x.reads.length + x.writes.length) + q0A l := by simp [q0A]
  cases hf : f x with
  | true =>
   rw [List.filter_cons_of_pos (by simpa using hf)]
   have e2 : q0A (x :: l.filter f) = (x.reads.length + x.writes.length) + q0A (l.filter f) := by simp [q0A]
   omega
  | false =>
   rw [List.filter_cons_of_neg (by simp [hf])]
   omega
theorem okRs.forget {l : List RecS} (h : okRs l) (low : Nat) : okRs (q0c l low) := ⟨Nat.le_trans (q4U l low) h.1, Nat.le_trans (qeG _) h.2⟩
open Go.RowKit
theorem q0Z {w : World} {b : Nat} {e : TypeId} {fz : Nat × Nat} {a0 a1 a2 a3 a4 a5 : Value} (h : w.heap[b]? = some (.cells #[a0, a1, a2, a3, a4, a5] e fz)) :
  w.cell? ⟨b, 0, none⟩ = some a0 ∧ w.cell? ⟨b, 1, none⟩ = some a1 ∧ w.cell? ⟨b, 2, none⟩ = some a2 ∧ w.cell? ⟨b, 3, none⟩ = some a3 ∧ w.cell? ⟨b, 4, none⟩ = some a4 ∧ w.cell? ⟨b, 5, none⟩ = some a5 :=
 ⟨cell_of_row w b 0 _ _ _ h, cell_of_row w b 1 _ _ _ h, cell_of_row w b 2 _ _ _ h, cell_of_row w b 3 _ _ _ h, cell_of_row w b 4 _ _ _ h, cell_of_row w b 5 _ _ _ h⟩
theorem ChR.len {w : World} {A : Option Addr} {c : Nat} {l : List RecS} (h : ChR w w.heap.size A c l) : l.length ≤ 9223372036854775807 := by have := h.1; have := h.2.1; unfold maxLen at this; omega
end Go.Proofs.YtdpbllacfljmoaaGreat
