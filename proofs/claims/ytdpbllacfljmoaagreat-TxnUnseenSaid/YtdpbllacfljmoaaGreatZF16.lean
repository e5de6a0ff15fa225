import Derived.Test.YtdpbllacfljmoaaGreatZF15
import Derived.Test.YtdpbllacfljmoaaGreatZF03
import Derived.Deep.DeepCutAuto
import Derived.Test.YtdpbllacfljmoaaGreatZF02
import Derived.Test.YtdpbllacfljmoaaGreatZF14
set_option maxRecDepth 100000
set_option maxHeartbeats 16000000
set_option linter.unusedVariables false
namespace Go.Proofs.YtdpbllacfljmoaaGreat
open Go.RowKit
def q3d (o : Option Ver) (w : World) (r : Ending) (w' : World) : Prop :=
 ∃ A c, r = .returned (.tuple #[q2T (optH o) A c, .bool o.isSome]) ∧ SlI w' w.heap.size w'.heap.size A c (optH o).dat ∧ Below w.heap.size w w'
def q9t (o : Option (List UInt8)) (w : World) (r : Ending) (w' : World) : Prop :=
 ∃ A c, r = .returned (.tuple #[.slice A (o.getD []).length c, .bool o.isSome]) ∧ SlI w' w.heap.size w'.heap.size A c (o.getD []) ∧ Below w.heap.size w w'
theorem q3d.no {w w' : World} (hb : Below w.heap.size w w') : q3d none w (.returned (.tuple #[.agg #[.int .u64 0, .bool false, .slice none 0 0], .bool false])) w' := ⟨none, 0, rfl, SlI.none_ _ _ _, hb⟩
theorem q3d.yes {v : Ver} {A : Option Addr} {c : Nat} {w w' : World} (h : SlI w' w.heap.size w'.heap.size A c v.dat) (hb : Below w.heap.size w w') : q3d (some v) w (.returned (.tuple #[q2T v A c, .bool true])) w' := ⟨A, c, rfl, h, hb⟩
theorem qbx (l : List Ver) (A : Option Addr) (c t : Nat) (w : World) (hk : q4G l) (hr : ChH w w.heap.size A c l) (hri : q1A l = true) :
  Calls Tryz.prog 180 #[.slice A l.length c, .int .u64 t] w (q3d (q0Y l t) w) := by
 obtain ⟨w0, hw0⟩ : ∃ y, w.alloc (.cells #[.int .u64 0, .bool false, .slice none 0 0] 182) = y := ⟨_, rfl⟩
 have b0 : Below w.heap.size w w0 := by rw [← hw0]; exact (Below.refl _ w).alloc (Nat.le_refl _) _
 have s0 : w0.heap.size = w.heap.size + 1 := by rw [← hw0]; simp
 have h0 : w0.heap[w.heap.size]? = some (.cells #[.int .u64 0, .bool false, .slice none 0 0] 182 (0, 0)) := by rw [← hw0]; exact heap_alloc_new w _
 have HC := qh (q8x l A c t w.heap.size w0 hk.1 (hr.2.2.2.below b0 (Nat.le_refl _) (Nat.le_refl _)) b0.size (q6B hri))
 have HR := qh hr.2.2.2
 have HK := qh hk
 have HB0 := qh b0
 have H0 := qh h0
 have HW0 := qh hw0
 have HS0 := qh s0
 clear hr hri hk b0 h0 hw0 s0
 go_enter Tryz.func180, Tryz.ntmps180
 go_upto_region 1 with fail
 rw [HW0.out]
 clear HW0
 go_wp2_with fail
 refine HC.out.mono ?_
 rintro r w1 ⟨⟨m, rfl, hsp⟩, hb⟩
 have HSP := qh hsp
 have HB1 := qh (HB0.out.trans (hb.mono HB0.out.size))
 have hx := q01 H0.out hb (by have := HS0.out; omega)
 have HX := qh hx
 clear HC hsp hb H0 hx
 rcases Nat.eq_zero_or_pos m with rfl | hm
 ·have f0 := q02 HX.out 0
  have f1 := q02 HX.out 1
  have f2 := q02 HX.out 2
  have z0 := cell_of_row w1 _ 0 _ _ _ HX.out
  have z1 := cell_of_row w1 _ 1 _ _ _ HX.out
  have z2 := cell_of_row w1 _ 2 _ _ _ HX.out
  have HZ := qh (q2z HX.out (.int .u64 0) (.bool false) (.slice none 0 0))
  have HB3 := qh (Below.box3 HB1.out (b := w.heap.size) (Nat.le_refl _) (.int .u64 0) (.bool false) (.slice none 0 0))
  have HF := qh HSP.out.none_
  go_wp2
  have t0 := cell_of_row _ _ 0 _ _ _ HZ.out
  have t1 := cell_of_row _ _ 1 _ _ _ HZ.out
  have t2 := cell_of_row _ _ 2 _ _ _ HZ.out
  refine bodyPost_ret (v := .tuple #[.agg #[.int .u64 0, .bool false, .slice none 0 0], .bool false]) (by simp [results, Tryz.results180, go_sem, t0, t1, t2]) rfl ?_
  rw [HF.out]
  exact q3d.no HB3.out
 ·obtain ⟨k, hk⟩ : ∃ k, m = k + 1 := ⟨m - 1, by omega⟩
  have hkl : k < l.length := by have := HSP.out.1; omega
  have HF : Hid (q0Y l t = some (l[k]'hkl)) := qh (q2W.some_ (by rw [← hk]; exact HSP.out))
  have e1 : ((m : Int) == 0) = false := by rw [beq_eq_false_iff_ne]; omega
  have e2 : ¬ ((m : Int) = 0) := by omega
  have e4 : (m : Int) - 1 = (k : Int) := by omega
  have hdm : decide ((k : Int) < (l.length : Int)) = true := by rw [decide_eq_true_iff]; omega
  have hdm2 : decide (k < l.length) = true := by rw [decide_eq_true_iff]; omega
  have hml : m ≤ 4294967296 := by have := HSP.out.1; have := HK.out.1; omega
  obtain ⟨b, o, A', c', rfl, _, c0, c1, c2, hs, htm⟩ := (HR.out.below HB1.out (Nat.le_refl _) (Nat.le_refl _)).at_ hkl
  have hdl : (l[k]'hkl).dat.length ≤ 4294967296 := Nat.le_trans (q80 (List.getElem_mem hkl)) HK.out.2
  have HCall := qh (qaL (l[k]'hkl) A' c' w.heap.size w1 hdl hs HB1.out.size)
  clear hs htm HSP hdl
  generalize l[k] = x at *
  obtain ⟨tm, gone, dat⟩ := x
  unfold q2T at HCall
  simp only at c0 c1 c2 HCall
  go_wp2_with fail
  refine HCall.out.mono ?_
  rintro r w2 hv
  obtain ⟨A9, c9, rfl, r1, r2, r3, hrd, hb2⟩ := hv
  have hlt1 : w.heap.size < w1.heap.size := q00 HX.out
  have hx := q01 HX.out hb2 hlt1
  have f0 := q02 hx 0
  have f1 := q02 hx 1
  have f2 := q02 hx 2
  have z0 := cell_of_row w2 _ 0 _ _ _ hx
  have z1 := cell_of_row w2 _ 1 _ _ _ hx
  have z2 := cell_of_row w2 _ 2 _ _ _ hx
  have HZ := qh (q2z hx (.int .u64 tm) (.bool gone) (.slice A9 dat.length c9))
  have HB3 := qh (Below.box3 (HB1.out.trans (hb2.mono HB1.out.size)) (b := w.heap.size) (Nat.le_refl _) (.int .u64 tm) (.bool gone) (.slice A9 dat.length c9))
  have HRD := qh (hrd.keep (w' := ((w2.setCell ⟨w.heap.size, 0, none⟩ (.int .u64 tm)).setCell ⟨w.heap.size, 1, none⟩ (.bool gone)).setCell ⟨w.heap.size, 2, none⟩ (.slice A9 dat.length c9)) fun p hp _ => World.cell?_of_block (q30 (by omega) _ _ _))
  have HQ := qh (And.intro r1 (And.intro r2 r3))
  clear r1 r2 r3 hrd hb2 hx HCall hlt1
  unfold q2T
  go_wp2
  have t0 := cell_of_row _ _ 0 _ _ _ HZ.out
  have t1 := cell_of_row _ _ 1 _ _ _ HZ.out
  have t2 := cell_of_row _ _ 2 _ _ _ HZ.out
  refine bodyPost_ret (v := .tuple #[.agg #[.int .u64 tm, .bool gone, .slice A9 dat.length c9], .bool true]) (by simp [results, Tryz.results180, go_sem, t0, t1, t2]) rfl ?_
  rw [HF.out]
  refine q3d.yes (v := ⟨tm, gone, dat⟩) ⟨HQ.out.1, HQ.out.2.1, HQ.out.2.2, HRD.out.wide HB1.out.size ?_⟩ HB3.out
  simp only [q7A]
  exact Nat.le_refl _
theorem qcI (l : List Ver) (A : Option Addr) (c : Nat) (t : Nat) (w : World) (hk : q4G l) (hr : ChH w w.heap.size A c l) (hri : q1A l = true) :
  Calls Tryz.prog 123 #[.slice A l.length c, .int .u64 t] w (q9t (getH l t) w) := by
 have HC := qh (qbx l A c t w hk hr hri)
 unfold getH
 clear hr
 generalize q0Y l t = F at *
 go_enter Tryz.func123, Tryz.ntmps123
 go_wp2_with fail
 refine HC.out.mono ?_
 rintro r w1 ⟨A', c', rfl, hsl, hb⟩
 have HB := qh hb
 have HS := qh hsl
 have HB2 := qh (hb.alloc hb.size (.cells #[.int .u64 (optH F).tm, .bool (optH F).gone, .slice A' (optH F).dat.length c'] 182))
 have HB3 := qh ((Below.refl w1.heap.size w1).alloc (Nat.le_refl _) (.cells #[.int .u64 (optH F).tm, .bool (optH F).gone, .slice A' (optH F).dat.length c'] 182))
 clear hb hsl HC
 cases F with
 | none =>
  have e0 : q2T (optH none) A' c' = .agg #[.int .u64 0, .bool false, .slice A' 0 c'] := rfl
  have e1 : (none : Option Ver).isSome = false := rfl
  rw [e0, e1]
  go_wp2
  refine bodyPost_ret (v := .tuple #[.slice none 0 0, .bool false]) (by simp [results, Tryz.results123, go_sem]) rfl ?_
  exact ⟨none, 0, rfl, SlI.none_ _ _ _, HB2.out⟩
 | some v =>
  obtain ⟨tm, gone, dat⟩ := v
  have e0 : q2T (optH (some ⟨tm, gone, dat⟩)) A' c' = .agg #[.int .u64 tm, .bool gone, .slice A' dat.length c'] := rfl
  have e1 : (some (⟨tm, gone, dat⟩ : Ver)).isSome = true := rfl
  rw [e0, e1]
  clear e0 e1
  cases gone
  ·go_wp2
   refine bodyPost_ret (v := .tuple #[.slice A' dat.length c', .bool true]) (by simp [results, Tryz.results123, go_sem]) rfl ?_
   exact ⟨A', c', rfl, HS.out.below HB3.out (Nat.le_refl _) HB3.out.size, HB2.out⟩
  ·go_wp2
   refine bodyPost_ret (v := .tuple #[.slice none 0 0, .bool false]) (by simp [results, Tryz.results123, go_sem]) rfl ?_
   exact ⟨none, 0, rfl, SlI.none_ _ _ _, HB2.out⟩
def q88 (m : List Ver) (w : World) (r : Ending) (w' : World) : Prop :=
 ∃ (q c : Nat) (ms : List MV), r = .returned (.slice (some ⟨q, 0, none⟩) m.length c) ∧ ms.map MV.v = m ∧ w.heap.size ≤ q ∧ OwnG 182 3 q1D w' q (.slice (some ⟨q, 0, none⟩) m.length c) ms ∧ (∀ x ∈ ms, q5v w' (q + 1) w'.heap.size x) ∧ Below w.heap.size w w'
theorem q9V (l : List Ver) (A : Option Addr) (c hi : Nat) (w : World) (hl : l.length ≤ 4294967297) (hd : ∀ x ∈ l, x.dat.length ≤ 4294967296) (hr : RowH w hi A l) (hhi : hi ≤ w.heap.size) :
  Calls Tryz.prog 246 #[.slice A l.length c] w (q88 l w) := by
 have HR := qh hr
 have HD := qh hd
 have HL := qh hl
 obtain ⟨i0, z, hi0, _, _, hz2, _⟩ := q91
 clear hr hd
 go_enter Tryz.func246, Tryz.ntmps246
 go_wp2_with (at_make; refine qfa (α := MV) (cs := q1D) _ rfl _ _ 123 182 40 q91 Tryz.underlying123 rfl l.length .i64 .i64 _ rfl rfl rfl (by have := HL.out; unfold maxLen; omega) (by have := HL.out; omega) ?_; intro w1 ho hg; have HO1 := qh ho; have HB1 := qh ((Below.refl _ w).grown hg (Nat.le_refl _) (fun _ h => by cases h)); clear ho hg)
 go_loopg [3, 11] l.length (fun q v i wr => ∃ (j : Nat) (ms : List MV), j + q = l.length ∧ v = .slice (some ⟨w.heap.size, 0, none⟩) j l.length ∧ i = .int .i64 j ∧ ms.length = j ∧ OwnG 182 3 q1D wr w.heap.size (.slice (some ⟨w.heap.size, 0, none⟩) j l.length) ms ∧ ms.map MV.v = l.take j ∧ (∀ x ∈ ms, q5v wr (w.heap.size + 1) wr.heap.size x) ∧ Below w.heap.size w wr)
 case atStart => exact ⟨0, [], by omega, rfl, rfl, rfl, HO1.out, rfl, by simp, HB1.out⟩
 case round =>
  obtain ⟨j, ms, hk, rfl, rfl, hml, ho, hms, hok, hb⟩ := hrel
  have HK := qh hk
  have HB := qh hb
  have HO := qh ho
  have HMS := qh hms
  have HOK := qh hok
  have HML := qh hml
  clear hk hb ho hms hok hml
  by_cases hj : j < l.length
  ·have hlt : decide ((j : Int) < (l.length : Int)) = true := by simpa using hj
   have hlt2 : decide (j < l.length) = true := by simpa using hj
   obtain ⟨b, o, A', c', rfl, _, c0, c1, c2, hs, htm⟩ := (HR.out.below HB.out hhi (Nat.le_refl _)).at_ hj
   have HTS := qh (show l.take (j + 1) = l.take j ++ [l[j]] from by rw [List.take_succ_eq_append_getElem hj])
   have hba : Below wr.heap.size wr (wr.alloc (.cells #[.int .u64 (l[j]'hj).tm, .bool (l[j]'hj).gone, .slice A' (l[j]'hj).dat.length c'] 182)) := (Below.refl _ wr).alloc (Nat.le_refl _) _
   have hsz := HB.out.size
   have HCall := qh (qaL (l[j]'hj) A' c' hi (wr.alloc (.cells #[.int .u64 (l[j]'hj).tm, .bool (l[j]'hj).gone, .slice A' (l[j]'hj).dat.length c'] 182)) (HD.out _ (List.getElem_mem hj)) (hs.below hba (by omega) (Nat.le_refl _)) (by simp; omega))
   have HBA := qh hba
   have HTM := qh htm
   clear hs htm hba
   generalize l[j] = x at *
   obtain ⟨tm, gone, dat⟩ := x
   unfold q2T at HCall
   simp only at c0 c1 c2 HCall HTM HBA
   have hown := HO.out.lt w.heap.size rfl
   go_wp2_with fail
   refine HCall.out.mono ?_
   rintro r w2 ⟨A9, c9, rfl, r1, r2, r3, hrd, hb2⟩
   have hb3 := HBA.out.trans (hb2.mono HBA.out.size)
   have HO2 := qh ((HO.out.below hb3).allocs (.cells #[.int .u64 tm, .bool gone, .slice A9 dat.length c9] 182))
   have HB2 := qh ((Below.refl wr.heap.size wr).trans hb3)
   have HX := qh (show wr.heap.size + 1 ≤ w2.heap.size by have := hb2.size; simpa using this)
   have HV := qh (show q5v w2 (w.heap.size + 1) w2.heap.size ⟨⟨tm, gone, dat⟩, A9, c9⟩ from ⟨HTM.out, r1, r2, r3, hrd.wide (by simp; omega) (Nat.le_refl _)⟩)
   have HKP : Hid (∀ w3, (w2.alloc (.cells #[.int .u64 tm, .bool gone, .slice A9 dat.length c9] 182)).grownBy w3 (some w.heap.size) → (∀ g, w.heap.size + 1 ≤ g → g < w2.heap.size → w3.heap[g]? = w2.heap[g]?) ∧ w2.heap.size ≤ w3.heap.size) := qh fun w3 hg => by
    refine ⟨fun g h1 h2 => ?_, Nat.le_trans (by simp) hg.size⟩
    rw [hg.block g (by simp; omega) (by simp; omega)]
    exact ((Below.refl w2.heap.size w2).alloc (Nat.le_refl _) _).block g h2
   clear hrd hb2 hb3 r1 r2 r3 HCall c0 c1 c2
   unfold q2T
   go_wp2_with (at_builtin; (refine q5R (α := MV) (cs := q1D) _ rfl _ _ 123 182 40 mvF q91 Tryz.underlying123 rfl w.heap.size w.heap.size j l.length ms rfl HML.out.symm HO2.out w2.heap.size (w2.heap.size + 1) ⟨w2.heap.size, 0, none⟩ 1 1 [⟨⟨tm, gone, dat⟩, A9, c9⟩] rfl rfl (RowG.one (heap_alloc_new w2 _)) (by omega) ?_; intro w3 ho3 hg3; have HO3 := qh ho3; have HG3 := qh hg3; clear ho3 hg3))
   go_roundg (gk - 1)
   case measure => have := HK.out; omega
   case rel =>
    obtain ⟨k1, k2⟩ := HKP.out w3 HG3.out
    refine ⟨j + 1, ms ++ [⟨⟨tm, gone, dat⟩, A9, c9⟩], by have := HK.out; omega, rfl, by go_num, by rw [List.length_append, HML.out]; rfl, HO3.out, by rw [List.map_append, HMS.out, HTS.out]; rfl, fun x hx => ?_, ?_⟩
    ·rcases List.mem_append.1 hx with hx | hx
     ·refine (HOK.out x hx).keep (fun g h1 h2 => ?_) (Nat.le_trans HB2.out.size k2)
      rw [k1 g h1 (Nat.lt_of_lt_of_le h2 HB2.out.size)]
      exact HB2.out.block g h2
     ·rw [List.mem_singleton] at hx
      subst hx
      exact HV.out.keep k1 k2
    ·exact ((HB.out.trans (HB2.out.mono HB.out.size)).alloc (Nat.le_trans HB.out.size HB2.out.size) _).grown HG3.out (Nat.le_trans (Nat.le_trans HB.out.size HB2.out.size) (by simp)) (fun k hk => by cases hk; exact Nat.le_refl _)
  ·have hj' : j = l.length := by have := HK.out; omega
   have hlt : decide ((j : Int) < (l.length : Int)) = false := by simpa using hj
   have hml : ms.length = l.length := by rw [HML.out, hj']
   have HQ := qh (show q88 l w (.returned (.slice (some ⟨w.heap.size, 0, none⟩) l.length l.length)) wr from ⟨w.heap.size, _, ms, rfl, by rw [HMS.out, hj', List.take_length], Nat.le_refl _, (by have h := HO.out; rw [hj'] at h; exact h), fun x hx => HOK.out x hx, HB.out⟩)
   subst hj'
   clear hml
   go_wp2
   go_ret
   exact HQ.out
theorem q79 (l : List Ver) (A : Option Addr) (c low : Nat) (w : World) (hk : q4G l) (hr : ChH w w.heap.size A c l) (hri : q1A l = true) :
  Calls Tryz.prog 203 #[.slice A l.length c, .int .u64 low] w (q88 (q0m l low) w) := by
 have HUp := qh (q8x l A c low w.heap.size w hk.1 hr.2.2.2 (Nat.le_refl _) (q6B hri))
 have HCut : Hid (∀ (j : Nat) (W : World), j ≤ l.length → Calls Tryz.prog 247 #[.slice A l.length c, .int .i64 j] W fun r w' => r = .returned (.slice (cutA A l.length j) (l.length - j) (l.length - j)) ∧ W = w') := qh fun j W hj => qeR l.length A c j W (by have := hk.1; omega) hr.1 hj
 have HOwn : Hid (∀ (j : Nat) (W : World), j ≤ l.length → q0m l low = l.drop j → Below w.heap.size w W → Calls Tryz.prog 246 #[.slice (cutA A l.length j) (l.length - j) (l.length - j)] W (q88 (q0m l low) w)) := qh fun j W hj he hb => by
  have h := q9V (l.drop j) (cutA A l.length j) (l.length - j) w.heap.size W (by rw [List.length_drop]; have := hk.1; omega) (fun x hx => hk.each x (List.mem_of_mem_drop hx)) ((hr.2.2.2.below hb (Nat.le_refl _) (Nat.le_refl _)).drop j hj) hb.size
  rw [List.length_drop] at h
  rw [he]
  exact h.mono fun _ _ ⟨q, c9, ms, e, hm, hq, ho, hf, hb2⟩ => ⟨q, c9, ms, e, hm, Nat.le_trans hb.size hq, ho, hf, hb.trans (hb2.mono hb.size)⟩
 have HR := qh hr.2.2.2
 have HK := qh hk
 have HTR : Hid (q0m l low = q4g (q0Y l low) ++ l.filter fun v => decide (low < v.tm)) := qh rfl
 generalize q0m l low = T at *
 clear hr hri hk
 go_enter Tryz.func203, Tryz.ntmps203
 go_wp2_with fail
 refine HUp.out.mono ?_
 rintro r w1 ⟨⟨m, rfl, hsp⟩, hb⟩
 have HSP := qh hsp
 have HB := qh hb
 have hml : m ≤ l.length := hsp.1
 have hml2 : m ≤ 4294967296 := Nat.le_trans hml HK.out.1
 clear hsp hb HUp
 rcases Nat.eq_zero_or_pos m with rfl | hm
 ·have HT := qh (show T = l.drop 0 by rw [HTR.out, HSP.out.none_, HSP.out.behind]; rfl)
  have e1 : decide ((0 : Int) < 0) = false := rfl
  go_wp2_with fail
  refine (HCut.out 0 w1 (Nat.zero_le _)).mono ?_
  rintro r w2 ⟨rfl, rfl⟩
  go_wp2_with fail
  refine (HOwn.out 0 _ (Nat.zero_le _) HT.out HB.out).mono ?_
  rintro r w3 ⟨q, c9, ms, rfl, h9⟩
  go_wp2_with fail
  go_ret
  exact ⟨q, c9, ms, rfl, h9⟩
 ·obtain ⟨k, hk⟩ : ∃ k, m = k + 1 := ⟨m - 1, by omega⟩
  have hkl : k < l.length := by omega
  have hf : q0Y l low = some (l[k]'hkl) := q2W.some_ (by rw [← hk]; exact HSP.out)
  have d1 : decide (0 < (m : Int)) = true := by rw [decide_eq_true_iff]; omega
  have d2 : decide (0 < m) = true := by rw [decide_eq_true_iff]; omega
  have e4 : (m : Int) - 1 = (k : Int) := by omega
  have hdm : decide ((k : Int) < (l.length : Int)) = true := by rw [decide_eq_true_iff]; omega
  have hdm2 : decide (k < l.length) = true := by rw [decide_eq_true_iff]; omega
  obtain ⟨b, o, A', c', rfl, _, c0, c1, c2, hs, htm⟩ := (HR.out.below HB.out (Nat.le_refl _) (Nat.le_refl _)).at_ hkl
  have HD := qh (show l.drop k = l[k]'hkl :: l.drop m by rw [hk]; exact List.drop_eq_getElem_cons hkl)
  have HF := qh hf
  have hkm : k ≤ l.length := by omega
  clear hs htm hf hk
  generalize l[k] = x at *
  obtain ⟨tm, gone, dat⟩ := x
  simp only at c0 c1 c2
  cases gone
  ·have HT := qh (show T = l.drop k by rw [HTR.out, HF.out, HSP.out.behind, HD.out]; rfl)
   go_wp2_with fail
   refine (HCut.out k w1 hkm).mono ?_
   rintro r w2 ⟨rfl, rfl⟩
   go_wp2_with fail
   refine (HOwn.out k _ hkm HT.out HB.out).mono ?_
   rintro r w3 ⟨q, c9, ms, rfl, h9⟩
   go_wp2_with fail
   go_ret
   exact ⟨q, c9, ms, rfl, h9⟩
  ·have HT := qh (show T = l.drop m by rw [HTR.out, HF.out, HSP.out.behind]; rfl)
   go_wp2_with fail
   refine (HCut.out m w1 hml).mono ?_
   rintro r w2 ⟨rfl, rfl⟩
   go_wp2_with fail
   refine (HOwn.out m _ hml HT.out HB.out).mono ?_
   rintro r w3 ⟨q, c9, ms, rfl, h9⟩
   go_wp2_with fail
   go_ret
   exact ⟨q, c9, ms, rfl, h9⟩
open Go.RowKit
structure Sz where
 k : Nat
 v : Nat
 b : Nat
def szS (K : KsS) : Sz := ⟨K.length, q1q K, q3f K⟩
def upG (st : PS) (l : List Wr) (j : Nat) : KsS := (l.take j).foldl (q1e st) st.K
def q31 (l : List Ver) (now : Nat) (gone : Bool) : Int := if (gone && !(getH l now).isSome) = true then 0 else if l.isEmpty = true then 1 else 2
theorem qdd {l : List Ver} {t u : Nat} (h : ∀ v ∈ l, v.tm ≤ t) (hu : t ≤ u) : getH l u = getH l t := by
 have e : ∀ s, t ≤ s → (l.filter fun v => decide (v.tm ≤ s)) = l := fun s hs => by
  rw [List.filter_eq_self]
  intro x hx
  have := h x hx
  simp
  omega
 unfold getH q0Y
 rw [e u hu, e t (Nat.le_refl _)]
section
variable {st : PS} {l : List Wr} {j : Nat}
theorem q8g (h : OkS st) (w : Wr) {t : Nat} (ht : st.time ≤ t) : q31 (q03 st.K w.key) t w.gone = if q1x st w = true then (if (q03 st.K w.key).isEmpty = true then 1 else 2) else 0 := by
 unfold q31 q1x q1v
 rw [qdd (h.upto w.key) ht]
 cases w.gone <;> cases getH (q03 st.K w.key) st.time <;> simp
theorem qay : upG st l l.length = q0n st l := by unfold upG q0n; rw [List.take_length]
theorem qbh (hj : j < l.length) : upG st l (j + 1) = q1e st (upG st l j) (l[j]'hj) := by
 unfold upG
 rw [List.take_succ_eq_append_getElem hj, List.foldl_append]
 rfl
theorem qbg (h : OkS st) (hc : q0h [] l = 0) (j : Nat) : q0F (upG st l j) ∧ q2i (upG st l j) ∧ ∀ i (hi : i < l.length), j ≤ i → q03 (upG st l j) (l[i]'hi).key = q03 st.K (l[i]'hi).key := by
 obtain ⟨_, h2⟩ := q0M hc
 obtain ⟨k1, k2, k3⟩ := q6M st (l.take j) st.K (List.Pairwise.sublist (List.take_sublist _ _) h2) h.sort h.full fun _ _ => rfl
 refine ⟨k1, k2, fun i hi hji => ?_⟩
 have h3 := k3 (l[i]'hi).key
 have hno : (l.take j).find? (fun w => w.key == (l[i]'hi).key) = none := List.find?_eq_none.2 fun x hx => by
  obtain ⟨m, hm, rfl⟩ := List.mem_take_iff_getElem.1 hx
  have := q1j (List.pairwise_iff_getElem.1 h2 m i (by omega) hi (by omega))
  simpa using this
 rw [hno] at h3
 exact h3
theorem qbf (hj : j < l.length) (hcm : q1x st (l[j]'hj) = false) : upG st l (j + 1) = upG st l j := by
 rw [qbh hj]
 unfold q1e
 rw [hcm]
 rfl
theorem q86 (h : OkS st) (hc : q0h [] l = 0) (hj : j < l.length) (hcm : q1x st (l[j]'hj) = true) : upG st l (j + 1) = putS (upG st l j) (l[j]'hj).key (q03 st.K (l[j]'hj).key ++ [verW st (l[j]'hj)]) := by
 rw [qbh hj]
 unfold q1e
 rw [if_pos hcm, qco (v := verW st (l[j]'hj)) (h.rightC _) ((q0M hc).1 _ (List.getElem_mem hj)).2.2.2 (Nat.lt_succ_of_le (q7P (h.upto _)))]
theorem qfI {K : KsS} (h : q0F K) (hf : q2i K) (k : KeyS) (v : Ver) :
  szS (putS K k (q03 K k ++ [v])) = if (q03 K k).isEmpty = true then ⟨K.length + 1, q1q K + 1, q3f K + k.length + v.dat.length⟩ else ⟨K.length, q1q K + 1, q3f K + v.dat.length⟩ := by
 have f2 := qaP hf k (q03 K k ++ [v])
 have s1 := qav q44.1 h hf k (q03 K k ++ [v])
 have s2 := qav q44.2.1 h hf k (q03 K k ++ [v])
 have s3 := qav q44.2.2 h hf k (q03 K k ++ [v])
 have e1 := q4j f2
 have e2 := q2C (putS K k (q03 K k ++ [v]))
 have e3 := q3g f2
 have d1 := q4j hf
 have d2 := q2C K
 have d3 := q3g hf
 have hsz : q0z (q03 K k ++ [v]) = q0z (q03 K k) + v.dat.length := by rw [q6F]; simp [q0z]
 have q1 : m1 k (q03 K k ++ [v]) = 1 := if_neg (by simp)
 have q2 : m2 k (q03 K k ++ [v]) = (q03 K k).length + 1 := by unfold m2; rw [List.length_append, List.length_singleton]
 have q3 : m3 k (q03 K k ++ [v]) = k.length + (q0z (q03 K k) + v.dat.length) := by rw [← hsz]; exact if_neg (by simp)
 rw [q1] at s1
 rw [q2] at s2
 rw [q3] at s3
 unfold szS
 by_cases hch : q03 K k = []
 ·have r1 : m1 k (q03 K k) = 0 := if_pos hch
  have r2 : m2 k (q03 K k) = 0 := by unfold m2; rw [hch]; rfl
  have r3 : m3 k (q03 K k) = 0 := if_pos hch
  have r4 : (q03 K k).length = 0 := by rw [hch]; rfl
  have r5 : q0z (q03 K k) = 0 := by rw [hch]; rfl
  rw [if_pos (by rw [hch]; rfl)]
  rw [Sz.mk.injEq]
  omega
 ·have r1 : m1 k (q03 K k) = 1 := if_neg hch
  have r2 : m2 k (q03 K k) = (q03 K k).length := rfl
  have r3 : m3 k (q03 K k) = k.length + q0z (q03 K k) := if_neg hch
  rw [if_neg (by simpa using hch)]
  rw [Sz.mk.injEq]
  omega
end
def AltH : Bool → List Ver → Prop
 | _, [] => True
 | p, v :: l => (p = true → v.gone = false) ∧ AltH v.gone l
def q6n : Bool → List Ver → Bool
 | p, [] => p
 | _, v :: l => q6n v.gone l
theorem q4W : ∀ (a b : List Ver) (p : Bool), AltH p (a ++ b) ↔ AltH p a ∧ AltH (q6n p a) b
 | [], b, p => by simp [AltH, q6n]
 | v :: a, b, p => by
  simp only [List.cons_append, AltH, q6n]
  rw [q4W a b v.gone, and_assoc]
theorem q4i : ∀ (a b : List Ver) (p : Bool), q6n p (a ++ b) = q6n (q6n p a) b
 | [], b, p => rfl
 | v :: a, b, p => q4i a b v.gone
def AltC (l : List Ver) : Prop := AltH true l
def AltS (K : KsS) : Prop := ∀ k, AltC (q03 K k)
theorem qfw {l : List Ver} (h : l.Pairwise fun a b => a.tm < b.tm) (t : Nat) : l = (l.filter fun v => decide (v.tm ≤ t)) ++ (l.filter fun v => decide (t < v.tm)) := by
 induction l with
 | nil => rfl
 | cons v l ih =>
  obtain ⟨h1, h2⟩ := List.pairwise_cons.1 h
  rw [List.filter_cons, List.filter_cons]
  by_cases hv : v.tm ≤ t
  ·rw [if_pos (by simpa using hv), if_neg (by simp; omega), List.cons_append, ← ih h2]
  ·have e1 : (l.filter fun v => decide (v.tm ≤ t)) = [] := by
    rw [List.filter_eq_nil_iff]
    intro x hx
    have := h1 x hx
    simp
    omega
   have e2 : (l.filter fun v => decide (t < v.tm)) = l := by
    rw [List.filter_eq_self]
    intro x hx
    have := h1 x hx
    simp
    omega
   rw [if_neg (by simpa using hv), if_pos (by simp; omega), e1, e2, List.nil_append]
theorem qeF {l : List Ver} (h : l.Pairwise fun a b => a.tm < b.tm) (ha : AltC l) (low : Nat) : AltC (q0m l low) := by
 unfold AltC q0m q0Y at *
 have hs := qfw h low
 generalize (l.filter fun v => decide (v.tm ≤ low)) = a at *
 generalize (l.filter fun v => decide (low < v.tm)) = b at *
 subst hs
 rw [q4W] at ha
 rcases List.eq_nil_or_concat a with rfl | ⟨c, v, rfl⟩
 ·exact ha.2
 ·rw [List.concat_eq_append] at *
  have e : q6n true (c ++ [v]) = v.gone := by rw [q4i]; rfl
  rw [e] at ha
  rw [List.getLast?_append, List.getLast?_singleton, Option.some_or]
  cases hg : v.gone
  ·rw [q3V hg]
   rw [hg] at ha
   exact ⟨fun _ => hg, by rw [hg]; exact ha.2⟩
  ·rw [q34 hg]
   rw [hg] at ha
   exact ha.2
theorem qf8 {l : List Ver} {t : Nat} (h : ∀ v ∈ l, v.tm ≤ t) : q6n true l = (getH l t).isNone := by
 have e : (l.filter fun v => decide (v.tm ≤ t)) = l := by
  rw [List.filter_eq_self]
  intro x hx
  simpa using h x hx
 unfold getH q0Y
 rw [e]
 rcases List.eq_nil_or_concat l with rfl | ⟨c, v, rfl⟩
 ·rfl
 ·rw [List.concat_eq_append, q4i, List.getLast?_append, List.getLast?_singleton, Option.some_or]
  unfold qg5 q6n
  cases hg : v.gone <;> simp [q6n, hg]
theorem qfR {st : PS} (h : OkS st) (w : Wr) (ha : AltC (q03 st.K w.key)) (hcm : q1x st w = true) : AltC (q03 st.K w.key ++ [verW st w]) := by
 unfold AltC
 rw [q4W]
 refine ⟨ha, fun hp => ?_, trivial⟩
 rw [qf8 (h.upto w.key)] at hp
 show w.gone = false
 unfold q1x q1v at hcm
 rw [hp] at hcm
 simpa using hcm
theorem qaD {st : PS} {l : List Wr} (h : OkS st) (hc : q0h [] l = 0) (ha : AltS st.K) : AltS (q0n st l) := fun k => by
 rw [(q5f h hc).2.2 k]
 rcases q3u h hc k with e | ⟨w, _, hk, hcm, e, _⟩
 ·rw [e]
  exact ha k
 ·rw [e]
  subst hk
  exact qfR h w (ha _) hcm
theorem q5Q {st : PS} (h : OkS st) (ha : AltS st.K) (low : Nat) : AltS (q05 st.K low) := fun k => by
 rw [q0q h.sort]
 exact qeF (h.rise k) (ha k) low
theorem qeE : AltS [] := fun _ => trivial
theorem q7t {l : List Ver} (h : l.Pairwise fun a b => a.tm < b.tm) (ha : AltC l) (low : Nat) (hl : ∀ (h1 : 1 < l.length), low < (l[1]'h1).tm) : q0m l low = l := by
 cases l with
 | nil => rfl
 | cons v l =>
  have hv : v.gone = false := ha.1 rfl
  have hb : ∀ x ∈ l, low < x.tm := fun x hx => by
   cases l with
   | nil => cases hx
   | cons y l =>
    have h1 := hl (by simp)
    simp only [List.getElem_cons_succ, List.getElem_cons_zero] at h1
    rcases List.mem_cons.1 hx with rfl | hx
    ·exact h1
    ·have := (List.pairwise_cons.1 (List.pairwise_cons.1 h).2).1 x hx
     omega
  have e1 : (l.filter fun v => decide (v.tm ≤ low)) = [] := by
   rw [List.filter_eq_nil_iff]
   intro x hx
   have := hb x hx
   simp
   omega
  have e2 : (l.filter fun v => decide (low < v.tm)) = l := by
   rw [List.filter_eq_self]
   intro x hx
   simpa using hb x hx
  unfold q0m q0Y
  rw [List.filter_cons, List.filter_cons, e1, e2]
  by_cases hvl : v.tm ≤ low
  ·rw [if_pos (by simpa using hvl), if_neg (by simp; omega)]
   show q4g (some v) ++ l = v :: l
   rw [q3V hv]
   rfl
  ·rw [if_neg (by simpa using hvl), if_pos (by simp; omega)]
   rfl
open Go.RowKit
def q6H (z : Sz) : Value := .agg #[.int .i64 (z.k : Int), .int .i64 (z.v : Int), .int .i64 (z.b : Int)]
def boxS (L : LimS) (m r v : Int) (now B : Nat) (kv : Value) (z : Sz) : Array Value :=
 #[.int .i64 L.keys, .int .i64 L.vers, .int .i64 L.byts, .int .i64 m, .int .i64 r, .int .i64 v, .int .u64 L.last, .int .u64 now, .map (some B), kv, .int .i64 (z.k : Int), .int .i64 (z.v : Int), .int .i64 (z.b : Int)]
def OkD (w : World) (D : Nat → Prop) (x : MV) : Prop := x.v.tm < 18446744073709551616 ∧ x.v.dat.length ≤ x.c ∧ x.c ≤ maxLen ∧ (x.A = none → x.c = 0) ∧ RdD w D x.A x.v.dat
def OwnC (w : World) (D : Nat → Prop) (v : Value) (l : List Ver) : Prop := ∃ ms : List MV, ms.map MV.v = l ∧ OwnG 182 3 q1D w 0 v ms ∧ ∀ x ∈ ms, OkD w D x
section
variable {w w' : World} {D D' : Nat → Prop} {x : MV} {v : Value} {l : List Ver} {hi lo : Nat}
theorem OkD.keep (h : OkD w D x) (hk : ∀ b, D b → w'.heap[b]? = w.heap[b]?) (hd : ∀ b, D b → D' b) : OkD w' D' x :=
 ⟨h.1, h.2.1, h.2.2.1, h.2.2.2.1, fun hn => by
  obtain ⟨b, o, e, h1, h2⟩ := h.2.2.2.2 hn
  exact ⟨b, o, e, hd b h1, fun j hj => (World.cell?_of_block (a := ⟨b, o + j, none⟩) (hk b h1)).trans (h2 j hj)⟩⟩
theorem OkD.ok (h : OkD w D x) (hd : ∀ b, D b → b < hi) : OkMV w hi x :=
 ⟨h.1, h.2.1, h.2.2.1, h.2.2.2.1, fun hn => by
  obtain ⟨b, o, e, h1, h2⟩ := h.2.2.2.2 hn
  exact ⟨b, o, e, Nat.zero_le _, hd b h1, h2⟩⟩
theorem q5v.okD (h : q5v w lo hi x) (hd : ∀ b, lo ≤ b → b < hi → D b) : OkD w D x :=
 ⟨h.1, h.2.1, h.2.2.1, h.2.2.2.1, fun hn => by
  obtain ⟨b, o, e, h1, h2, h3⟩ := h.2.2.2.2 hn
  exact ⟨b, o, e, hd b h1 h2, h3⟩⟩
theorem OwnC.keep (h : OwnC w D v l) (hk : ∀ b, D b → w'.heap[b]? = w.heap[b]?) (hd : ∀ b, D b → D' b) (hv : ∀ b, v.ownBlock = some b → w'.heap[b]? = w.heap[b]?) : OwnC w' D' v l := by
 obtain ⟨ms, e, h1, h2⟩ := h
 exact ⟨ms, e, h1.keep (fun g hg _ => hv g hg) (Nat.le_refl _), fun x hx => (h2 x hx).keep hk hd⟩
theorem OwnC.ch (h : OwnC w D v l) (hd : ∀ b, D b → b < w.heap.size) : ∃ A c, v = .slice A l.length c ∧ ChH w w.heap.size A c l := by
 obtain ⟨ms, rfl, h1, h2⟩ := h
 obtain ⟨A, c, e, k1, k2, k3, k4⟩ := h1.form
 refine ⟨A, c, by rw [List.length_map]; exact e, by rw [List.length_map]; exact k1, k2, k3, ms, rfl, k4, fun x hx => (h2 x hx).ok hd⟩
end
def valS (g : KeyS → List Ver) (cv : KeyS → Value) (k : KeyS) : Value := if (g k).isEmpty = true then .slice none 0 0 else cv k
def mapG (g : KeyS → List Ver) (cv : KeyS → Value) (k : KeyS) : Option Value := if (g k).isEmpty = true then none else some (cv k)
structure RawS (w : World) (p : Nat) (F D : Nat → Prop) (B : Nat) (kv : Value) (cv : KeyS → Value) (L : LimS) (m r v : Int) (now : Nat) (g : KeyS → List Ver) (ks : List KeyS) (z : Sz) : Prop where
 box : w.heap[p]? = some (.cells (boxS L m r v now B kv z) 165 (0, 0))
 map : MapS w B (mapG g cv)
 keys : OwnG 9 1 q0w w 0 kv ks
 chain : ∀ k, g k ≠ [] → OwnC w D (cv k) (g k)
 Fp : F p
 FB : F B
 Fk : ∀ b, kv.ownBlock = some b → F b
 Fc : ∀ k, g k ≠ [] → ∀ b, (cv k).ownBlock = some b → F b
 FD : ∀ b, D b → F b
 lt : ∀ b, F b → b < w.heap.size
 pB : p ≠ B
 kvp : ∀ b, kv.ownBlock = some b → b ≠ p ∧ b ≠ B ∧ ¬ D b
 cvp : ∀ k, g k ≠ [] → ∀ b, (cv k).ownBlock = some b → b ≠ p ∧ b ≠ B ∧ ¬ D b ∧ kv.ownBlock ≠ some b
 apart : ∀ k k', g k ≠ [] → g k' ≠ [] → k ≠ k' → ∀ b, (cv k).ownBlock = some b → (cv k').ownBlock ≠ some b
 Dp : ¬ D p
 DB : ¬ D B
theorem qdo : q2a Tryz.prog 9 1 16 := q2a.of (by kernel_rfl)
theorem qfK (w : World) : (zeroValue 123).run Tryz.prog w = .ok (.slice none 0 0) w := by kernel_rfl
section
variable {w w' : World} {p : Nat} {F D : Nat → Prop} {B : Nat} {kv : Value} {cv : KeyS → Value} {L : LimS} {m r v : Int} {now : Nat} {g : KeyS → List Ver} {ks : List KeyS} {z : Sz}
theorem RawS.keep (h : RawS w p F D B kv cv L m r v now g ks z) (hk : ∀ b, F b → w'.heap[b]? = w.heap[b]?) : RawS w' p F D B kv cv L m r v now g ks z where
 box := (hk p h.Fp).trans h.box
 map := h.map.keep (hk B h.FB)
 keys := OwnG.keep h.keys (fun b hb _ => hk b (h.Fk b hb)) (Nat.le_refl _)
 chain := fun k hg => (h.chain k hg).keep (fun b hb => hk b (h.FD b hb)) (fun _ hb => hb) (fun b hb => hk b (h.Fc k hg b hb))
 Fp := h.Fp
 FB := h.FB
 Fk := h.Fk
 Fc := h.Fc
 FD := h.FD
 lt := fun b hb => by
  have e := hk b hb
  have h1 := h.lt b hb
  rw [Array.getElem?_eq_getElem h1] at e
  exact (Array.getElem?_eq_some_iff.1 e).1
 pB := h.pB
 kvp := h.kvp
 cvp := h.cvp
 apart := h.apart
 Dp := h.Dp
 DB := h.DB
theorem RawS.below (h : RawS w p F D B kv cv L m r v now g ks z) (hb : Below w.heap.size w w') : RawS w' p F D B kv cv L m r v now g ks z := h.keep fun b hf => hb.block b (h.lt b hf)
theorem RawS.look (h : RawS w p F D B kv cv L m r v now g ks z) (k : KeyS) : (Instr.lookup 162 (.map (some B)) (.string (bs k)) false).run Tryz.prog w = .ok (valS g cv k) w := by
 have e := MapS.look (P := Tryz.prog) (t := 162) (kt := 9) (et := 123) h.map Tryz.underlying162 Tryz.underlying9 (qfK w) false k
 unfold keyV at e
 rw [e]
 unfold valS mapG
 cases (g k).isEmpty <;> rfl
theorem RawS.look2 (h : RawS w p F D B kv cv L m r v now g ks z) (k : KeyS) : (Instr.lookup 162 (.map (some B)) (.string (bs k)) true).run Tryz.prog w = .ok (.tuple #[valS g cv k, .bool (!(g k).isEmpty)]) w := by
 have e := MapS.look (P := Tryz.prog) (t := 162) (kt := 9) (et := 123) h.map Tryz.underlying162 Tryz.underlying9 (qfK w) true k
 unfold keyV at e
 rw [e]
 unfold valS mapG
 cases (g k).isEmpty <;> rfl
theorem RawS.ch (h : RawS w p F D B kv cv L m r v now g ks z) (k : KeyS) : ∃ A c, valS g cv k = .slice A (g k).length c ∧ ChH w w.heap.size A c (g k) := by
 unfold valS
 cases hg : g k with
 | nil => exact ⟨none, 0, by simp, ChH.none_ _ _⟩
 | cons x l =>
  have h1 := (h.chain k (by rw [hg]; simp)).ch (fun b hb => h.lt b (h.FD b hb))
  rw [hg] at h1
  simpa using h1
theorem RawS.cell (h : RawS w p F D B kv cv L m r v now g ks z) (i : Nat) (u : Value) (hu : (boxS L m r v now B kv z)[i]? = some u) : w.cell? ⟨p, i, none⟩ = some u := by
 rw [cell_of_row w p i _ _ _ h.box]
 exact hu
theorem RawS.now_ (h : RawS w p F D B kv cv L m r v now g ks z) : w.cell? ⟨p, 7, none⟩ = some (.int .u64 (now : Int)) := h.cell 7 _ rfl
theorem RawS.map_ (h : RawS w p F D B kv cv L m r v now g ks z) : w.cell? ⟨p, 8, none⟩ = some (.map (some B)) := h.cell 8 _ rfl
theorem RawS.keys_ (h : RawS w p F D B kv cv L m r v now g ks z) : w.cell? ⟨p, 9, none⟩ = some kv := h.cell 9 _ rfl
theorem RawS.sz0 (h : RawS w p F D B kv cv L m r v now g ks z) : w.cell? ⟨p, 10, none⟩ = some (.int .i64 (z.k : Int)) := h.cell 10 _ rfl
theorem RawS.sz1 (h : RawS w p F D B kv cv L m r v now g ks z) : w.cell? ⟨p, 11, none⟩ = some (.int .i64 (z.v : Int)) := h.cell 11 _ rfl
theorem RawS.sz2 (h : RawS w p F D B kv cv L m r v now g ks z) : w.cell? ⟨p, 12, none⟩ = some (.int .i64 (z.b : Int)) := h.cell 12 _ rfl
theorem RawS.lim0 (h : RawS w p F D B kv cv L m r v now g ks z) : w.cell? ⟨p, 0, none⟩ = some (.int .i64 L.keys) := h.cell 0 _ rfl
theorem RawS.lim1 (h : RawS w p F D B kv cv L m r v now g ks z) : w.cell? ⟨p, 1, none⟩ = some (.int .i64 L.vers) := h.cell 1 _ rfl
theorem RawS.lim2 (h : RawS w p F D B kv cv L m r v now g ks z) : w.cell? ⟨p, 2, none⟩ = some (.int .i64 L.byts) := h.cell 2 _ rfl
theorem RawS.lim6 (h : RawS w p F D B kv cv L m r v now g ks z) : w.cell? ⟨p, 6, none⟩ = some (.int .u64 L.last) := h.cell 6 _ rfl
theorem RawS.frozen (h : RawS w p F D B kv cv L m r v now g ks z) (o : Nat) : w.frozen? ⟨p, o, none⟩ = false := q02 h.box o
end
end Go.Proofs.YtdpbllacfljmoaaGreat
