import Derived.Test.YtdpbllacfljmoaaGreatZF04
import Derived.Deep.LoopGhost
import Derived.Test.YtdpbllacfljmoaaGreatZF17
import Derived.Test.YtdpbllacfljmoaaGreatZF03
import Derived.Laws.Cover1
import Derived.Test.YtdpbllacfljmoaaGreatZF14
set_option maxRecDepth 100000
set_option maxHeartbeats 16000000
set_option linter.unusedVariables false
namespace Go.Proofs.YtdpbllacfljmoaaGreat
open Go.RowKit
theorem q61 (l : List Wr) (lo hi : Nat) (A : Option Addr) (c : Nat) (w : World) (hl : l.length ≤ 9223372036854775807) (hr : RowW w lo hi A l) (hhi : hi ≤ w.heap.size) :
  Calls Tryz.prog 83 #[.slice A l.length c] w fun r w' => r = .returned (.int .i64 (q0h [] l)) ∧ Below w.heap.size w w' := by
 have HR := qh hr
 have hleq := qas
 clear hr
 go_enter Tryz.func83, Tryz.ntmps83
 go_wp2
 go_loopg [3, 8] l.length (fun q v i wr => ∃ (j : Nat) (last : KeyS), j + q = l.length ∧ i = .int .i64 j ∧ v = .string (bs last) ∧ q0h [] l = q0h last (l.drop j) ∧ Below w.heap.size w wr)
 case atStart => exact ⟨0, [], by omega, rfl, rfl, rfl, Below.refl _ _⟩
 case round =>
  obtain ⟨j, last, hk, rfl, rfl, hall, hb⟩ := hrel
  have HK := qh hk
  have HA := qh hall
  have HB := qh hb
  clear hall hb hk
  by_cases hj : j < l.length
  ·have hlt : decide ((j : Int) < (l.length : Int)) = true := by simpa using hj
   have hlt2 : decide (j < l.length) = true := by simpa using hj
   obtain ⟨b, o, A', c', rfl, _, c0, c1, c2, hs, hkl⟩ := (HR.out.below HB.out hhi (Nat.le_refl _)).at_ hj
   have HD := qh (HA.out.trans (by rw [List.drop_eq_getElem_cons hj]))
   have hdl : l[j].dat.length ≤ maxLen := Nat.le_trans hs.1 hs.2.1
   clear hs
   generalize l[j] = x at *
   obtain ⟨key, gone, dat⟩ := x
   simp only at c0 c1 c2 hdl hkl HD
   rw [← q20] at hkl
   have HBN := qh (HB.out.alloc HB.out.size (.cells #[.string (bs key), .bool gone, .slice A' dat.length c'] 37))
   have HC : Hid (q0h last (⟨key, gone, dat⟩ :: l.drop (j + 1)) = if 256 < key.length ∨ 4096 < dat.length then 3 else if blt last key = false ∨ q4H ⟨0, gone, dat⟩ = false then 1 else q0h key (l.drop (j + 1))) := qh rfl
   unfold maxLen at hdl hkl
   by_cases h1 : 256 < (bs key).size
   ·have d1 : decide (256 < ((bs key).size : Int)) = true := by rw [decide_eq_true_iff]; omega
    have d2 : decide (256 < (bs key).size) = true := by rw [decide_eq_true_iff]; omega
    have HF := qh (HD.out.trans (HC.out.trans (if_pos (.inl (by rw [← q20]; exact h1)))))
    clear h1
    go_wp2
    go_ret
    rw [HF.out]
    exact ⟨rfl, HBN.out⟩
   ·have d1 : decide (256 < ((bs key).size : Int)) = false := by rw [decide_eq_false_iff_not]; omega
    have d2 : decide (256 < (bs key).size) = false := by rw [decide_eq_false_iff_not]; omega
    by_cases h2 : 4096 < dat.length
    ·have d3 : decide (4096 < (dat.length : Int)) = true := by rw [decide_eq_true_iff]; omega
     have d4 : decide (4096 < dat.length) = true := by rw [decide_eq_true_iff]; omega
     have HF := qh (HD.out.trans (HC.out.trans (if_pos (.inr h2))))
     clear h1 h2
     go_wp2
     go_ret
     rw [HF.out]
     exact ⟨rfl, HBN.out⟩
    ·have d3 : decide (4096 < (dat.length : Int)) = false := by rw [decide_eq_false_iff_not]; omega
     have d4 : decide (4096 < dat.length) = false := by rw [decide_eq_false_iff_not]; omega
     have hn1 : ¬ (256 < key.length ∨ 4096 < dat.length) := by rw [q20] at h1; omega
     have HD2 := qh (HD.out.trans (HC.out.trans (if_neg hn1)))
     clear hn1 h1 h2
     by_cases h3 : blt last key = true
     ·have q1 : Op.bytesLess (bs key).toList (bs last).toList = false := by rw [q4Y]; exact q1Z h3
      have q2 : ((bs key).toList == (bs last).toList) = false := by rw [q4a]; exact q5S fun e => q1j h3 e.symm
      cases gone
      ·have HF := qh (HD2.out.trans (if_neg (by rw [h3, show q4H ⟨0, false, dat⟩ = true from rfl]; simp)))
       clear h3
       go_wp2
       go_roundg (gk - 1)
       case measure => have := HK.out; omega
       case rel => exact ⟨j + 1, key, by have := HK.out; omega, by go_num, rfl, HF.out, HBN.out⟩
      ·by_cases h4 : 0 < dat.length
       ·have d5 : decide (0 < (dat.length : Int)) = true := by rw [decide_eq_true_iff]; omega
        have d6 : decide (0 < dat.length) = true := by rw [decide_eq_true_iff]; omega
        have HF := qh (HD2.out.trans (if_pos (.inr (show (!(true && decide (0 < dat.length))) = false by rw [d6]; rfl))))
        clear h3 h4
        go_wp2
        go_ret
        rw [HF.out]
        exact ⟨rfl, HBN.out⟩
       ·have d5 : decide (0 < (dat.length : Int)) = false := by rw [decide_eq_false_iff_not]; omega
        have d6 : decide (0 < dat.length) = false := by rw [decide_eq_false_iff_not]; omega
        have HF := qh (HD2.out.trans (if_neg (by
         rw [h3, show q4H ⟨0, true, dat⟩ = true from (show (!(true && decide (0 < dat.length))) = true by rw [d6]; rfl)]
         simp)))
        clear h3 h4
        go_wp2
        go_roundg (gk - 1)
        case measure => have := HK.out; omega
        case rel => exact ⟨j + 1, key, by have := HK.out; omega, by go_num, rfl, HF.out, HBN.out⟩
     ·have h3f : blt last key = false := by simpa using h3
      have q1 : (Op.bytesLess (bs key).toList (bs last).toList || (bs key).toList == (bs last).toList) = true := by
       rw [q4Y, q4a]
       rcases q2c last key with g | g | g
       ·exact absurd g h3
       ·rw [g, beq_self_eq_true, Bool.or_true]
       ·rw [g, Bool.true_or]
      have HF := qh (HD2.out.trans (if_pos (.inl h3f)))
      clear h3 h3f
      go_wp2
      go_ret
      rw [HF.out]
      exact ⟨rfl, HBN.out⟩
  ·have hj' : j = l.length := by have := HK.out; omega
   have hlt : decide ((j : Int) < (l.length : Int)) = false := by simpa using hj
   have HF := qh (show q0h [] l = 0 by rw [HA.out, hj', List.drop_length]; rfl)
   clear hj'
   go_wp2
   go_ret
   rw [HF.out]
   exact ⟨rfl, HB.out⟩
open Go.RowKit
structure q5g (st : PS) : Prop where
 len : st.K.length ≤ 1048576
 vers : q1q st.K ≤ 1048576
 byts : q3f st.K ≤ 1048576
theorem q5g.ok {st : PS} (h : q5g st) (k : KeyS) : q4G (q03 st.K k) := by
 have := q9B st.K k
 have := h.vers
 have := h.byts
 exact ⟨by omega, by omega⟩
theorem qbl {st : PS} {l : List Wr} (h : OkS st) (hs : q5g st) (hc : q0h [] l = 0) : ∀ (j : Nat), j ≤ l.length → (szS (upG st l j)).k ≤ 1048576 + j ∧ (szS (upG st l j)).v ≤ 1048576 + j ∧ (szS (upG st l j)).b ≤ 1048576 + j * 4352
 | 0, _ => ⟨by have := hs.len; simpa [upG, szS] using this, by have := hs.vers; simpa [upG, szS] using this, by have := hs.byts; simpa [upG, szS] using this⟩
 | j + 1, hj => by
  have ih := qbl h hs hc j (by omega)
  have hjl : j < l.length := by omega
  cases hcm : q1x st (l[j]'hjl)
  ·rw [qbf hjl hcm]
   omega
  ·obtain ⟨k1, k2, k3⟩ := qbg h hc j
   rw [q86 h hc hjl hcm, ← k3 j hjl (Nat.le_refl _), qfI k1 k2]
   have hb := (q0M hc).1 _ (List.getElem_mem hjl)
   have hv : (verW st (l[j]'hjl)).dat.length = (l[j]'hjl).dat.length := rfl
   unfold szS at ih
   simp only at ih
   split <;> (simp only [hv]; omega)
def qem (z : Sz) (i : Int) (w : Wr) : Sz := if i = 1 then ⟨z.k + 1, z.v + 1, z.b + w.key.length + w.dat.length⟩ else if i = 2 then ⟨z.k, z.v + 1, z.b + w.dat.length⟩ else z
theorem up_add {st : PS} {l : List Wr} {j : Nat} (h : OkS st) (hc : q0h [] l = 0) (hj : j < l.length) : szS (upG st l (j + 1)) = qem (szS (upG st l j)) (q31 (q03 st.K (l[j]'hj).key) st.time (l[j]'hj).gone) (l[j]'hj) := by
 rw [q8g h (l[j]'hj) (Nat.le_refl _)]
 cases hcm : q1x st (l[j]'hj)
 ·rw [qbf hj hcm, if_neg (by simp)]
  rfl
 ·obtain ⟨k1, k2, k3⟩ := qbg h hc j
  rw [q86 h hc hj hcm, if_pos rfl, ← k3 j hj (Nat.le_refl _), qfI k1 k2]
  unfold qem
  cases (q03 (upG st l j) (l[j]'hj).key).isEmpty <;> rfl
section
variable {w : World} {p : Nat} {F D : Nat → Prop} {B : Nat} {kv : Value} {cv : KeyS → Value} {L : LimS} {m r v : Int} {ks : List KeyS}
theorem q8y (st : PS) (l : List Wr) (lo hi : Nat) (A : Option Addr) (c : Nat) (h : RawS w p F D B kv cv L m r v st.time (q03 st.K) ks (szS st.K)) (ho : OkS st) (hs : q5g st) (hc : q0h [] l = 0) (hl : l.length ≤ 1048576) (hr : RowW w lo hi A l) (hhi : hi ≤ w.heap.size) :
  Calls Tryz.prog 197 #[ptrS p, .slice A l.length c] w fun e w' => e = .returned (q6H (szS (q0n st l))) ∧ Below w.heap.size w w' := by
 obtain ⟨w0, hw0⟩ : ∃ y, w.alloc (.cells #[.int .i64 0, .int .i64 0, .int .i64 0] 60) = y := ⟨_, rfl⟩
 obtain ⟨w1, hw1⟩ : ∃ y, w0.alloc (.cells #[.int .i64 ((szS st.K).k : Int), .int .i64 ((szS st.K).v : Int), .int .i64 ((szS st.K).b : Int)] 60) = y := ⟨_, rfl⟩
 have s0 : w0.heap.size = w.heap.size + 1 := by rw [← hw0]; simp
 have s1 : w1.heap.size = w.heap.size + 2 := by rw [← hw1]; simp [s0]
 have b0 : Below w.heap.size w w0 := by rw [← hw0]; exact (Below.refl _ w).alloc (Nat.le_refl _) _
 have b1 : Below w.heap.size w w1 := b0.trans (by rw [← hw1]; exact (Below.refl _ w0).alloc (by omega) _)
 have hz : w1.heap[w.heap.size]? = some (.cells #[.int .i64 0, .int .i64 0, .int .i64 0] 60 (0, 0)) := by rw [← hw1]; exact q0G (by rw [← hw0]; exact heap_alloc_new w _) _
 have hu : w1.heap[w0.heap.size]? = some (.cells #[.int .i64 ((szS st.K).k : Int), .int .i64 ((szS st.K).v : Int), .int .i64 ((szS st.K).b : Int)] 60 (0, 0)) := by rw [← hw1]; exact heap_alloc_new w0 _
 have h0 := h.below b0
 have c10 := h0.sz0
 have c11 := h0.sz1
 have c12 := h0.sz2
 have HH := qh h
 have HO := qh ho
 have HS := qh hs
 have HC := qh hc
 have HR := qh hr
 have HHi := qh hhi
 have HW0 := qh hw0
 have HW1 := qh hw1
 have HB1 := qh b1
 have HZ := qh hz
 have HU := qh hu
 have HSz1 := qh s1
 have HS0 := qh s0
 clear h ho hs hc hr hhi hw0 hw1 b0 b1 hz hu s0 s1 h0
 unfold ptrS
 go_enter Tryz.func197, Tryz.ntmps197
 go_upto_region 1 with fail
 rw [HW0.out]
 clear HW0
 go_upto_region 2 with fail
 rw [HW1.out]
 clear HW1 c10 c11 c12
 go_wp2_with fail
 go_loopg [14] l.length (fun q i wr => ∃ j : Nat, j + q = l.length ∧ i = .int .i64 j ∧ wr.heap[w.heap.size]? = some (.cells #[.int .i64 0, .int .i64 0, .int .i64 0] 60 (0, 0)) ∧
  wr.heap[w0.heap.size]? = some (.cells #[.int .i64 ((szS (upG st l j)).k : Int), .int .i64 ((szS (upG st l j)).v : Int), .int .i64 ((szS (upG st l j)).b : Int)] 60 (0, 0)) ∧ Below w.heap.size w wr)
 case atStart => exact ⟨0, by omega, rfl, HZ.out, HU.out, HB1.out⟩
 case round =>
  obtain ⟨j, hk, rfl, hz, hu, hb⟩ := hrel
  have HK := qh hk
  have HZ2 := qh hz
  have HU2 := qh hu
  have HB := qh hb
  clear hk hz hu hb
  by_cases hj : j < l.length
  ·have hlt : decide ((j : Int) < (l.length : Int)) = true := by simpa using hj
   have hlt2 : decide (j < l.length) = true := by simpa using hj
   obtain ⟨b, o, A', c', rfl, _, d0, d1, d2, hs, hkl⟩ := (HR.out.below HB.out HHi.out (Nat.le_refl _)).at_ hj
   have hbd := qbl HO.out HS.out HC.out j (by omega)
   have hwb := (q0M HC.out).1 _ (List.getElem_mem hj)
   have HAdd := qh (up_add HO.out HC.out hj)
   obtain ⟨w2, hw2⟩ : ∃ y, wr.alloc (.cells #[.string (bs (l[j]'hj).key), .bool (l[j]'hj).gone, .slice A' (l[j]'hj).dat.length c'] 37) = y := ⟨_, rfl⟩
   have hsz := HB.out.size
   have b2 : Below w.heap.size w w2 := by rw [← hw2]; exact HB.out.alloc hsz _
   have s2 : w2.heap.size = wr.heap.size + 1 := by rw [← hw2]; simp
   have hx2 : w2.heap[wr.heap.size]? = some (.cells #[.string (bs (l[j]'hj).key), .bool (l[j]'hj).gone, .slice A' (l[j]'hj).dat.length c'] 37 (0, 0)) := by rw [← hw2]; exact heap_alloc_new wr _
   have hz2 := q01 HZ2.out (show Below wr.heap.size wr w2 by rw [← hw2]; exact (Below.refl _ wr).alloc (Nat.le_refl _) _) (q00 HZ2.out)
   have hu2 := q01 HU2.out (show Below wr.heap.size wr w2 by rw [← hw2]; exact (Below.refl _ wr).alloc (Nat.le_refl _) _) (q00 HU2.out)
   have HCall := qh (q60 (HH.out.below b2) (l[j]'hj).key (l[j]'hj).gone A' (l[j]'hj).dat.length c' (HS.out.ok _) (HO.out.rightC _))
   have x0 := cell_of_row _ _ 0 _ _ _ hx2
   have x1 := cell_of_row _ _ 1 _ _ _ hx2
   have x2 := cell_of_row _ _ 2 _ _ _ hx2
   have HX2 := qh hx2
   have HZ3 := qh hz2
   have HU3 := qh hu2
   have HB2 := qh b2
   have HS2 := qh s2
   have HW2 := qh hw2
   clear hs hx2 hz2 hu2 b2 s2 hw2 hkl hsz
   generalize q31 (q03 st.K (l[j]'hj).key) st.time (l[j]'hj).gone = br at *
   generalize hX : l[j] = X at *
   obtain ⟨key, gone, dat⟩ := X
   simp only at d0 d1 d2 hwb HAdd HCall x0 x1 x2 HX2 HW2
   clear hX
   generalize hZ : szS (upG st l j) = Z at *
   obtain ⟨zk, zv, zb⟩ := Z
   simp only at hbd HU3 HU2
   clear hZ
   go_upto_region 5 with fail
   rw [HW2.out]
   clear HW2 d0 d1 d2
   unfold ptrS at HCall
   go_wp2_with fail
   refine HCall.out.mono ?_
   rintro e w3 ⟨rfl, hb3⟩
   have hx3 := q01 HX2.out hb3 (q00 HX2.out)
   have hz3 := q01 HZ3.out hb3 (q00 HZ3.out)
   have hu3 := q01 HU3.out hb3 (q00 HU3.out)
   have y0 := cell_of_row _ _ 0 _ _ _ hx3
   have y2 := cell_of_row _ _ 2 _ _ _ hx3
   have u0 := cell_of_row _ _ 0 _ _ _ hu3
   have u1 := cell_of_row _ _ 1 _ _ _ hu3
   have u2 := cell_of_row _ _ 2 _ _ _ hu3
   have g0 := q02 hu3 0
   have g1 := q02 hu3 1
   have g2 := q02 hu3 2
   have HZ4 := qh hz3
   have HU4 := qh hu3
   have HB3 := qh (HB2.out.trans (hb3.mono HB2.out.size))
   have hne : w0.heap.size ≠ wr.heap.size := by have := q00 HU2.out; omega
   clear hx3 hz3 hu3 hb3 HCall x0 x1 x2
   have hks : (bs key).size ≤ 256 := by rw [q20]; exact hwb.2.1
   have hkz : ((bs key).size : Int) = (key.length : Int) := by rw [q20]
   have hdz : dat.length ≤ 4096 := hwb.2.2.1
   have hzb : zb ≤ 4611686018427387904 := by omega
   have hzv : zv ≤ 4611686018427387904 := by omega
   have hzk : zk ≤ 4611686018427387904 := by omega
   have hlow : w.heap.size ≤ w0.heap.size := by have := HS0.out; omega
   have hfar : w.heap.size ≠ w0.heap.size := by have := HS0.out; omega
   have HLow := qh hlow
   have HFar := qh hfar
   have HKz := qh hkz
   clear hwb hbd hkz hfar hlow
   by_cases h1 : br = 1
   ·subst h1
    go_wp2
    go_roundg (gk - 1)
    case measure => have := HK.out; omega
    case rel =>
     refine ⟨j + 1, by have := HK.out; omega, by go_num, ?_, ?_, ?_⟩
     ·rw [q0b HFar.out, q0b HFar.out, q0b HFar.out, q0b HFar.out]
      exact HZ4.out
     ·rw [HAdd.out]
      unfold qem
      rw [if_pos rfl]
      have hu4 := HU4.out
      have e9 := HKz.out
      simp [World.setCell, Array.getElem?_modify, hu4]
      omega
     ·exact (((HB3.out.setCell HLow.out _).setCell HLow.out _).setCell HLow.out _).setCell HLow.out _
   ·have q1 : (br == 1) = false := by rw [beq_eq_false_iff_ne]; exact h1
    by_cases h2 : br = 2
    ·subst h2
     go_wp2
     go_roundg (gk - 1)
     case measure => have := HK.out; omega
     case rel =>
      refine ⟨j + 1, by have := HK.out; omega, by go_num, ?_, ?_, ?_⟩
      ·rw [q0b HFar.out, q0b HFar.out]
       exact HZ4.out
      ·rw [HAdd.out]
       unfold qem
       rw [if_neg (by decide), if_pos rfl]
       have hu4 := HU4.out
       simp [World.setCell, Array.getElem?_modify, hu4]
      ·exact (HB3.out.setCell HLow.out _).setCell HLow.out _
    ·have q2 : (br == 2) = false := by rw [beq_eq_false_iff_ne]; exact h2
     go_wp2
     go_roundg (gk - 1)
     case measure => have := HK.out; omega
     case rel =>
      refine ⟨j + 1, by have := HK.out; omega, by go_num, HZ4.out, ?_, HB3.out⟩
      rw [HAdd.out]
      unfold qem
      rw [if_neg h1, if_neg h2]
      exact HU4.out
  ·have hj' : j = l.length := by have := HK.out; omega
   have hlt : decide ((j : Int) < (l.length : Int)) = false := by simpa using hj
   have hlt2 : decide (j < l.length) = false := by simpa using hj
   have HF := qh (show szS (upG st l j) = szS (q0n st l) by rw [hj', qay])
   generalize szS (upG st l j) = Z at *
   have f0 := q02 HZ2.out 0
   have f1 := q02 HZ2.out 1
   have f2 := q02 HZ2.out 2
   have z0 := cell_of_row wr _ 0 _ _ _ HZ2.out
   have z1 := cell_of_row wr _ 1 _ _ _ HZ2.out
   have z2 := cell_of_row wr _ 2 _ _ _ HZ2.out
   have u0 := cell_of_row _ _ 0 _ _ _ HU2.out
   have u1 := cell_of_row _ _ 1 _ _ _ HU2.out
   have u2 := cell_of_row _ _ 2 _ _ _ HU2.out
   have HZF := qh (q2z HZ2.out (.int .i64 (Z.k : Int)) (.int .i64 (Z.v : Int)) (.int .i64 (Z.b : Int)))
   have HB3 := qh (Below.box3 HB.out (b := w.heap.size) (Nat.le_refl _) (.int .i64 (Z.k : Int)) (.int .i64 (Z.v : Int)) (.int .i64 (Z.b : Int)))
   clear hj'
   go_wp2
   have t0 := cell_of_row _ _ 0 _ _ _ HZF.out
   have t1 := cell_of_row _ _ 1 _ _ _ HZF.out
   have t2 := cell_of_row _ _ 2 _ _ _ HZF.out
   refine bodyPost_ret (v := q6H Z) (by simp [results, Tryz.results197, go_sem, t0, t1, t2, q6H]) rfl ?_
   exact ⟨by rw [HF.out], HB3.out⟩
end
open Go.RowKit
theorem qat (t : TypeId) (a b : ByteArray) : binOp .lss t (.string a) (.string b) = pure (.bool (Op.bytesLess a.toList b.toList)) := by simp [binOp, Op.stringOp]
theorem qcR (s : ByteArray) (w : World) : Calls Tryz.prog 253 #[.string s] w fun e w' => e = .returned (.bool false) ∧ w' = w := by
 go_enter Tryz.func253, Tryz.ntmps253
 go_wp2
 go_ret
 exact ⟨rfl, rfl⟩
theorem qcS (s : ByteArray) (w : World) : Calls Tryz.prog 219 #[.string s] w fun e w' => e = .returned (.bool false) ∧ w' = w := by
 go_enter Tryz.func219, Tryz.ntmps219
 go_wp2
 go_ret
 exact ⟨rfl, rfl⟩
theorem qcP (a b : KeyS) (w : World) : Calls Tryz.prog 218 #[.string (bs a), .string (bs b)] w fun e w' => e = .returned (.bool (blt a b)) ∧ w' = w := by
 have HN := qh (qcR (bs a) w)
 have hl := qat
 have hbl := q4Y a b
 have HV : Hid (blt a b = blt a b) := qh rfl
 go_enter Tryz.func218, Tryz.ntmps218
 go_wp2_with fail
 refine HN.out.mono ?_
 rintro e w' ⟨rfl, rfl⟩
 go_wp2
 go_ret
 exact ⟨rfl, rfl⟩
def q2s (ks : List KeyS) : Prop := ks.Pairwise fun a b => blt a b = true
theorem q2s.at_ {ks : List KeyS} (h : q2s ks) {i j : Nat} (hi : i < ks.length) (hj : j < ks.length) (hij : i < j) : blt (ks[i]'hi) (ks[j]'hj) = true := List.pairwise_iff_getElem.1 h i j hi hj hij
def q1W (ks : List KeyS) (t : KeyS) (n : Nat) : Prop := n ≤ ks.length ∧ (∀ i (hi : i < ks.length), i < n → blt (ks[i]'hi) t = true) ∧ ∀ i (hi : i < ks.length), n ≤ i → blt (ks[i]'hi) t = false
theorem q5p (ks : List KeyS) (A : Option Addr) (c lo hi : Nat) (t : KeyS) (w : World) (hl : ks.length ≤ 2097152) (hr : RowG q0w w lo hi A ks) (hri : q2s ks) :
  Calls Tryz.prog 177 #[.slice A ks.length c, .string (bs t)] w fun e w' => (∃ (n : Nat) (is : Bool), e = .returned (.tuple #[.int .i64 n, .bool is]) ∧ q1W ks t n ∧ is = (ks[n]? == some t)) ∧ w' = w := by
 have HR := qh hr
 have HRI := qh hri
 have HL := qh hl
 clear hr hri hl
 go_enter Tryz.func177, Tryz.ntmps177
 go_wp2_with fail
 go_loopg [7, 8] ks.length (fun q i j wr => ∃ lo hx : Nat, i = .int .i64 lo ∧ j = .int .i64 hx ∧ lo ≤ hx ∧ hx ≤ ks.length ∧ hx - lo ≤ q ∧ (∀ i (hi : i < ks.length), i < lo → blt (ks[i]'hi) t = true) ∧ (∀ i (hi : i < ks.length), hx ≤ i → blt (ks[i]'hi) t = false) ∧ wr = w)
 case atStart => exact ⟨0, ks.length, rfl, rfl, Nat.zero_le _, Nat.le_refl _, by omega, (fun i hi h => by omega), (fun i hi h => by omega), rfl⟩
 case round =>
  obtain ⟨lo, hx, rfl, rfl, h1, h2, h3, h4, h5, hw⟩ := hrel
  have H3 := qh h3
  have H4 := qh h4
  have H5 := qh h5
  subst hw
  clear h3 h4 h5
  by_cases hlt : lo < hx
  ·have d1 : decide ((lo : Int) < (hx : Int)) = true := by rw [decide_eq_true_iff]; omega
   obtain ⟨mid, hmid⟩ : ∃ m, (lo + hx) / 2 = m := ⟨_, rfl⟩
   have hm1 : lo ≤ mid := by omega
   have hm2 : mid < hx := by omega
   have hml : mid < ks.length := by omega
   have hle := HL.out
   have hdm : decide ((mid : Int) < (ks.length : Int)) = true := by rw [decide_eq_true_iff]; omega
   have hdm2 : decide (mid < ks.length) = true := by rw [decide_eq_true_iff]; omega
   have hsh : ((lo : Int) + (hx : Int)) / 2 = (mid : Int) := by omega
   obtain ⟨b, o, rfl, _, _, hcell⟩ := HR.out.at_ kF hml
   have c0 := hcell 0 _ rfl
   simp only [Nat.add_zero, Nat.mul_one] at c0
   have HC := qh (qcP (ks[mid]'hml) t wr)
   have HLo := qh (fun (h : blt (ks[mid]'hml) t = true) => show ∀ i (hi : i < ks.length), i < mid + 1 → blt (ks[i]'hi) t = true from fun i hi hij => by
    rcases Nat.lt_or_ge i mid with hlt2 | hge
    ·exact q0p (HRI.out.at_ hi hml hlt2) h
    ·have e : i = mid := by omega
     subst e
     exact h)
   have HHi := qh (fun (h : blt (ks[mid]'hml) t = false) => show ∀ i (hi : i < ks.length), mid ≤ i → blt (ks[i]'hi) t = false from fun i hi hij => by
    rcases Nat.lt_or_ge mid i with hlt2 | hge
    ·cases hc : blt (ks[i]'hi) t
     ·rfl
     ·rw [q0p (HRI.out.at_ hml hi hlt2) hc] at h
      cases h
    ·have e : i = mid := by omega
     subst e
     exact h)
   clear hcell
   generalize ks[mid] = x at *
   cases hq : blt x t
   ·rw [hq] at HC
    have HF := qh (HHi.out hq)
    clear hq HHi HLo
    go_wp2_with fail
    refine HC.out.mono ?_
    rintro e w' ⟨rfl, rfl⟩
    go_wp2
    go_roundg (gk - 1)
    case measure => have := H3.out; omega
    case rel => exact ⟨lo, mid, rfl, rfl, by omega, by omega, by have := H3.out; omega, H4.out, HF.out, rfl⟩
   ·rw [hq] at HC
    have HF := qh (HLo.out hq)
    clear hq HHi HLo
    go_wp2_with fail
    refine HC.out.mono ?_
    rintro e w' ⟨rfl, rfl⟩
    go_wp2
    go_roundg (gk - 1)
    case measure => have := H3.out; omega
    case rel => exact ⟨mid + 1, hx, by go_num, rfl, by omega, by omega, by have := H3.out; omega, HF.out, H5.out, rfl⟩
  ·have d1 : decide ((lo : Int) < (hx : Int)) = false := by rw [decide_eq_false_iff_not]; omega
   have e : hx = lo := by omega
   subst e
   have HN := qh (show q1W ks t hx from ⟨h2, H4.out, H5.out⟩)
   by_cases hq : hx < ks.length
   ·have d2 : decide ((hx : Int) < (ks.length : Int)) = true := by rw [decide_eq_true_iff]; omega
    have d3 : decide (hx < ks.length) = true := by rw [decide_eq_true_iff]; omega
    obtain ⟨b, o, rfl, _, _, hcell⟩ := HR.out.at_ kF hq
    have c0 := hcell 0 _ rfl
    simp only [Nat.add_zero, Nat.mul_one] at c0
    have hbs := q4a (ks[hx]'hq) t
    have HX := qh (show (ks[hx]? == some t) = (ks[hx]'hq == t) by rw [List.getElem?_eq_getElem hq]; rfl)
    have HC := qh (qcS (bs (ks[hx]'hq)) wr)
    clear hcell
    generalize ks[hx] = x at *
    cases hs : (x == t)
    ·rw [hs] at hbs HX
     go_wp2_with fail
     refine HC.out.mono ?_
     rintro e w' ⟨rfl, rfl⟩
     go_wp2
     refine bodyPost_ret (v := .tuple #[.int .i64 hx, .bool false]) (by simp [results, Tryz.results177, go_sem]) rfl ?_
     exact ⟨⟨hx, false, rfl, HN.out, HX.out.symm⟩, rfl⟩
    ·rw [hs] at hbs HX
     go_wp2
     refine bodyPost_ret (v := .tuple #[.int .i64 hx, .bool true]) (by simp [results, Tryz.results177, go_sem]) rfl ?_
     exact ⟨⟨hx, true, rfl, HN.out, HX.out.symm⟩, rfl⟩
   ·have d2 : decide ((hx : Int) < (ks.length : Int)) = false := by rw [decide_eq_false_iff_not]; omega
    go_wp2
    refine bodyPost_ret (v := .tuple #[.int .i64 hx, .bool false]) (by simp [results, Tryz.results177, go_sem]) rfl ?_
    exact ⟨⟨hx, false, rfl, HN.out, by rw [List.getElem?_eq_none (by omega)]; rfl⟩, rfl⟩
theorem q6d (ks : List KeyS) (A : Option Addr) (c lo hi : Nat) (t : KeyS) (w : World) (hl : ks.length ≤ 2097152) (hr : RowG q0w w lo hi A ks) (hri : q2s ks) :
  Calls Tryz.prog 177 #[.slice A ks.length c, .string (bs t)] w fun e w' => (∃ (n : Nat) (is : Bool), e = .returned (.tuple #[.int .i64 n, .bool is]) ∧ q1W ks t n) ∧ w' = w :=
 (q5p ks A c lo hi t w hl hr hri).mono fun _ _ ⟨⟨n, is, e, h, _⟩, hw⟩ => ⟨⟨n, is, e, h⟩, hw⟩
theorem q1W.uniq {ks : List KeyS} {t : KeyS} {n m : Nat} (h : q1W ks t n) (k : q1W ks t m) : n = m := by
 rcases Nat.lt_trichotomy n m with g | g | g
 ·have h1 := h.2.2 n (by have := k.1; omega) (Nat.le_refl _)
  rw [k.2.1 n (by have := k.1; omega) g] at h1
  cases h1
 ·exact g
 ·have h1 := k.2.2 m (by have := h.1; omega) (Nat.le_refl _)
  rw [h.2.1 m (by have := h.1; omega) g] at h1
  cases h1
theorem q8v (ks : List KeyS) (A : Option Addr) (c lo hi : Nat) (t : KeyS) (w : World) (hl : ks.length ≤ 2097152) (hr : RowG q0w w lo hi A ks) (hri : q2s ks) (n : Nat) (hn : q1W ks t n) :
  Calls Tryz.prog 177 #[.slice A ks.length c, .string (bs t)] w fun e w' => e = .returned (.tuple #[.int .i64 n, .bool (ks[n]? == some t)]) ∧ w' = w :=
 (q5p ks A c lo hi t w hl hr hri).mono fun _ _ ⟨⟨m, is, e, h, h2⟩, hw⟩ => by
  obtain rfl := h.uniq hn
  subst h2
  exact ⟨e, hw⟩
theorem qaq (ks : List KeyS) (t : KeyS) (hri : q2s ks) : ∃ n, q1W ks t n := by
 induction ks with
 | nil => exact ⟨0, Nat.le_refl _, fun i hi => absurd hi (by simp), fun i hi => absurd hi (by simp)⟩
 | cons x ks ih =>
  obtain ⟨h1, h2⟩ := List.pairwise_cons.1 hri
  cases hx : blt x t
  ·refine ⟨0, Nat.zero_le _, fun i _ h => absurd h (by omega), fun i hi _ => ?_⟩
   cases i with
   | zero => exact hx
   | succ i =>
    cases hc : blt ((x :: ks)[i + 1]'hi) t
    ·rfl
    ·rw [q0p (h1 _ (by simp)) hc] at hx
     cases hx
  ·obtain ⟨n, h3, h4, h5⟩ := ih h2
   refine ⟨n + 1, by simpa using h3, fun i hi hin => ?_, fun i hi hin => ?_⟩
   ·cases i with
    | zero => exact hx
    | succ i => exact h4 i (by simpa using hi) (by omega)
   ·cases i with
    | zero => omega
    | succ i => exact h5 i (by simpa using hi) (by omega)
open Go.RowKit
structure MInv (ks fresh : List KeyS) (e r : Nat) (M : List KeyS) : Prop where
 rise : q2s M
 mem : ∀ x, x ∈ M ↔ x ∈ ks.drop e ∨ x ∈ fresh.drop r
 lowK : ∀ x ∈ ks.take e, ∀ y ∈ M, blt x y = true
 lowF : ∀ x ∈ fresh.take r, ∀ y ∈ M, blt x y = true
theorem MInv.start (ks fresh : List KeyS) : MInv ks fresh ks.length fresh.length [] :=
 ⟨List.Pairwise.nil, fun x => by simp, fun _ _ _ h => by simp at h, fun _ _ _ h => by simp at h⟩
theorem MInv.step {ks fresh : List KeyS} {e r a : Nat} {M : List KeyS} (h : MInv ks fresh e (r + 1) M) (hk : q2s ks) (hf : q2s fresh) (hd : ∀ x ∈ ks, ∀ y ∈ fresh, x ≠ y) (he : e ≤ ks.length) (hr : r < fresh.length)
  (ha : q1W (ks.take e) (fresh[r]'hr) a) : MInv ks fresh a r (fresh[r]'hr :: ((ks.take e).drop a ++ M)) := by
 have hae : a ≤ e := by have := ha.1; rw [List.length_take] at this; omega
 have hmf : fresh[r]'hr ∈ fresh.take (r + 1) := by rw [List.take_succ_eq_append_getElem hr]; exact List.mem_append_right _ (List.mem_singleton.2 rfl)
 have hmid : ∀ x ∈ (ks.take e).drop a, blt (fresh[r]'hr) x = true := fun x hx => by
  obtain ⟨i, hi, rfl⟩ := List.mem_drop_iff_getElem.1 hx
  have h1 := ha.2.2 (a + i) (by omega) (by omega)
  have hxk : (ks.take e)[a + i] ∈ ks := List.mem_of_mem_take (List.getElem_mem _)
  rcases q2c (fresh[r]'hr) ((ks.take e)[a + i]) with g | g | g
  ·exact g
  ·exact absurd g.symm (hd _ hxk _ (List.getElem_mem hr))
  ·rw [g] at h1
   cases h1
 refine ⟨?_, fun x => ?_, fun x hx y hy => ?_, fun x hx y hy => ?_⟩
 ·unfold q2s
  rw [List.pairwise_cons, List.pairwise_append]
  refine ⟨fun y hy => ?_, (List.Pairwise.sublist (List.drop_sublist _ _) (List.Pairwise.sublist (List.take_sublist _ _) hk)), h.rise, fun x hx y hy => h.lowK x (List.mem_of_mem_drop hx) y hy⟩
  rcases List.mem_append.1 hy with hy | hy
  ·exact hmid y hy
  ·exact h.lowF _ hmf y hy
 ·rw [List.mem_cons, List.mem_append, h.mem]
  have e1 : ks.drop a = (ks.take e).drop a ++ ks.drop e := by
   conv => lhs; rw [← List.take_append_drop e ks]
   rw [List.drop_append_of_le_length (by rw [List.length_take]; omega)]
  rw [e1, List.mem_append, List.drop_eq_getElem_cons hr, List.mem_cons]
  constructor
  ·rintro (h1 | h1 | h1 | h1)
   ·exact .inr (.inl h1)
   ·exact .inl (.inl h1)
   ·exact .inl (.inr h1)
   ·exact .inr (.inr h1)
  ·rintro ((h1 | h1) | h1 | h1)
   ·exact .inr (.inl h1)
   ·exact .inr (.inr (.inl h1))
   ·exact .inl h1
   ·exact .inr (.inr (.inr h1))
 ·have hx2 : x ∈ (ks.take e).take a := by rw [List.take_take, Nat.min_eq_left hae]; exact hx
  have hxf : blt x (fresh[r]'hr) = true := by
   obtain ⟨i, hi, rfl⟩ := List.mem_take_iff_getElem.1 hx2
   exact ha.2.1 i (by omega) (by omega)
  rcases List.mem_cons.1 hy with rfl | hy
  ·exact hxf
  ·rcases List.mem_append.1 hy with hy | hy
   ·exact q0p hxf (hmid y hy)
   ·exact h.lowK x (List.mem_of_mem_take hx2) y hy
 ·have hxf : blt x (fresh[r]'hr) = true := by
   obtain ⟨i, hi, rfl⟩ := List.mem_take_iff_getElem.1 hx
   exact hf.at_ (by omega) hr (by omega)
  have hxt : x ∈ fresh.take (r + 1) := by rw [List.take_succ_eq_append_getElem hr]; exact List.mem_append_left _ hx
  rcases List.mem_cons.1 hy with rfl | hy
  ·exact hxf
  ·rcases List.mem_append.1 hy with hy | hy
   ·exact q0p hxf (hmid y hy)
   ·exact h.lowF x hxt y hy
theorem MInv.rise_all {ks fresh : List KeyS} {e : Nat} {M : List KeyS} (h : MInv ks fresh e 0 M) (hk : q2s ks) : q2s (ks.take e ++ M) := by
 unfold q2s
 rw [List.pairwise_append]
 exact ⟨List.Pairwise.sublist (List.take_sublist _ _) hk, h.rise, h.lowK⟩
theorem MInv.mem_all {ks fresh : List KeyS} {e : Nat} {M : List KeyS} (h : MInv ks fresh e 0 M) (x : KeyS) : x ∈ ks.take e ++ M ↔ x ∈ ks ∨ x ∈ fresh := by
 rw [List.mem_append, h.mem, List.drop_zero]
 conv => rhs; rw [← List.take_append_drop e ks, List.mem_append]
 rw [or_assoc]
structure MArr (ks : List KeyS) (cur : Array Value) (e r : Nat) (M : List KeyS) : Prop where
 low : ∀ i (hi : i < ks.length), i < e → cur[i]? = some (keyV (ks[i]'hi))
 high : ∀ i (hi : i < M.length), cur[e + r + i]? = some (keyV (M[i]'hi))
theorem MArr.start {ks fresh : List KeyS} {cur : Array Value} (h : cur.toList.take (ks.length + fresh.length) = (ks ++ fresh).map keyV) : MArr ks cur ks.length fresh.length [] := by
 refine ⟨fun i hi _ => ?_, fun i hi => absurd hi (by simp)⟩
 have h1 : (cur.toList.take (ks.length + fresh.length))[i]? = some (keyV (ks[i]'hi)) := by
  rw [h, List.getElem?_map, List.getElem?_append_left hi, List.getElem?_eq_getElem hi]
  rfl
 rw [List.getElem?_take_of_lt (by omega)] at h1
 simpa using h1
theorem MArr.step {ks : List KeyS} {cur : Array Value} {e r a : Nat} {M : List KeyS} {f : KeyS} (h : MArr ks cur e (r + 1) M) (hae : a ≤ e) (he : e ≤ ks.length) (hs : e + (r + 1) + M.length ≤ cur.size) :
  MArr ks ((cur.toList.take (a + (r + 1)) ++ (((ks.take e).drop a).map keyV) ++ cur.toList.drop (a + (r + 1) + (((ks.take e).drop a).map keyV).length)).toArray.setIfInBounds (a + r) (keyV f)) a r (f :: ((ks.take e).drop a ++ M)) := by
 have hl : (((ks.take e).drop a).map keyV).length = e - a := by rw [List.length_map, List.length_drop, List.length_take]; omega
 have hl2 : ((ks.take e).drop a).length = e - a := by rw [List.length_drop, List.length_take]; omega
 have hcs : cur.toList.length = cur.size := by simp
 refine ⟨fun i hi hia => ?_, fun i hi => ?_⟩
 ·rw [Array.getElem?_setIfInBounds_ne (by omega)]
  simp only [List.getElem?_toArray]
  rw [List.append_assoc, List.getElem?_append_left (by rw [List.length_take]; omega), List.getElem?_take_of_lt (by omega)]
  have := h.low i hi (by omega)
  simpa using this
 ·cases i with
  | zero =>
   simp only [Nat.add_zero, List.getElem_cons_zero]
   rw [Array.getElem?_setIfInBounds_self_of_lt]
   simp only [List.size_toArray, List.length_append, List.length_take, List.length_drop, hl, hcs]
   omega
  | succ i =>
   rw [Array.getElem?_setIfInBounds_ne (by omega)]
   simp only [List.getElem?_toArray, List.getElem_cons_succ]
   rw [List.append_assoc, List.getElem?_append_right (by rw [List.length_take]; omega), List.length_take, Nat.min_eq_left (by omega)]
   have e1 : a + r + (i + 1) - (a + (r + 1)) = i := by omega
   rw [e1]
   by_cases hi2 : i < e - a
   ·rw [List.getElem?_append_left (by omega), List.getElem?_map, List.getElem?_eq_getElem (by omega), List.getElem_append_left (by omega)]
    rfl
   ·rw [List.getElem?_append_right (by omega), hl, List.getElem?_drop, List.getElem_append_right (by omega)]
    have h1 := h.high (i - (e - a)) (by simp only [List.length_cons, List.length_append, hl2] at hi; omega)
    have e2 : a + (r + 1) + (e - a) + (i - (e - a)) = e + (r + 1) + (i - (e - a)) := by omega
    rw [e2]
    simp only [hl2]
    simpa using h1
theorem MArr.done {ks : List KeyS} {cur : Array Value} {e n : Nat} {M : List KeyS} (h : MArr ks cur e 0 M) (he : e ≤ ks.length) (hn : e + M.length = n) (hs : n ≤ cur.size) : cur.toList.take n = (ks.take e ++ M).map keyV := by
 have hcs : cur.toList.length = cur.size := by simp
 apply List.ext_getElem?
 intro i
 by_cases hi : i < n
 ·rw [List.getElem?_take_of_lt hi, List.getElem?_map]
  by_cases hie : i < e
  ·rw [List.getElem?_append_left (by rw [List.length_take]; omega), List.getElem?_take_of_lt hie]
   rw [Array.getElem?_toList, h.low i (by omega) hie, List.getElem?_eq_getElem (by omega)]
   rfl
  ·rw [List.getElem?_append_right (by rw [List.length_take]; omega), List.length_take, Nat.min_eq_left he]
   have h1 := h.high (i - e) (by omega)
   have e1 : e + 0 + (i - e) = i := by omega
   rw [e1] at h1
   rw [Array.getElem?_toList, h1, List.getElem?_eq_getElem (by omega)]
   rfl
 ·rw [List.getElem?_eq_none (by rw [List.length_take]; omega), List.getElem?_eq_none (by rw [List.length_map, List.length_append, List.length_take]; omega)]
end Go.Proofs.YtdpbllacfljmoaaGreat
