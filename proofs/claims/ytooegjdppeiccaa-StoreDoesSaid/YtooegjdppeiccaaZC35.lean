import Derived.Test.YtooegjdppeiccaaZC14
import Derived.Deep.LoopGhost
import Derived.Test.YtooegjdppeiccaaZC32
/-
  The developers' store: Check.
-/
namespace Go.Proofs.Ytooegjdppeiccaa
open Go.RowKit

set_option maxRecDepth 100000 in
set_option maxHeartbeats 4000000 in
theorem dCheck8_any (l : List Wr) (lo hi : Nat) (A : Option Addr) (c : Nat) (w : World) (hl : l.length ≤ 9223372036854775807) (hr : RowW w lo hi A l) (hhi : hi ≤ w.heap.size) :
    Calls Try.prog 21 #[.slice A l.length c] w fun r w' => r = .returned (.int .i64 (checkS [] l)) ∧ Below w.heap.size w w' := by
  have HR := Lib.hid hr
  have hleq := string_leqJ
  clear hr
  go_enter Try.func21, Try.ntmps21
  go_wp2
  go_loopg [3, 8] l.length (fun q v i wr => ∃ (j : Nat) (last : KeyS), j + q = l.length ∧ i = .int .i64 j ∧ v = .string (bs last) ∧ checkS [] l = checkS last (l.drop j) ∧ Below w.heap.size w wr)
  case atStart => exact ⟨0, [], by omega, rfl, rfl, rfl, Below.refl _ _⟩
  case round =>
    obtain ⟨j, last, hk, rfl, rfl, hall, hb⟩ := hrel
    have HK := Lib.hid hk
    have HA := Lib.hid hall
    have HB := Lib.hid hb
    clear hall hb hk
    by_cases hj : j < l.length
    · have hlt : decide ((j : Int) < (l.length : Int)) = true := by simpa using hj
      have hlt2 : decide (j < l.length) = true := by simpa using hj
      obtain ⟨b, o, A', c', rfl, _, c0, c1, c2, hs, hkl⟩ := (HR.out.below HB.out hhi (Nat.le_refl _)).at_ hj
      have HD := Lib.hid (HA.out.trans (by rw [List.drop_eq_getElem_cons hj]))
      have hdl : l[j].dat.length ≤ maxLen := Nat.le_trans hs.1 hs.2.1
      clear hs
      generalize l[j] = x at *
      obtain ⟨key, gone, dat⟩ := x
      simp only at c0 c1 c2 hdl hkl HD
      rw [← bs_size] at hkl
      have HBN := Lib.hid (HB.out.alloc HB.out.size (.cells #[.string (bs key), .bool gone, .slice A' dat.length c'] 84))
      have HC : Hid (checkS last (⟨key, gone, dat⟩ :: l.drop (j + 1)) = if 256 < key.length ∨ 4096 < dat.length then 3 else if blt last key = false ∨ okVer ⟨0, gone, dat⟩ = false then 1 else checkS key (l.drop (j + 1))) := Lib.hid rfl
      unfold maxLen at hdl hkl
      by_cases h1 : 256 < (bs key).size
      · have d1 : decide (256 < ((bs key).size : Int)) = true := by rw [decide_eq_true_iff]; omega
        have d2 : decide (256 < (bs key).size) = true := by rw [decide_eq_true_iff]; omega
        have HF := Lib.hid (HD.out.trans (HC.out.trans (if_pos (.inl (by rw [← bs_size]; exact h1)))))
        clear h1
        go_wp2
        go_ret
        rw [HF.out]
        exact ⟨rfl, HBN.out⟩
      · have d1 : decide (256 < ((bs key).size : Int)) = false := by rw [decide_eq_false_iff_not]; omega
        have d2 : decide (256 < (bs key).size) = false := by rw [decide_eq_false_iff_not]; omega
        by_cases h2 : 4096 < dat.length
        · have d3 : decide (4096 < (dat.length : Int)) = true := by rw [decide_eq_true_iff]; omega
          have d4 : decide (4096 < dat.length) = true := by rw [decide_eq_true_iff]; omega
          have HF := Lib.hid (HD.out.trans (HC.out.trans (if_pos (.inr h2))))
          clear h1 h2
          go_wp2
          go_ret
          rw [HF.out]
          exact ⟨rfl, HBN.out⟩
        · have d3 : decide (4096 < (dat.length : Int)) = false := by rw [decide_eq_false_iff_not]; omega
          have d4 : decide (4096 < dat.length) = false := by rw [decide_eq_false_iff_not]; omega
          have hn1 : ¬ (256 < key.length ∨ 4096 < dat.length) := by rw [bs_size] at h1; omega
          have HD2 := Lib.hid (HD.out.trans (HC.out.trans (if_neg hn1)))
          clear hn1 h1 h2
          by_cases h3 : blt last key = true
          · have q1 : Op.bytesLess (bs key).toList (bs last).toList = false := by rw [bs_less]; exact blt_asymm h3
            have q2 : ((bs key).toList == (bs last).toList) = false := by rw [bs_same]; exact beq_neB fun e => blt_ne h3 e.symm
            cases gone
            · have HF := Lib.hid (HD2.out.trans (if_neg (by rw [h3, show okVer ⟨0, false, dat⟩ = true from rfl]; simp)))
              clear h3
              go_wp2
              go_roundg (gk - 1)
              case measure => have := HK.out; omega
              case rel => exact ⟨j + 1, key, by have := HK.out; omega, by go_num, rfl, HF.out, HBN.out⟩
            · by_cases h4 : 0 < dat.length
              · have d5 : decide (0 < (dat.length : Int)) = true := by rw [decide_eq_true_iff]; omega
                have d6 : decide (0 < dat.length) = true := by rw [decide_eq_true_iff]; omega
                have HF := Lib.hid (HD2.out.trans (if_pos (.inr (show (!(true && decide (0 < dat.length))) = false by rw [d6]; rfl))))
                clear h3 h4
                go_wp2
                go_ret
                rw [HF.out]
                exact ⟨rfl, HBN.out⟩
              · have d5 : decide (0 < (dat.length : Int)) = false := by rw [decide_eq_false_iff_not]; omega
                have d6 : decide (0 < dat.length) = false := by rw [decide_eq_false_iff_not]; omega
                have HF := Lib.hid (HD2.out.trans (if_neg (by
                  rw [h3, show okVer ⟨0, true, dat⟩ = true from (show (!(true && decide (0 < dat.length))) = true by rw [d6]; rfl)]
                  simp)))
                clear h3 h4
                go_wp2
                go_roundg (gk - 1)
                case measure => have := HK.out; omega
                case rel => exact ⟨j + 1, key, by have := HK.out; omega, by go_num, rfl, HF.out, HBN.out⟩
          · have h3f : blt last key = false := by simpa using h3
            have q1 : (Op.bytesLess (bs key).toList (bs last).toList || (bs key).toList == (bs last).toList) = true := by
              rw [bs_less, bs_same]
              rcases blt_tri last key with g | g | g
              · exact absurd g h3
              · rw [g, beq_self_eq_true, Bool.or_true]
              · rw [g, Bool.true_or]
            have HF := Lib.hid (HD2.out.trans (if_pos (.inl h3f)))
            clear h3 h3f
            go_wp2
            go_ret
            rw [HF.out]
            exact ⟨rfl, HBN.out⟩
    · have hj' : j = l.length := by have := HK.out; omega
      have hlt : decide ((j : Int) < (l.length : Int)) = false := by simpa using hj
      have HF := Lib.hid (show checkS [] l = 0 by rw [HA.out, hj', List.drop_length]; rfl)
      clear hj'
      go_wp2
      go_ret
      rw [HF.out]
      exact ⟨rfl, HB.out⟩
end Go.Proofs.Ytooegjdppeiccaa

/-
  The developers' store: with.
-/
namespace Go.Proofs.Ytooegjdppeiccaa
open Go.RowKit

/-- What a store holds is small. -/
structure SmallS (st : PS) : Prop where
  len : st.K.length ≤ 1048576
  vers : versS st.K ≤ 1048576
  byts : bytsS st.K ≤ 1048576
theorem SmallS.ok {st : PS} (h : SmallS st) (k : KeyS) : okLen (chainS st.K k) := by
  have := chain_sizes st.K k
  have := h.vers
  have := h.byts
  exact ⟨by omega, by omega⟩
theorem up_small {st : PS} {l : List Wr} (h : OkS st) (hs : SmallS st) (hc : checkS [] l = 0) : ∀ (j : Nat), j ≤ l.length → (szS (upG st l j)).k ≤ 1048576 + j ∧ (szS (upG st l j)).v ≤ 1048576 + j ∧ (szS (upG st l j)).b ≤ 1048576 + j * 4352
  | 0, _ => ⟨by have := hs.len; simpa [upG, szS] using this, by have := hs.vers; simpa [upG, szS] using this, by have := hs.byts; simpa [upG, szS] using this⟩
  | j + 1, hj => by
    have ih := up_small h hs hc j (by omega)
    have hjl : j < l.length := by omega
    cases hcm : comesS st (l[j]'hjl)
    · rw [upG_no hjl hcm]
      omega
    · obtain ⟨k1, k2, k3⟩ := upG_ok h hc j
      rw [upG_yes h hc hjl hcm, ← k3 j hjl (Nat.le_refl _), sz_put k1 k2]
      have hb := (checkS_ok hc).1 _ (List.getElem_mem hjl)
      have hv : (verW st (l[j]'hjl)).dat.length = (l[j]'hjl).dat.length := rfl
      unfold szS at ih
      simp only at ih
      split <;> (simp only [hv]; omega)
def szAdd (z : Sz) (i : Int) (w : Wr) : Sz := if i = 1 then ⟨z.k + 1, z.v + 1, z.b + w.key.length + w.dat.length⟩ else if i = 2 then ⟨z.k, z.v + 1, z.b + w.dat.length⟩ else z
theorem up_add {st : PS} {l : List Wr} {j : Nat} (h : OkS st) (hc : checkS [] l = 0) (hj : j < l.length) : szS (upG st l (j + 1)) = szAdd (szS (upG st l j)) (bringS (chainS st.K (l[j]'hj).key) st.time (l[j]'hj).gone) (l[j]'hj) := by
  rw [bring_now h (l[j]'hj) (Nat.le_refl _)]
  cases hcm : comesS st (l[j]'hj)
  · rw [upG_no hj hcm, if_neg (by simp)]
    rfl
  · obtain ⟨k1, k2, k3⟩ := upG_ok h hc j
    rw [upG_yes h hc hj hcm, if_pos rfl, ← k3 j hj (Nat.le_refl _), sz_put k1 k2]
    unfold szAdd
    cases (chainS (upG st l j) (l[j]'hj).key).isEmpty <;> rfl
section
variable {w : World} {p : Nat} {F D : Nat → Prop} {B : Nat} {kv : Value} {cv : KeyS → Value} {L : LimS} {m r v : Int} {ks : List KeyS}
set_option maxRecDepth 100000 in
set_option maxHeartbeats 4000000 in
theorem dWith_any (st : PS) (l : List Wr) (lo hi : Nat) (A : Option Addr) (c : Nat) (h : RawS w p F D B kv cv L m r v st.time (chainS st.K) ks (szS st.K)) (ho : OkS st) (hs : SmallS st) (hc : checkS [] l = 0) (hl : l.length ≤ 1048576) (hr : RowW w lo hi A l) (hhi : hi ≤ w.heap.size) :
    Calls Try.prog 85 #[ptrS p, .slice A l.length c] w fun e w' => e = .returned (szVal (szS (withS st l))) ∧ Below w.heap.size w w' := by
  obtain ⟨w0, hw0⟩ : ∃ y, w.alloc (.cells #[.int .i64 0, .int .i64 0, .int .i64 0] 49) = y := ⟨_, rfl⟩
  obtain ⟨w1, hw1⟩ : ∃ y, w0.alloc (.cells #[.int .i64 ((szS st.K).k : Int), .int .i64 ((szS st.K).v : Int), .int .i64 ((szS st.K).b : Int)] 49) = y := ⟨_, rfl⟩
  have s0 : w0.heap.size = w.heap.size + 1 := by rw [← hw0]; simp
  have s1 : w1.heap.size = w.heap.size + 2 := by rw [← hw1]; simp [s0]
  have b0 : Below w.heap.size w w0 := by rw [← hw0]; exact (Below.refl _ w).alloc (Nat.le_refl _) _
  have b1 : Below w.heap.size w w1 := b0.trans (by rw [← hw1]; exact (Below.refl _ w0).alloc (by omega) _)
  have hz : w1.heap[w.heap.size]? = some (.cells #[.int .i64 0, .int .i64 0, .int .i64 0] 49 (0, 0)) := by rw [← hw1]; exact heap_allocs (by rw [← hw0]; exact heap_alloc_new w _) _
  have hu : w1.heap[w0.heap.size]? = some (.cells #[.int .i64 ((szS st.K).k : Int), .int .i64 ((szS st.K).v : Int), .int .i64 ((szS st.K).b : Int)] 49 (0, 0)) := by rw [← hw1]; exact heap_alloc_new w0 _
  have h0 := h.below b0
  have c10 := h0.sz0
  have c11 := h0.sz1
  have c12 := h0.sz2
  have HH := Lib.hid h
  have HO := Lib.hid ho
  have HS := Lib.hid hs
  have HC := Lib.hid hc
  have HR := Lib.hid hr
  have HHi := Lib.hid hhi
  have HW0 := Lib.hid hw0
  have HW1 := Lib.hid hw1
  have HB1 := Lib.hid b1
  have HZ := Lib.hid hz
  have HU := Lib.hid hu
  have HSz1 := Lib.hid s1
  have HS0 := Lib.hid s0
  clear h ho hs hc hr hhi hw0 hw1 b0 b1 hz hu s0 s1 h0
  unfold ptrS
  go_enter Try.func85, Try.ntmps85
  go_upto_region 1 with fail
  rw [HW0.out]
  clear HW0
  go_upto_region 2 with fail
  rw [HW1.out]
  clear HW1 c10 c11 c12
  go_wp2_with fail
  go_loopg [14] l.length (fun q i wr => ∃ j : Nat, j + q = l.length ∧ i = .int .i64 j ∧ wr.heap[w.heap.size]? = some (.cells #[.int .i64 0, .int .i64 0, .int .i64 0] 49 (0, 0)) ∧
    wr.heap[w0.heap.size]? = some (.cells #[.int .i64 ((szS (upG st l j)).k : Int), .int .i64 ((szS (upG st l j)).v : Int), .int .i64 ((szS (upG st l j)).b : Int)] 49 (0, 0)) ∧ Below w.heap.size w wr)
  case atStart => exact ⟨0, by omega, rfl, HZ.out, HU.out, HB1.out⟩
  case round =>
    obtain ⟨j, hk, rfl, hz, hu, hb⟩ := hrel
    have HK := Lib.hid hk
    have HZ2 := Lib.hid hz
    have HU2 := Lib.hid hu
    have HB := Lib.hid hb
    clear hk hz hu hb
    by_cases hj : j < l.length
    · have hlt : decide ((j : Int) < (l.length : Int)) = true := by simpa using hj
      have hlt2 : decide (j < l.length) = true := by simpa using hj
      obtain ⟨b, o, A', c', rfl, _, d0, d1, d2, hs, hkl⟩ := (HR.out.below HB.out HHi.out (Nat.le_refl _)).at_ hj
      have hbd := up_small HO.out HS.out HC.out j (by omega)
      have hwb := (checkS_ok HC.out).1 _ (List.getElem_mem hj)
      have HAdd := Lib.hid (up_add HO.out HC.out hj)
      obtain ⟨w2, hw2⟩ : ∃ y, wr.alloc (.cells #[.string (bs (l[j]'hj).key), .bool (l[j]'hj).gone, .slice A' (l[j]'hj).dat.length c'] 84) = y := ⟨_, rfl⟩
      have hsz := HB.out.size
      have b2 : Below w.heap.size w w2 := by rw [← hw2]; exact HB.out.alloc hsz _
      have s2 : w2.heap.size = wr.heap.size + 1 := by rw [← hw2]; simp
      have hx2 : w2.heap[wr.heap.size]? = some (.cells #[.string (bs (l[j]'hj).key), .bool (l[j]'hj).gone, .slice A' (l[j]'hj).dat.length c'] 84 (0, 0)) := by rw [← hw2]; exact heap_alloc_new wr _
      have hz2 := heap_below HZ2.out (show Below wr.heap.size wr w2 by rw [← hw2]; exact (Below.refl _ wr).alloc (Nat.le_refl _) _) (lt_of_heap HZ2.out)
      have hu2 := heap_below HU2.out (show Below wr.heap.size wr w2 by rw [← hw2]; exact (Below.refl _ wr).alloc (Nat.le_refl _) _) (lt_of_heap HU2.out)
      have HCall := Lib.hid (dBrings_any (HH.out.below b2) (l[j]'hj).key (l[j]'hj).gone A' (l[j]'hj).dat.length c' (HS.out.ok _) (HO.out.rightC _))
      have x0 := cell_of_row _ _ 0 _ _ _ hx2
      have x1 := cell_of_row _ _ 1 _ _ _ hx2
      have x2 := cell_of_row _ _ 2 _ _ _ hx2
      have HX2 := Lib.hid hx2
      have HZ3 := Lib.hid hz2
      have HU3 := Lib.hid hu2
      have HB2 := Lib.hid b2
      have HS2 := Lib.hid s2
      have HW2 := Lib.hid hw2
      clear hs hx2 hz2 hu2 b2 s2 hw2 hkl hsz
      generalize bringS (chainS st.K (l[j]'hj).key) st.time (l[j]'hj).gone = br at *
      generalize hX : l[j] = X at *
      obtain ⟨key, gone, dat⟩ := X
      simp only at d0 d1 d2 hwb HAdd HCall x0 x1 x2 HX2 HW2
      clear hX
      generalize hZ : szS (upG st l j) = Z at *
      obtain ⟨zk, zv, zb⟩ := Z
      simp only at hbd HU3 HU2
      clear hZ
      go_upto_region 5 with fail
      rw [HW2.out]
      clear HW2 d0 d1 d2
      unfold ptrS at HCall
      go_wp2_with fail
      refine HCall.out.mono ?_
      rintro e w3 ⟨rfl, hb3⟩
      have hx3 := heap_below HX2.out hb3 (lt_of_heap HX2.out)
      have hz3 := heap_below HZ3.out hb3 (lt_of_heap HZ3.out)
      have hu3 := heap_below HU3.out hb3 (lt_of_heap HU3.out)
      have y0 := cell_of_row _ _ 0 _ _ _ hx3
      have y2 := cell_of_row _ _ 2 _ _ _ hx3
      have u0 := cell_of_row _ _ 0 _ _ _ hu3
      have u1 := cell_of_row _ _ 1 _ _ _ hu3
      have u2 := cell_of_row _ _ 2 _ _ _ hu3
      have g0 := frozen_of hu3 0
      have g1 := frozen_of hu3 1
      have g2 := frozen_of hu3 2
      have HZ4 := Lib.hid hz3
      have HU4 := Lib.hid hu3
      have HB3 := Lib.hid (HB2.out.trans (hb3.mono HB2.out.size))
      have hne : w0.heap.size ≠ wr.heap.size := by have := lt_of_heap HU2.out; omega
      clear hx3 hz3 hu3 hb3 HCall x0 x1 x2
      have hks : (bs key).size ≤ 256 := by rw [bs_size]; exact hwb.2.1
      have hkz : ((bs key).size : Int) = (key.length : Int) := by rw [bs_size]
      have hdz : dat.length ≤ 4096 := hwb.2.2.1
      have hzb : zb ≤ 4611686018427387904 := by omega
      have hzv : zv ≤ 4611686018427387904 := by omega
      have hzk : zk ≤ 4611686018427387904 := by omega
      have hlow : w.heap.size ≤ w0.heap.size := by have := HS0.out; omega
      have hfar : w.heap.size ≠ w0.heap.size := by have := HS0.out; omega
      have HLow := Lib.hid hlow
      have HFar := Lib.hid hfar
      have HKz := Lib.hid hkz
      clear hwb hbd hkz hfar hlow
      by_cases h1 : br = 1
      · subst h1
        go_wp2
        go_roundg (gk - 1)
        case measure => have := HK.out; omega
        case rel =>
          refine ⟨j + 1, by have := HK.out; omega, by go_num, ?_, ?_, ?_⟩
          · rw [box_farJ HFar.out, box_farJ HFar.out, box_farJ HFar.out, box_farJ HFar.out]
            exact HZ4.out
          · rw [HAdd.out]
            unfold szAdd
            rw [if_pos rfl]
            have hu4 := HU4.out
            have e9 := HKz.out
            simp [World.setCell, Array.getElem?_modify, hu4]
            omega
          · exact (((HB3.out.setCell HLow.out _).setCell HLow.out _).setCell HLow.out _).setCell HLow.out _
      · have q1 : (br == 1) = false := by rw [beq_eq_false_iff_ne]; exact h1
        by_cases h2 : br = 2
        · subst h2
          go_wp2
          go_roundg (gk - 1)
          case measure => have := HK.out; omega
          case rel =>
            refine ⟨j + 1, by have := HK.out; omega, by go_num, ?_, ?_, ?_⟩
            · rw [box_farJ HFar.out, box_farJ HFar.out]
              exact HZ4.out
            · rw [HAdd.out]
              unfold szAdd
              rw [if_neg (by decide), if_pos rfl]
              have hu4 := HU4.out
              simp [World.setCell, Array.getElem?_modify, hu4]
            · exact (HB3.out.setCell HLow.out _).setCell HLow.out _
        · have q2 : (br == 2) = false := by rw [beq_eq_false_iff_ne]; exact h2
          go_wp2
          go_roundg (gk - 1)
          case measure => have := HK.out; omega
          case rel =>
            refine ⟨j + 1, by have := HK.out; omega, by go_num, HZ4.out, ?_, HB3.out⟩
            rw [HAdd.out]
            unfold szAdd
            rw [if_neg h1, if_neg h2]
            exact HU4.out
    · have hj' : j = l.length := by have := HK.out; omega
      have hlt : decide ((j : Int) < (l.length : Int)) = false := by simpa using hj
      have hlt2 : decide (j < l.length) = false := by simpa using hj
      have HF := Lib.hid (show szS (upG st l j) = szS (withS st l) by rw [hj', upG_len])
      generalize szS (upG st l j) = Z at *
      have f0 := frozen_of HZ2.out 0
      have f1 := frozen_of HZ2.out 1
      have f2 := frozen_of HZ2.out 2
      have z0 := cell_of_row wr _ 0 _ _ _ HZ2.out
      have z1 := cell_of_row wr _ 1 _ _ _ HZ2.out
      have z2 := cell_of_row wr _ 2 _ _ _ HZ2.out
      have u0 := cell_of_row _ _ 0 _ _ _ HU2.out
      have u1 := cell_of_row _ _ 1 _ _ _ HU2.out
      have u2 := cell_of_row _ _ 2 _ _ _ HU2.out
      have HZF := Lib.hid (box3_set HZ2.out (.int .i64 (Z.k : Int)) (.int .i64 (Z.v : Int)) (.int .i64 (Z.b : Int)))
      have HB3 := Lib.hid (Below.box3 HB.out (b := w.heap.size) (Nat.le_refl _) (.int .i64 (Z.k : Int)) (.int .i64 (Z.v : Int)) (.int .i64 (Z.b : Int)))
      clear hj'
      go_wp2
      have t0 := cell_of_row _ _ 0 _ _ _ HZF.out
      have t1 := cell_of_row _ _ 1 _ _ _ HZF.out
      have t2 := cell_of_row _ _ 2 _ _ _ HZF.out
      refine bodyPost_ret (v := szVal Z) (by simp [results, Try.results85, go_sem, t0, t1, t2, szVal]) rfl ?_
      exact ⟨by rw [HF.out], HB3.out⟩
end
end Go.Proofs.Ytooegjdppeiccaa
