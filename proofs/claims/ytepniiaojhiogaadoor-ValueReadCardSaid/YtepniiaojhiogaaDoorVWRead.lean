/-
  The walk of ValueRead.
-/
import Derived.Test.YtepniiaojhiogaaDoorVEq
namespace Go.Proofs.YtepniiaojhiogaaDoor.valueRead
open Go.RowKit

theorem more_ok {k : Int} {c : UInt8} {l : List UInt8} (h : isWord c = false) : moreOk k (c :: l) = true := by
  have hn : isNum c = false := by
    unfold isWord at h
    cases hc : isNum c
    · rfl
    · rw [hc] at h; simp at h
  simp [moreOk, h, hn]
/-- A byte, as the law asks it. -/
theorem kinds (c : UInt8) :
    (decide ((97 : Int) ≤ (c.toNat : Int)) = true ∧ decide ((c.toNat : Int) ≤ 122) = true) ∨
    (decide ((97 : Int) ≤ (c.toNat : Int)) = false ∧ decide ((48 : Int) ≤ (c.toNat : Int)) = true ∧ decide ((c.toNat : Int) ≤ 57) = true) ∨
    (decide ((97 : Int) ≤ (c.toNat : Int)) = false ∧ decide ((48 : Int) ≤ (c.toNat : Int)) = false ∧ ((c.toNat : Int) == 45) = true) ∨
    (decide ((97 : Int) ≤ (c.toNat : Int)) = true ∧ decide ((c.toNat : Int) ≤ 122) = false ∧ decide ((48 : Int) ≤ (c.toNat : Int)) = true ∧ decide ((c.toNat : Int) ≤ 57) = false ∧ ((c.toNat : Int) == 45) = false ∧ isWord c = false) ∨
    (decide ((97 : Int) ≤ (c.toNat : Int)) = false ∧ decide ((48 : Int) ≤ (c.toNat : Int)) = true ∧ decide ((c.toNat : Int) ≤ 57) = false ∧ ((c.toNat : Int) == 45) = false ∧ isWord c = false) ∨
    (decide ((97 : Int) ≤ (c.toNat : Int)) = false ∧ decide ((48 : Int) ≤ (c.toNat : Int)) = false ∧ ((c.toNat : Int) == 45) = false ∧ isWord c = false) := by
  have hw : isWord c = ((decide (97 ≤ c.toNat) && decide (c.toNat ≤ 122)) || (decide (48 ≤ c.toNat) && decide (c.toNat ≤ 57)) || decide (c.toNat = 45)) := by
    unfold isWord isNum
    congr 1
    rw [Bool.eq_iff_iff]
    simp only [beq_iff_eq, decide_eq_true_iff]
    constructor
    · rintro rfl; rfl
    · intro h; exact UInt8.toNat_inj.1 h
  rw [hw]
  generalize c.toNat = n
  simp only [decide_eq_true_iff, decide_eq_false_iff_not, beq_iff_eq, beq_eq_false_iff_ne, Bool.or_eq_false_iff, Bool.and_eq_false_iff]
  omega

set_option maxRecDepth 100000 in
set_option maxHeartbeats 4000000 in
/-- From the print on. -/
theorem walk (K : ValueC) (v : V) (more : ByteArray) (w : World) (hG : TabW w) (h0 : -9223372036854775808 ≤ v.n) (h1 : v.n ≤ 9223372036854775807) (hs : more.size ≤ reachBytes) :
    Calls Tryd.prog 6 #[v.val, .string more] w fun r w' => r = .returned (.bool true) ∧ Below w.heap.size w w' := by
  unfold reachBytes at hs
  obtain ⟨k, n, s⟩ := v
  have HL := Lib.hid (fun (W wx : World) (hb : Below W.heap.size W wx) => call_from hb (liveV_any K wx))
  have HRi : Hid (∀ W wx : World, Below W.heap.size W wx → Calls Tryd.prog 13 #[.agg #[.int .i64 k, .int .i64 n, .string s]] wx fun r w' => r = .returned (.int .i64 (rightV ⟨k, n, s⟩)) ∧ Below W.heap.size W w') := Lib.hid fun W wx hb => call_from hb (K.right ⟨k, n, s⟩ wx)
  show Calls Tryd.prog 6 #[.agg #[.int .i64 k, .int .i64 n, .string s], .string more] w _
  have hb0 : Below w.heap.size w (w.alloc (.cells #[.int .i64 k, .int .i64 n, .string s] 23)) := box_below _ _ _
  by_cases h : 1000 < more.size
  · have d1 : decide ((1000 : Int) < (more.size : Int)) = true := by rw [decide_eq_true_iff]; omega
    have HB0 := Lib.hid hb0
    clear h hb0 K
    go_enter Tryd.func6, Tryd.ntmps6
    go_wp2_with fail
    refine (HL.out w _ HB0.out).mono ?_
    rintro r w1 ⟨rfl, hb⟩
    have HB1 := Lib.hid hb
    clear hb
    go_wp2_with fail
    refine (HL.out w _ HB1.out).mono ?_
    rintro r w2 ⟨rfl, hb⟩
    have HB2 := Lib.hid hb
    clear hb
    go_wp2_with fail
    go_ret
    exact ⟨rfl, HB2.out⟩
  · have d1 : decide ((1000 : Int) < (more.size : Int)) = false := by rw [decide_eq_false_iff_not]; omega
    have hG0 := hG.below hb0
    have hx0 := Boxed.new w k n s
    generalize hw0 : w.alloc (.cells #[.int .i64 k, .int .i64 n, .string s] 23) = w0 at hb0 hx0 hG0
    have HG0 := Lib.hid hG0
    clear hG0 hG
    have HB0 := Lib.hid hb0
    have HX0 := Lib.hid hx0
    have HW0 := Lib.hid hw0
    clear hb0 hx0 hw0
    by_cases hr : rightV ⟨k, n, s⟩ = 0
    · have HPr : Hid (∀ wx : World, Below w0.heap.size w0 wx → Calls Tryd.prog 22 #[.agg #[.int .i64 k, .int .i64 n, .string s]] wx fun r w' => r = .returned (.string ⟨(printV ⟨k, n, s⟩).toArray⟩) ∧ Below w0.heap.size w0 w') := Lib.hid fun wx hb => call_from hb (K.print ⟨k, n, s⟩ wx (fun _ => HG0.out.below hb) hr h0 h1)
      have hlen := print_len hr h0 h1
      have hparse : moreOk k more.data.toList = true → ∀ W wx : World, Below W.heap.size W wx → Calls Tryd.prog 23 #[.string ((⟨(printV ⟨k, n, s⟩).toArray⟩ : ByteArray) ++ more)] wx fun r w' => r = .returned (.tuple #[.agg #[.int .i64 k, .int .i64 n, .string s], .int .i64 (printV ⟨k, n, s⟩).length, .int .i64 0]) ∧ Below W.heap.size W w' := fun hm W wx hb => by
        have e : (⟨(printV ⟨k, n, s⟩).toArray⟩ : ByteArray) ++ more = ⟨(printV ⟨k, n, s⟩ ++ more.data.toList).toArray⟩ := by
          apply ByteArray.ext
          simp
        rw [e]
        exact call_from hb (K.parse ⟨k, n, s⟩ more.data.toList wx hr h0 h1 hm (by have : more.data.toList.length = more.size := rfl; omega))
      have hps : (⟨(printV ⟨k, n, s⟩).toArray⟩ : ByteArray).size = (printV ⟨k, n, s⟩).length := by simp [ByteArray.size]
      rw [hr] at HRi
      have heq : ∀ w, (Op.equalIn 10000 23 (.agg #[.int .i64 k, .int .i64 n, .string s]) (.agg #[.int .i64 k, .int .i64 n, .string s])).run Tryd.prog w = .ok true w := fun w => by rw [eq_in, eqV_self]
      have HEQ := Lib.hid heq
      generalize hpb : (⟨(printV ⟨k, n, s⟩).toArray⟩ : ByteArray) = pb at HPr hparse hps
      rw [← hps] at hparse hlen
      have HParse := Lib.hid hparse
      clear hr hpb hps hparse heq HG0 K
      go_enter Tryd.func6, Tryd.ntmps6
      go_wp2_with fail
      rw [HW0.out]
      refine (HL.out w0 _ (Below.refl _ _)).mono ?_
      rintro r w1 ⟨rfl, hb⟩
      have HX1 := Lib.hid (HX0.out.below hb)
      have HB1 := Lib.hid hb
      clear hb
      obtain ⟨b0, b1, b2⟩ := HX1.out.cells
      go_wp2_with fail
      refine (HRi.out w0 _ HB1.out).mono ?_
      rintro r w2 ⟨rfl, hb⟩
      have HX2 := Lib.hid (HX0.out.below hb)
      have HB2 := Lib.hid hb
      clear hb b0 b1 b2 HB1 HX1
      obtain ⟨b0, b1, b2⟩ := HX2.out.cells
      by_cases hm : more.size = 0
      · have d2 := empty_yes hm
        have HP := Lib.hid (HParse.out (by rw [List.eq_nil_of_length_eq_zero (show more.data.toList.length = 0 from hm)]; rfl))
        clear hm
        go_wp2_with fail
        refine (HPr.out _ HB2.out).mono ?_
        rintro r w3 ⟨rfl, hb⟩
        have HX3 := Lib.hid (HX0.out.below hb)
        have HB3 := Lib.hid hb
        clear hb b0 b1 b2 HX2 HB2
        have hno : ¬ (9223372036854775807 < pb.size + more.size) := by omega
        go_wp2_with fail
        refine (HP.out w0 _ HB3.out).mono ?_
        rintro r w4 ⟨rfl, hb⟩
        have HX4 := Lib.hid (HX0.out.below hb)
        have HB4 := Lib.hid hb
        clear hb HX3 HB3
        obtain ⟨b0, b1, b2⟩ := HX4.out.cells
        have hq := HEQ.out
        have hlt := HX4.out.lt
        go_wp2_with fail
        go_ret
        exact ⟨rfl, HB0.out.trans ((HB4.out.alloc HB4.out.size _).mono HB0.out.size)⟩
      · have d2 := empty_no hm
        have hm0 : 0 < more.size := by omega
        have hcons : more.data.toList = more[0] :: more.data.toList.drop 1 := by
          have h := List.drop_eq_getElem_cons (l := more.data.toList) (i := 0) (by simpa using hm0)
          rw [List.drop_zero] at h
          exact h
        have HC := Lib.hid hcons
        clear hm hcons
        rcases kinds more[0] with ⟨e1, e2⟩ | ⟨e1, e2, e3⟩ | ⟨e1, e2, e3⟩ | ⟨e1, e2, e3, e4, e5, hw⟩ | ⟨e1, e2, e3, e4, hw⟩ | ⟨e1, e2, e3, hw⟩
        · go_wp2_with fail
          go_ret
          exact ⟨rfl, HB0.out.trans (HB2.out.mono HB0.out.size)⟩
        · go_wp2_with fail
          go_ret
          exact ⟨rfl, HB0.out.trans (HB2.out.mono HB0.out.size)⟩
        · go_wp2_with fail
          go_ret
          exact ⟨rfl, HB0.out.trans (HB2.out.mono HB0.out.size)⟩
        all_goals
          have HP := Lib.hid (HParse.out (by rw [HC.out]; exact more_ok hw))
          clear hw
          go_wp2_with fail
          refine (HPr.out _ HB2.out).mono ?_
          rintro r w3 ⟨rfl, hb⟩
          have HX3 := Lib.hid (HX0.out.below hb)
          have HB3 := Lib.hid hb
          clear hb b0 b1 b2 HX2 HB2
          have hno : ¬ (9223372036854775807 < pb.size + more.size) := by omega
          go_wp2_with fail
          refine (HP.out w0 _ HB3.out).mono ?_
          rintro r w4 ⟨rfl, hb⟩
          have HX4 := Lib.hid (HX0.out.below hb)
          have HB4 := Lib.hid hb
          clear hb HX3 HB3
          obtain ⟨b0, b1, b2⟩ := HX4.out.cells
          have hq := HEQ.out
          have hlt := HX4.out.lt
          go_wp2_with fail
          go_ret
          exact ⟨rfl, HB0.out.trans ((HB4.out.alloc HB4.out.size _).mono HB0.out.size)⟩
    · have hrb : (rightV ⟨k, n, s⟩ != 0) = true := by simpa using hr
      generalize rightV ⟨k, n, s⟩ = er at *
      clear hr HG0 K
      go_enter Tryd.func6, Tryd.ntmps6
      go_wp2_with fail
      rw [HW0.out]
      refine (HL.out w0 _ (Below.refl _ _)).mono ?_
      rintro r w1 ⟨rfl, hb⟩
      have HX1 := Lib.hid (HX0.out.below hb)
      have HB1 := Lib.hid hb
      clear hb
      obtain ⟨b0, b1, b2⟩ := HX1.out.cells
      go_wp2_with fail
      refine (HRi.out w0 _ HB1.out).mono ?_
      rintro r w2 ⟨rfl, hb⟩
      have HB2 := Lib.hid hb
      clear hb b0 b1 b2 HB1 HX1
      go_wp2_with fail
      refine (HL.out w0 _ HB2.out).mono ?_
      rintro r w3 ⟨rfl, hb⟩
      have HB3 := Lib.hid hb
      clear hb
      go_wp2_with fail
      go_ret
      exact ⟨rfl, HB0.out.trans (HB3.out.mono HB0.out.size)⟩
end Go.Proofs.YtepniiaojhiogaaDoor.valueRead
