/-
  Package value: Put.
-/
import Derived.Test.YtepniiaojhiogaaDoorVDR
import Derived.Test.YtepniiaojhiogaaDoorWrite
namespace Go.Proofs.YtepniiaojhiogaaDoor
open Go.RowKit

theorem int_from (n : Int) (h0 : -9223372036854775808 ≤ n) (h1 : n ≤ 9223372036854775807) {W wy : World} (h : Below W.heap.size W wy) :
    Calls Tryd.prog 41 #[.int .i64 n] wy fun r w' => ∃ A c, r = .returned (.slice A (unInt n).length c) ∧ (A = none → c = 0) ∧ Rd w' wy.heap.size w'.heap.size A (unInt n) ∧ Below wy.heap.size wy w' ∧ Below W.heap.size W w' := by
  refine (int_any n h0 h1 wy).mono ?_
  rintro r w' ⟨A, c, rfl, _, _, hz, hr, hb⟩
  exact ⟨A, c, rfl, hz, hr, hb, h.trans (hb.mono h.size)⟩
theorem join_head (w : World) (g : Nat) (hg : g = w.heap.size) (A1 A2 : Option Addr) (c2 : Nat) (b : UInt8) (l2 : List UInt8) (z1 : A1 = none → 1 = 0) (z2 : A2 = none → c2 = 0) (h1 : Rd w 0 w.heap.size A1 [b]) (h2 : Rd w 0 w.heap.size A2 l2) (hs : (b :: l2).length ≤ 140737488355328) :
    Calls Tryd.prog 39 #[.slice (some ⟨g, 0, none⟩) 2 2] (w.alloc (.cells #[.slice A1 1 1, .slice A2 l2.length c2] 24)) (Ret (b :: l2) w) := by
  subst hg
  exact join_pair w A1 A2 1 c2 [b] l2 (b :: l2) rfl z1 z2 h1 h2 hs

set_option maxRecDepth 100000 in
set_option maxHeartbeats 2000000 in
theorem vPut_num (k n : Int) (s : ByteArray) (kb : UInt8) (hkw : k % 256 = (kb.toNat : Int)) (h3 : (k == 3) = false) (hr : rightV ⟨k, n, s⟩ = 0) (hp : putV ⟨k, n, s⟩ = kb :: unInt n) (h0 : -9223372036854775808 ≤ n) (h1 : n ≤ 9223372036854775807) (w : World) :
    Calls Tryd.prog 16 #[.agg #[.int .i64 k, .int .i64 n, .string s]] w (Ret (putV ⟨k, n, s⟩) w) := by
  have HR := Lib.hid hp
  have HQ := Lib.hid hr
  have HW := Lib.hid hkw
  have HV := Lib.hid (fun w' => vRight_any ⟨k, n, s⟩ w')
  have hl := unInt_len n h0 h1
  have hlen : (kb :: unInt n).length ≤ 140737488355328 := by rw [List.length_cons]; omega
  have HLen := Lib.hid hlen
  have hc0 := (Boxed.new w k n s).cells
  have HC0 := Lib.hid hc0
  have HB0 := Lib.hid (box_below w #[.int .i64 k, .int .i64 n, .string s] 23)
  clear hlen hp hr hkw hc0
  obtain ⟨w0, hw0⟩ : ∃ wy, w.alloc (.cells #[.int .i64 k, .int .i64 n, .string s] 23) = wy := ⟨_, rfl⟩
  have HX0 := Lib.hid (show Boxed w0 w.heap.size ⟨k, n, s⟩ by rw [← hw0]; exact Boxed.new w k n s)
  rw [hw0] at HB0 HC0
  have HW0 := Lib.hid hw0
  clear hw0
  go_enter Tryd.func16, Tryd.ntmps16
  go_upto_region 1 with fail
  rw [HW0.out]
  obtain ⟨c0, c1, c2⟩ := HC0.out
  go_wp2_with fail
  refine (HV.out _).mono ?_
  rw [HQ.out]
  rintro r w2 ⟨rfl, hb⟩
  have HX := Lib.hid (HX0.out.below hb)
  have HB := Lib.hid (HB0.out.trans (hb.mono HB0.out.size))
  clear hb c0 c1 c2
  obtain ⟨c0, c1, c2⟩ := HX.out.cells
  have hltb := HX.out.lt
  go_upto_region 6 with fail
  obtain ⟨w3, hw3⟩ : ∃ wy, w2.alloc (.cells #[.int .u8 (k % 256)] 5) = wy := ⟨_, rfl⟩
  rw [hw3]
  have hb23 : Below w2.heap.size w2 w3 := by rw [← hw3]; exact box_below _ _ _
  have hone : Rd w3 w2.heap.size (w2.heap.size + 1) (some ⟨w2.heap.size, 0, none⟩) [kb] := by rw [← hw3]; exact Rd.one w2 5 _ kb HW.out
  have hsz3 : w3.heap.size = w2.heap.size + 1 := by rw [← hw3]; simp
  have HOne := Lib.hid hone
  have HX3 := Lib.hid (HX.out.below hb23)
  have HB3 := Lib.hid (HB.out.trans (hb23.mono HB.out.size))
  have HSZ := Lib.hid hsz3
  have HI := Lib.hid (int_from n h0 h1 (Below.refl w3.heap.size w3))
  clear hw3 hb23 hone hsz3 c0 c1 c2
  obtain ⟨c0, c1, c2⟩ := HX3.out.cells
  generalize w2.heap.size = gb at *
  go_wp2_with fail
  refine HI.out.mono ?_
  rintro r w4 ⟨A2, c2, rfl, z2, hr2, hb1, hb2⟩
  have hy : Rd w4 0 w4.heap.size (some ⟨gb, 0, none⟩) [kb] := (HOne.out.below hb1 (by have := HSZ.out; omega)).wide (Nat.zero_le _) (by have := hb1.size; have := HSZ.out; omega)
  have HJ := Lib.hid (join_head w4 w4.heap.size rfl (some ⟨gb, 0, none⟩) A2 c2 kb (unInt n) (by intro h; cases h) z2 hy (hr2.wide (Nat.zero_le _) (Nat.le_refl _)) HLen.out)
  have HB4 := Lib.hid (HB3.out.trans (hb2.mono HB3.out.size))
  clear hy hr2 hb1 hb2
  go_wp2_with fail
  refine HJ.out.mono ?_
  rintro r w5 ⟨A3, c3, rfl, hc3, hm3, z3, hr3, hb3⟩
  have HB5 := Lib.hid (HB4.out.trans (hb3.mono HB4.out.size))
  have HR5 := Lib.hid (hr3.wide HB4.out.size (Nat.le_refl _))
  clear hr3 hb3
  go_wp2_with fail
  go_ret
  rw [HR.out]
  exact Ret.of rfl hc3 hm3 z3 HR5.out HB5.out

set_option maxRecDepth 100000 in
set_option maxHeartbeats 2000000 in
theorem vPut_text (n : Int) (s : ByteArray) (hr : rightV ⟨3, n, s⟩ = 0) (w : World) :
    Calls Tryd.prog 16 #[.agg #[.int .i64 3, .int .i64 n, .string s]] w (Ret (putV ⟨3, n, s⟩) w) := by
  have hs := (right_text hr rfl).1
  simp only at hs
  have HR := Lib.hid (show putV ⟨3, n, s⟩ = 3 :: unText s.data.toList by rw [put_right hr]; rfl)
  have HQ := Lib.hid hr
  have HV := Lib.hid (fun w' => vRight_any ⟨3, n, s⟩ w')
  have hlen : (3 :: unText s.data.toList).length ≤ 140737488355328 := by
    have h1 := un_ten (n := s.size) (by omega)
    have h2 : s.data.toList.length = s.size := rfl
    rw [List.length_cons, unText, List.length_append, h2]
    omega
  have HLen := Lib.hid hlen
  have HB0 := Lib.hid (box_below w #[.int .i64 3, .int .i64 n, .string s] 23)
  clear hlen hr
  obtain ⟨w0, hw0⟩ : ∃ wy, w.alloc (.cells #[.int .i64 3, .int .i64 n, .string s] 23) = wy := ⟨_, rfl⟩
  have HX0 := Lib.hid (show Boxed w0 w.heap.size ⟨3, n, s⟩ by rw [← hw0]; exact Boxed.new w 3 n s)
  rw [hw0] at HB0
  have HW0 := Lib.hid hw0
  clear hw0
  go_enter Tryd.func16, Tryd.ntmps16
  go_upto_region 1 with fail
  rw [HW0.out]
  obtain ⟨c0, c1, c2⟩ := HX0.out.cells
  go_wp2_with fail
  refine (HV.out _).mono ?_
  rw [HQ.out]
  rintro r w2 ⟨rfl, hb⟩
  have HX := Lib.hid (HX0.out.below hb)
  have HB := Lib.hid (HB0.out.trans (hb.mono HB0.out.size))
  clear hb c0 c1 c2
  obtain ⟨c0, c1, c2⟩ := HX.out.cells
  have hltb := HX.out.lt
  go_upto_region 5 with fail
  obtain ⟨w3, hw3⟩ : ∃ wy, w2.alloc (.cells #[.int .u8 3] 5) = wy := ⟨_, rfl⟩
  rw [hw3]
  have hb23 : Below w2.heap.size w2 w3 := by rw [← hw3]; exact box_below _ _ _
  have hone : Rd w3 w2.heap.size (w2.heap.size + 1) (some ⟨w2.heap.size, 0, none⟩) [3] := by rw [← hw3]; exact Rd.one w2 5 3 3 rfl
  have hsz3 : w3.heap.size = w2.heap.size + 1 := by rw [← hw3]; simp
  have HOne := Lib.hid hone
  have HX3 := Lib.hid (HX.out.below hb23)
  have HB3 := Lib.hid (HB.out.trans (hb23.mono HB.out.size))
  have HSZ := Lib.hid hsz3
  have HI := Lib.hid (text_any s (by omega) w3)
  clear hw3 hb23 hone hsz3 c0 c1 c2
  obtain ⟨c0, c1, c2⟩ := HX3.out.cells
  generalize w2.heap.size = gb at *
  go_wp2_with fail
  refine HI.out.mono ?_
  rintro r w4 ⟨A2, c2, rfl, hc2, hm2, z2, hr2, hb1⟩
  have hy : Rd w4 0 w4.heap.size (some ⟨gb, 0, none⟩) [3] := (HOne.out.below hb1 (by have := HSZ.out; omega)).wide (Nat.zero_le _) (by have := hb1.size; have := HSZ.out; omega)
  have HJ := Lib.hid (join_head w4 w4.heap.size rfl (some ⟨gb, 0, none⟩) A2 c2 3 (unText s.data.toList) (by intro h; cases h) z2 hy (hr2.wide (Nat.zero_le _) (Nat.le_refl _)) HLen.out)
  have HB4 := Lib.hid (HB3.out.trans (hb1.mono HB3.out.size))
  clear hy hr2 hb1
  go_wp2_with fail
  refine HJ.out.mono ?_
  rintro r w5 ⟨A3, c3, rfl, hc3, hm3, z3, hr3, hb3⟩
  have HB5 := Lib.hid (HB4.out.trans (hb3.mono HB4.out.size))
  have HR5 := Lib.hid (hr3.wide HB4.out.size (Nat.le_refl _))
  clear hr3 hb3
  go_wp2_with fail
  go_ret
  rw [HR.out]
  exact Ret.of rfl hc3 hm3 z3 HR5.out HB5.out

set_option maxHeartbeats 1000000 in
theorem vPut_wrong (v : V) (hr : rightV v ≠ 0) (w : World) : Calls Tryd.prog 16 #[v.val] w (Ret (putV v) w) := by
  have HR := Lib.hid (put_wrong hr)
  have HV := Lib.hid (fun w' => vRight_any v w')
  have hn : (rightV v != 0) = true := by simpa using hr
  generalize rightV v = e at *
  obtain ⟨k, n, s⟩ := v
  have HV2 : Hid (∀ w', Calls Tryd.prog 13 #[.agg #[.int .i64 k, .int .i64 n, .string s]] w' fun r w'' => r = .returned (.int .i64 e) ∧ Below w'.heap.size w' w'') := Lib.hid HV.out
  clear hr HV
  show Calls Tryd.prog 16 #[.agg #[.int .i64 k, .int .i64 n, .string s]] w _
  obtain ⟨c0, c1, c2⟩ := (Boxed.new w k n s).cells
  go_enter Tryd.func16, Tryd.ntmps16
  go_wp2_with fail
  refine (HV2.out _).mono ?_
  rintro r w2 ⟨rfl, hb⟩
  have HB := Lib.hid ((box_below w #[.int .i64 k, .int .i64 n, .string s] 23).trans (hb.mono (by simp)))
  clear hb c0 c1 c2
  go_wp2_with fail
  go_ret
  rw [HR.out]
  exact ⟨none, 0, rfl, Nat.le_refl _, Nat.zero_le _, fun _ => rfl, Rd.nil_, HB.out⟩

theorem vPut_any : PutC := by
  intro v w h0 h1
  by_cases hr : rightV v = 0
  · obtain ⟨k, n, s⟩ := v
    rcases right_kind hr with hk | hk | hk
    · simp only at hk
      subst hk
      exact vPut_num 1 n s 1 (by decide) rfl hr (by rw [put_right hr]; rfl) h0 h1 w
    · simp only at hk
      subst hk
      exact vPut_num 2 n s 2 (by decide) rfl hr (by rw [put_right hr]; rfl) h0 h1 w
    · simp only at hk
      subst hk
      exact vPut_text n s hr w
  · exact vPut_wrong v hr w
end Go.Proofs.YtepniiaojhiogaaDoor
