/-
  The document's own answers on values: Right, Compare of conductorref04.
-/
import Derived.Test.YtepniiaojhiogaaDoorVPlain
import Derived.Test.YtepniiaojhiogaaDoorBase
import Derived.Laws.NewBlocks
import Derived.Laws.Cover1
namespace Go.Proofs.YtepniiaojhiogaaDoor
open Go.RowKit

theorem empty_yes {s : ByteArray} (h : s.size = 0) : (!s.toList.isEmpty) = false := by
  rw [ByteArray.toList_eq, List.eq_nil_of_length_eq_zero (show s.data.toList.length = 0 from h)]
  rfl
theorem empty_no {s : ByteArray} (h : s.size ≠ 0) : (!s.toList.isEmpty) = true := by
  rw [ByteArray.toList_eq]
  cases he : s.data.toList with
  | nil => exact absurd (show s.data.toList.length = 0 by rw [he]; rfl) h
  | cons c t => rfl
theorem ret_i64 {a b : Int} (h : a = b) : Ending.returned (.int .i64 a) = .returned (.int .i64 b) := by rw [h]
theorem box_below (w : World) (cs : Array Value) (t : TypeId) : Below w.heap.size w (w.alloc (.cells cs t)) := (Below.refl _ w).alloc (Nat.le_refl _) _

set_option maxHeartbeats 1000000 in
theorem fRight_any (v : V) (w : World) : Calls Tryd.prog 14 #[v.val] w fun r w' => r = .returned (.int .i64 (rightV v)) ∧ Below w.heap.size w w' := by
  obtain ⟨k, n, s⟩ := v
  show Calls Tryd.prog 14 #[.agg #[.int .i64 k, .int .i64 n, .string s]] w _
  by_cases h1 : k < 1
  · have b1 : decide (k < 1) = true := by simpa using h1
    have HV := Lib.hid (show rightV ⟨k, n, s⟩ = 40 from if_pos (.inl h1))
    go_enter Tryd.func14, Tryd.ntmps14
    go_wp2
    go_ret
    rw [HV.out]
    exact ⟨rfl, box_below _ _ _⟩
  · have b1 : decide (k < 1) = false := by simpa using h1
    by_cases h2 : 3 < k
    · have b2 : decide (3 < k) = true := by simpa using h2
      have HV := Lib.hid (show rightV ⟨k, n, s⟩ = 40 from if_pos (.inr h2))
      go_enter Tryd.func14, Tryd.ntmps14
      go_wp2
      go_ret
      rw [HV.out]
      exact ⟨rfl, box_below _ _ _⟩
    · have hk : k = 1 ∨ k = 2 ∨ k = 3 := by omega
      clear h1 h2 b1
      rcases hk with rfl | rfl | rfl
      · by_cases h0 : s.size = 0
        · have b0 := empty_yes h0
          have HV := Lib.hid (show rightV ⟨1, n, s⟩ = 0 by simp [rightV, h0])
          clear h0
          go_enter Tryd.func14, Tryd.ntmps14
          go_wp2
          go_ret
          rw [HV.out]
          exact ⟨rfl, box_below _ _ _⟩
        · have b0 := empty_no h0
          have HV := Lib.hid (show rightV ⟨1, n, s⟩ = 1 by simp [rightV, h0])
          clear h0
          go_enter Tryd.func14, Tryd.ntmps14
          go_wp2
          go_ret
          rw [HV.out]
          exact ⟨rfl, box_below _ _ _⟩
      · by_cases h0 : s.size = 0
        · have b0 := empty_yes h0
          by_cases n0 : n = 0
          · have HV := Lib.hid (show rightV ⟨2, n, s⟩ = 0 by simp [rightV, h0, n0])
            have c0 : (n != 0) = false := by simp [n0]
            clear h0 n0
            go_enter Tryd.func14, Tryd.ntmps14
            go_wp2
            go_ret
            rw [HV.out]
            exact ⟨rfl, box_below _ _ _⟩
          · have c0 : (n != 0) = true := by simp [n0]
            by_cases n1 : n = 1
            · have HV := Lib.hid (show rightV ⟨2, n, s⟩ = 0 by simp [rightV, h0, n1])
              have c1 : (n != 1) = false := by simp [n1]
              clear h0 n0 n1
              go_enter Tryd.func14, Tryd.ntmps14
              go_wp2
              go_ret
              rw [HV.out]
              exact ⟨rfl, box_below _ _ _⟩
            · have HV := Lib.hid (show rightV ⟨2, n, s⟩ = 1 by simp [rightV, h0, n0, n1])
              have c1 : (n != 1) = true := by simp [n1]
              clear h0 n0 n1
              go_enter Tryd.func14, Tryd.ntmps14
              go_wp2
              go_ret
              rw [HV.out]
              exact ⟨rfl, box_below _ _ _⟩
        · have b0 := empty_no h0
          have HV := Lib.hid (show rightV ⟨2, n, s⟩ = 1 by simp [rightV, h0])
          clear h0
          go_enter Tryd.func14, Tryd.ntmps14
          go_wp2
          go_ret
          rw [HV.out]
          exact ⟨rfl, box_below _ _ _⟩
      · by_cases h6 : 64 < s.size
        · have b6 : decide (64 < (s.size : Int)) = true := by rw [decide_eq_true_iff]; omega
          have HV := Lib.hid (show rightV ⟨3, n, s⟩ = 3 by simp [rightV, h6])
          clear h6
          go_enter Tryd.func14, Tryd.ntmps14
          go_wp2
          go_ret
          rw [HV.out]
          exact ⟨rfl, box_below _ _ _⟩
        · have b6 : decide (64 < (s.size : Int)) = false := by rw [decide_eq_false_iff_not]; omega
          by_cases n0 : n = 0
          · have HV := Lib.hid (show rightV ⟨3, n, s⟩ = 0 by simp [rightV, h6, n0])
            have c0 : (n != 0) = false := by simp [n0]
            clear h6 n0
            go_enter Tryd.func14, Tryd.ntmps14
            go_wp2
            go_ret
            rw [HV.out]
            exact ⟨rfl, box_below _ _ _⟩
          · have HV := Lib.hid (show rightV ⟨3, n, s⟩ = 1 by simp [rightV, h6, n0])
            have c0 : (n != 0) = true := by simp [n0]
            clear h6 n0
            go_enter Tryd.func14, Tryd.ntmps14
            go_wp2
            go_ret
            rw [HV.out]
            exact ⟨rfl, box_below _ _ _⟩

set_option maxHeartbeats 1000000 in
theorem fCompare_any (a b : V) (w : World) : Calls Tryd.prog 25 #[a.val, b.val] w fun r w' => r = .returned (.int .i64 (cmpV a b)) ∧ Below w.heap.size w w' := by
  obtain ⟨k, n, s⟩ := a
  obtain ⟨k', n', s'⟩ := b
  show Calls Tryd.prog 25 #[.agg #[.int .i64 k, .int .i64 n, .string s], .agg #[.int .i64 k', .int .i64 n', .string s']] w _
  have two : ∀ (c1 c2 : Array Value), Below w.heap.size w ((w.alloc (.cells c1 23)).alloc (.cells c2 23)) := fun c1 c2 => ((Below.refl _ w).alloc (Nat.le_refl _) _).alloc (by simp) _
  rcases Int.lt_trichotomy k k' with h | rfl | h
  · have b1 : decide (k < k') = true := by simpa using h
    have b2 : ¬ k = k' := by omega
    have HC := Lib.hid (cmp_k_lt (n := n) (n' := n') (s := s) (s' := s') h)
    go_enter Tryd.func25, Tryd.ntmps25
    go_wp2
    go_ret
    rw [HC.out]
    exact ⟨rfl, two _ _⟩
  · rcases Int.lt_trichotomy n n' with h | rfl | h
    · have b1 : decide (n < n') = true := by simpa using h
      have b2 : ¬ n = n' := by omega
      have HC := Lib.hid (cmp_n_lt (k := k) (s := s) (s' := s') h)
      go_enter Tryd.func25, Tryd.ntmps25
      go_wp2
      go_ret
      rw [HC.out]
      exact ⟨rfl, two _ _⟩
    · have hb : Op.bytesLess s.toList s'.toList = blt s.data.toList s'.data.toList := by rw [ByteArray.toList_eq, ByteArray.toList_eq]
      have HC := Lib.hid (cmp_s k n s s')
      rcases blt_tri s.data.toList s'.data.toList with h | h | h
      · have b2 : ¬ s.toList = s'.toList := by
          rw [ByteArray.toList_eq, ByteArray.toList_eq]
          intro e
          rw [e, blt_self] at h
          cases h
        rw [h] at hb
        have HH := Lib.hid (cmpS_lt h)
        clear h
        go_enter Tryd.func25, Tryd.ntmps25
        go_wp2
        go_ret
        rw [HC.out, HH.out]
        exact ⟨rfl, two _ _⟩
      · obtain rfl := ba_list h
        have HH := Lib.hid (cmpS_self s.data.toList)
        clear h hb
        go_enter Tryd.func25, Tryd.ntmps25
        go_wp2
        go_ret
        rw [HC.out, HH.out]
        exact ⟨rfl, two _ _⟩
      · have b2 : ¬ s.toList = s'.toList := by
          rw [ByteArray.toList_eq, ByteArray.toList_eq]
          intro e
          rw [e, blt_self] at h
          cases h
        rw [blt_asymm h] at hb
        have HH := Lib.hid (cmpS_gt h)
        clear h
        go_enter Tryd.func25, Tryd.ntmps25
        go_wp2
        go_ret
        rw [HC.out, HH.out]
        exact ⟨rfl, two _ _⟩
    · have b1 : decide (n < n') = false := by rw [decide_eq_false_iff_not]; omega
      have b2 : ¬ n = n' := by omega
      have HC := Lib.hid (cmp_n_gt (k := k) (s := s) (s' := s') h)
      clear h
      go_enter Tryd.func25, Tryd.ntmps25
      go_wp2
      go_ret
      rw [HC.out]
      exact ⟨rfl, two _ _⟩
  · have b1 : decide (k < k') = false := by rw [decide_eq_false_iff_not]; omega
    have b2 : ¬ k = k' := by omega
    have HC := Lib.hid (cmp_k_gt (n := n) (n' := n') (s := s) (s' := s') h)
    clear h
    go_enter Tryd.func25, Tryd.ntmps25
    go_wp2
    go_ret
    rw [HC.out]
    exact ⟨rfl, two _ _⟩
end Go.Proofs.YtepniiaojhiogaaDoor
