import Derived.Test.YtfpjepeikjfkpaaGreatDoorZBlanks17
/-
  Package value: Print; and what Parse asks of texts.
-/
namespace Go.Proofs.YtfpjepeikjfkpaaGreatDoor
open Go.RowKit

theorem right_truth {n : Int} {s : ByteArray} (h : rightV ⟨2, n, s⟩ = 0) : n = 0 ∨ n = 1 := by
  unfold rightV at h
  rw [if_neg (by simp), if_neg (by simp)] at h
  split at h
  · cases h
  · next h1 =>
    simp at h1
    omega

set_option maxRecDepth 100000 in
set_option maxHeartbeats 1000000 in
theorem vPrint_any : PrintC := by
  intro v w hT hr h0 h1
  obtain ⟨k, n, s⟩ := v
  show Calls Tryz.prog 56 #[.agg #[.int .i64 k, .int .i64 n, .string s]] w _
  simp only at h0 h1 hT
  have hb0 := box_below w #[.int .i64 k, .int .i64 n, .string s] 42
  rcases right_kind hr with hk | hk | hk
  · simp only at hk
    subst hk
    have HF := Lib.hid (format_any n h0 h1 _ ((hT rfl).below hb0))
    have HP := Lib.hid (show printV ⟨1, n, s⟩ = intL n from rfl)
    have HB := Lib.hid hb0
    clear hb0 hT
    go_enter Tryz.func56, Tryz.ntmps56
    go_wp2_with fail
    refine HF.out.mono ?_
    rintro r w1 ⟨rfl, hb⟩
    have HB1 := Lib.hid (HB.out.trans (hb.mono HB.out.size))
    clear hb
    go_wp2_with fail
    go_ret
    rw [HP.out]
    exact ⟨rfl, HB1.out⟩
  · simp only at hk
    subst hk
    have HB := Lib.hid hb0
    clear hb0 hT
    rcases right_truth hr with rfl | rfl
    · have HP := Lib.hid (show printV ⟨2, 0, s⟩ = [102, 97, 108, 115, 101] from rfl)
      go_enter Tryz.func56, Tryz.ntmps56
      go_wp2
      go_ret
      rw [HP.out]
      exact ⟨rfl, HB.out⟩
    · have HP := Lib.hid (show printV ⟨2, 1, s⟩ = [116, 114, 117, 101] from rfl)
      go_enter Tryz.func56, Tryz.ntmps56
      go_wp2
      go_ret
      rw [HP.out]
      exact ⟨rfl, HB.out⟩
  · simp only at hk
    subst hk
    have hs := (right_text hr rfl).1
    simp only at hs
    have HQ := Lib.hid (quoted_any s hs (w.alloc (.cells #[.int .i64 3, .int .i64 n, .string s] 42)))
    have HP := Lib.hid (show printV ⟨3, n, s⟩ = 34 :: (escL s.data.toList ++ [34]) from rfl)
    have HB := Lib.hid hb0
    clear hb0 hT
    go_enter Tryz.func56, Tryz.ntmps56
    go_wp2_with fail
    refine HQ.out.mono ?_
    rintro r w1 ⟨rfl, hb⟩
    have HB1 := Lib.hid (HB.out.trans (hb.mono HB.out.size))
    clear hb
    go_wp2_with fail
    go_ret
    rw [HP.out]
    exact ⟨rfl, HB1.out⟩

/-! ### texts -/
theorem ext_drop (s : ByteArray) (k : Nat) : s.extract k s.size = ⟨(s.data.toList.drop k).toArray⟩ := by
  apply ByteArray.ext
  rw [ByteArray.data_extract]
  apply Array.toList_inj.1
  rw [Array.toList_extract]
  show List.extract _ _ _ = _
  unfold List.extract
  have : s.data.size = s.data.toList.length := (Array.length_toList).symm
  rw [show s.size = s.data.toList.length from rfl, List.take_of_length_le (by rw [List.length_drop]; omega)]
theorem ext_take (s : ByteArray) (k : Nat) : s.extract 0 k = ⟨(s.data.toList.take k).toArray⟩ := by
  apply ByteArray.ext
  rw [ByteArray.data_extract]
  apply Array.toList_inj.1
  rw [Array.toList_extract]
  show List.extract _ _ _ = _
  unfold List.extract
  simp

theorem pre_yes (s p : ByteArray) (r : List UInt8) (hs : s.data.toList = p.data.toList ++ r) (hn : s.size ≤ 4611686018427387904) (w : World) :
    Calls Tryz.prog 127 #[.string s, .string p] w fun e w' => e = .returned (.bool true) ∧ w' = w := by
  have hl : s.size = p.size + r.length := by
    show s.data.toList.length = p.data.toList.length + r.length
    rw [hs, List.length_append]
  have b1 : decide ((p.size : Int) ≤ (s.size : Int)) = true := by rw [decide_eq_true_iff]; omega
  have hpi : (p.size : Int) ≤ (s.size : Int) := by omega
  have he : s.extract 0 p.size = p := by
    rw [ext_take, hs]
    apply ba_list
    simp only [List.toList_toArray]
    exact List.take_left
  clear hl hs
  go_enter Tryz.func127, Tryz.ntmps127
  go_wp2
  go_ret
  exact ⟨by simp, rfl⟩
theorem pre_no (s p : ByteArray) (hs : s.data.toList.take p.size ≠ p.data.toList) (hn : s.size ≤ 4611686018427387904) (w : World) :
    Calls Tryz.prog 127 #[.string s, .string p] w fun e w' => e = .returned (.bool false) ∧ w' = w := by
  have he : ((s.extract 0 p.size).toList == p.toList) = false := by
    rw [beq_eq_false_iff_ne, ByteArray.toList_eq, ByteArray.toList_eq, ext_take]
    exact hs
  clear hs
  by_cases hl : p.size ≤ s.size
  · have b1 : decide ((p.size : Int) ≤ (s.size : Int)) = true := by rw [decide_eq_true_iff]; omega
    have hpi : (p.size : Int) ≤ (s.size : Int) := by omega
    go_enter Tryz.func127, Tryz.ntmps127
    go_wp2
    go_ret
    exact ⟨by simp [he], rfl⟩
  · have b1 : decide ((p.size : Int) ≤ (s.size : Int)) = false := by rw [decide_eq_false_iff_not]; omega
    go_enter Tryz.func127, Tryz.ntmps127
    go_wp2
    go_ret
    exact ⟨rfl, rfl⟩
theorem has_yes (s p : ByteArray) (r : List UInt8) (hs : s.data.toList = p.data.toList ++ r) (hn : s.size ≤ 4611686018427387904) (w : World) :
    Calls Tryz.prog 101 #[.string s, .string p] w fun e w' => e = .returned (.bool true) ∧ w' = w := by
  have H := Lib.hid (pre_yes s p r hs hn w)
  clear hs
  go_enter Tryz.func101, Tryz.ntmps101
  go_wp2_with (go_at_call 127; refine H.out.mono ?_; rintro r w' ⟨rfl, rfl⟩)
  go_ret
  exact ⟨rfl, rfl⟩
theorem has_no (s p : ByteArray) (hs : s.data.toList.take p.size ≠ p.data.toList) (hn : s.size ≤ 4611686018427387904) (w : World) :
    Calls Tryz.prog 101 #[.string s, .string p] w fun e w' => e = .returned (.bool false) ∧ w' = w := by
  have H := Lib.hid (pre_no s p hs hn w)
  clear hs
  go_enter Tryz.func101, Tryz.ntmps101
  go_wp2_with (go_at_call 127; refine H.out.mono ?_; rintro r w' ⟨rfl, rfl⟩)
  go_ret
  exact ⟨rfl, rfl⟩
theorem trim_yes (s p : ByteArray) (r : List UInt8) (hs : s.data.toList = p.data.toList ++ r) (hn : s.size ≤ 4611686018427387904) (w : World) :
    Calls Tryz.prog 98 #[.string s, .string p] w fun e w' => e = .returned (.string ⟨r.toArray⟩) ∧ w' = w := by
  have H := Lib.hid (pre_yes s p r hs hn w)
  have he : s.extract p.size s.size = ⟨r.toArray⟩ := by
    rw [ext_drop, hs]
    congr 2
    exact List.drop_left
  have hl : s.size = p.size + r.length := by
    show s.data.toList.length = p.data.toList.length + r.length
    rw [hs, List.length_append]
  have hpi : (p.size : Int) ≤ (s.size : Int) := by omega
  have HE := Lib.hid he
  clear hs hl he
  have H2 : Hid (Calls Tryz.prog 125 #[.string s, .string p] w fun e w' => e = .returned (.string (s.extract p.size s.size)) ∧ w' = w) := Lib.hid (by
    go_enter Tryz.func125, Tryz.ntmps125
    go_wp2_with (go_at_call 127; refine H.out.mono ?_; rintro r w' ⟨rfl, rfl⟩)
    go_ret
    exact ⟨rfl, rfl⟩)
  go_enter Tryz.func98, Tryz.ntmps98
  go_wp2_with (go_at_call 125; refine H2.out.mono ?_; rintro r w' ⟨rfl, rfl⟩)
  go_ret
  rw [HE.out]
  exact ⟨rfl, rfl⟩
theorem trim_no (s p : ByteArray) (hs : s.data.toList.take p.size ≠ p.data.toList) (hn : s.size ≤ 4611686018427387904) (w : World) :
    Calls Tryz.prog 98 #[.string s, .string p] w fun e w' => e = .returned (.string s) ∧ w' = w := by
  have H := Lib.hid (pre_no s p hs hn w)
  clear hs
  have H2 : Hid (Calls Tryz.prog 125 #[.string s, .string p] w fun e w' => e = .returned (.string s) ∧ w' = w) := Lib.hid (by
    go_enter Tryz.func125, Tryz.ntmps125
    go_wp2_with (go_at_call 127; refine H.out.mono ?_; rintro r w' ⟨rfl, rfl⟩)
    go_ret
    exact ⟨rfl, rfl⟩)
  go_enter Tryz.func98, Tryz.ntmps98
  go_wp2_with (go_at_call 125; refine H2.out.mono ?_; rintro r w' ⟨rfl, rfl⟩)
  go_ret
  exact ⟨rfl, rfl⟩
theorem cut_yes (s p : ByteArray) (r : List UInt8) (hs : s.data.toList = p.data.toList ++ r) (hn : s.size ≤ 4611686018427387904) (w : World) :
    Calls Tryz.prog 129 #[.string s, .string p] w fun e w' => e = .returned (.tuple #[.string ⟨r.toArray⟩, .bool true]) ∧ w' = w := by
  have H := Lib.hid (pre_yes s p r hs hn w)
  have he : s.extract p.size s.size = ⟨r.toArray⟩ := by
    rw [ext_drop, hs]
    congr 2
    exact List.drop_left
  have hl : s.size = p.size + r.length := by
    show s.data.toList.length = p.data.toList.length + r.length
    rw [hs, List.length_append]
  have hpi : (p.size : Int) ≤ (s.size : Int) := by omega
  have HE := Lib.hid he
  clear hs hl he
  have H2 : Hid (Calls Tryz.prog 139 #[.string s, .string p] w fun e w' => e = .returned (.tuple #[.string (s.extract p.size s.size), .bool true]) ∧ w' = w) := Lib.hid (by
    go_enter Tryz.func139, Tryz.ntmps139
    go_wp2_with (go_at_call 127; refine H.out.mono ?_; rintro r w' ⟨rfl, rfl⟩)
    go_ret2
    exact ⟨rfl, rfl⟩)
  rw [HE.out] at H2
  go_enter Tryz.func129, Tryz.ntmps129
  go_wp2_with (go_at_call 139; refine H2.out.mono ?_; rintro r w' ⟨rfl, rfl⟩)
  go_ret2
  exact ⟨rfl, rfl⟩
theorem cut_no (s p : ByteArray) (hs : s.data.toList.take p.size ≠ p.data.toList) (hn : s.size ≤ 4611686018427387904) (w : World) :
    Calls Tryz.prog 129 #[.string s, .string p] w fun e w' => e = .returned (.tuple #[.string s, .bool false]) ∧ w' = w := by
  have H := Lib.hid (pre_no s p hs hn w)
  clear hs
  have H2 : Hid (Calls Tryz.prog 139 #[.string s, .string p] w fun e w' => e = .returned (.tuple #[.string s, .bool false]) ∧ w' = w) := Lib.hid (by
    go_enter Tryz.func139, Tryz.ntmps139
    go_wp2_with (go_at_call 127; refine H.out.mono ?_; rintro r w' ⟨rfl, rfl⟩)
    go_ret2
    exact ⟨rfl, rfl⟩)
  go_enter Tryz.func129, Tryz.ntmps129
  go_wp2_with (go_at_call 139; refine H2.out.mono ?_; rintro r w' ⟨rfl, rfl⟩)
  go_ret2
  exact ⟨rfl, rfl⟩
end Go.Proofs.YtfpjepeikjfkpaaGreatDoor
