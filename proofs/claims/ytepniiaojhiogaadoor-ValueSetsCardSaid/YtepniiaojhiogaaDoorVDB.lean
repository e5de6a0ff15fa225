/-
  Package value: Compare, by cmp.Compare and cmp.Or.
-/
import Derived.Test.YtepniiaojhiogaaDoorVDA
namespace Go.Proofs.YtepniiaojhiogaaDoor
open Go.RowKit

theorem same_from {P : Program} {f : FuncId} {args : Array Value} {v : Value} {W wx : World} (hb : Below W.heap.size W wx) (h : Calls P f args wx fun r w' => r = .returned v ∧ w' = wx) :
    Calls P f args wx fun r w' => r = .returned v ∧ Below W.heap.size W w' := h.mono fun _ _ ⟨a, b⟩ => ⟨a, by rw [b]; exact hb⟩

theorem nanI_any (a : Int) (w : World) : Calls Tryd.prog 74 #[.int .i64 a] w fun r w' => r = .returned (.bool false) ∧ w' = w := by
  go_enter Tryd.func74, Tryd.ntmps74
  go_wp2
  go_ret
  simp
theorem nanL_any (a : Int) (w : World) : Calls Tryd.prog 75 #[.int .i64 a] w fun r w' => r = .returned (.bool false) ∧ w' = w := by
  go_enter Tryd.func75, Tryd.ntmps75
  go_wp2
  go_ret
  simp
theorem nanS_any (a : ByteArray) (w : World) : Calls Tryd.prog 76 #[.string a] w fun r w' => r = .returned (.bool false) ∧ w' = w := by
  go_enter Tryd.func76, Tryd.ntmps76
  go_wp2
  go_ret
  simp

theorem cmpI_any (a b : Int) (w : World) : Calls Tryd.prog 53 #[.int .i64 a, .int .i64 b] w fun r w' => r = .returned (.int .i64 (cmpI a b)) ∧ w' = w := by
  have HC := Lib.hid (show (a < b ∧ cmpI a b = -1) ∨ (¬ a < b ∧ b < a ∧ cmpI a b = 1) ∨ (¬ a < b ∧ ¬ b < a ∧ cmpI a b = 0) by
    unfold cmpI; split
    · exact .inl ⟨by assumption, rfl⟩
    · split
      · exact .inr (.inl ⟨by assumption, by assumption, rfl⟩)
      · exact .inr (.inr ⟨by assumption, by assumption, rfl⟩))
  generalize cmpI a b = z at *
  rcases HC.out with ⟨h1, h⟩ | ⟨h1, h2, h⟩ | ⟨h1, h2, h⟩
  all_goals
    subst h
    clear HC
    (try have b1 : decide (a < b) = false := by simpa using h1)
    (try have b1 : decide (a < b) = true := by simpa using h1)
    (try have b2 : decide (b < a) = false := by simpa using h2)
    (try have b2 : decide (b < a) = true := by simpa using h2)
    go_enter Tryd.func53, Tryd.ntmps53
    go_wp2_with (go_at_call 74; refine (nanI_any _ _).mono ?_; rintro r w' ⟨rfl, rfl⟩)
    go_ret
    exact ⟨rfl, rfl⟩
theorem cmpL_any (a b : Int) (w : World) : Calls Tryd.prog 54 #[.int .i64 a, .int .i64 b] w fun r w' => r = .returned (.int .i64 (cmpI a b)) ∧ w' = w := by
  have HC := Lib.hid (show (a < b ∧ cmpI a b = -1) ∨ (¬ a < b ∧ b < a ∧ cmpI a b = 1) ∨ (¬ a < b ∧ ¬ b < a ∧ cmpI a b = 0) by
    unfold cmpI; split
    · exact .inl ⟨by assumption, rfl⟩
    · split
      · exact .inr (.inl ⟨by assumption, by assumption, rfl⟩)
      · exact .inr (.inr ⟨by assumption, by assumption, rfl⟩))
  generalize cmpI a b = z at *
  rcases HC.out with ⟨h1, h⟩ | ⟨h1, h2, h⟩ | ⟨h1, h2, h⟩
  all_goals
    subst h
    clear HC
    (try have b1 : decide (a < b) = false := by simpa using h1)
    (try have b1 : decide (a < b) = true := by simpa using h1)
    (try have b2 : decide (b < a) = false := by simpa using h2)
    (try have b2 : decide (b < a) = true := by simpa using h2)
    go_enter Tryd.func54, Tryd.ntmps54
    go_wp2_with (go_at_call 75; refine (nanL_any _ _).mono ?_; rintro r w' ⟨rfl, rfl⟩)
    go_ret
    exact ⟨rfl, rfl⟩
theorem cmpT_any (s t : ByteArray) (w : World) : Calls Tryd.prog 55 #[.string s, .string t] w fun r w' => r = .returned (.int .i64 (cmpS s.data.toList t.data.toList)) ∧ w' = w := by
  have e1 : Op.bytesLess s.toList t.toList = blt s.data.toList t.data.toList := by rw [ByteArray.toList_eq, ByteArray.toList_eq]
  have e2 : Op.bytesLess t.toList s.toList = blt t.data.toList s.data.toList := by rw [ByteArray.toList_eq, ByteArray.toList_eq]
  have HC := Lib.hid (show (blt s.data.toList t.data.toList = true ∧ blt t.data.toList s.data.toList = false ∧ (s.toList == t.toList) = false ∧ cmpS s.data.toList t.data.toList = -1) ∨ (blt s.data.toList t.data.toList = false ∧ blt t.data.toList s.data.toList = true ∧ (s.toList == t.toList) = false ∧ cmpS s.data.toList t.data.toList = 1) ∨ (blt s.data.toList t.data.toList = false ∧ blt t.data.toList s.data.toList = false ∧ (s.toList == t.toList) = true ∧ cmpS s.data.toList t.data.toList = 0) by
    rw [ByteArray.toList_eq, ByteArray.toList_eq]
    rcases blt_tri s.data.toList t.data.toList with h | h | h
    · exact .inl ⟨h, blt_asymm h, beq_eq_false_iff_ne.2 (fun e => by rw [e, blt_self] at h; cases h), cmpS_lt h⟩
    · rw [h]; exact .inr (.inr ⟨blt_self _, blt_self _, beq_self_eq_true _, cmpS_self _⟩)
    · exact .inr (.inl ⟨blt_asymm h, h, beq_eq_false_iff_ne.2 (fun e => by rw [e, blt_self] at h; cases h), cmpS_gt h⟩))
  generalize cmpS s.data.toList t.data.toList = z at *
  rcases HC.out with ⟨h1, h2, e3, h⟩ | ⟨h1, h2, e3, h⟩ | ⟨h1, h2, e3, h⟩
  all_goals
    subst h
    clear HC
    rw [h1] at e1
    rw [h2] at e2
    clear h1 h2
    go_enter Tryd.func55, Tryd.ntmps55
    go_wp2_with (go_at_call 76; refine (nanS_any _ _).mono ?_; rintro r w' ⟨rfl, rfl⟩)
    go_ret
    exact ⟨rfl, rfl⟩

theorem or_any (a b c : Int) (g : Nat) (w : World) (hg : w.heap[g]? = some (.cells #[.int .i64 a, .int .i64 b, .int .i64 c] 3 (0, 0))) :
    Calls Tryd.prog 52 #[.slice (some ⟨g, 0, none⟩) 3 3] w fun r w' => r = .returned (.int .i64 (then3 a (then3 b c))) ∧ w' = w := by
  have c0 := cell_of_row w g 0 _ _ _ hg
  have c1 := cell_of_row w g 1 _ _ _ hg
  have c2 := cell_of_row w g 2 _ _ _ hg
  have HZ := Lib.hid (show (a = 0 ∧ b = 0 ∧ then3 a (then3 b c) = c) ∨ (a = 0 ∧ b ≠ 0 ∧ then3 a (then3 b c) = b) ∨ (a ≠ 0 ∧ then3 a (then3 b c) = a) by
    unfold then3
    by_cases ha : a = 0
    · by_cases hb : b = 0
      · exact .inl ⟨ha, hb, by simp [ha, hb]⟩
      · exact .inr (.inl ⟨ha, hb, by simp [ha, hb]⟩)
    · exact .inr (.inr ⟨ha, by simp [ha]⟩))
  generalize then3 a (then3 b c) = z at *
  clear hg
  go_enter Tryd.func52, Tryd.ntmps52
  go_wp2
  go_loop [8] (fun i => ∃ k : Nat, i = .int .i64 k ∧ (k = 0 ∨ (k = 1 ∧ a = 0) ∨ (k = 2 ∧ a = 0 ∧ b = 0) ∨ (k = 3 ∧ a = 0 ∧ b = 0 ∧ c = 0))) (fun i => 3 - (intOf i).toNat)
  case atStart => exact ⟨0, rfl, .inl rfl⟩
  case round =>
    obtain ⟨k, rfl, hk⟩ := hrel
    rcases hk with rfl | ⟨rfl, ha⟩ | ⟨rfl, ha, hb⟩ | ⟨rfl, ha, hb, hc⟩
    · by_cases h : a = 0
      · have hn : (a != 0) = false := by simp [h]
        have H := Lib.hid h
        clear h
        go_wp2
        go_round
        case rel => exact ⟨1, rfl, .inr (.inl ⟨rfl, H.out⟩)⟩
        case measure => simp [intOf]
      · have hn : (a != 0) = true := by simp [h]
        have H := Lib.hid h
        clear h
        go_wp2
        go_ret
        rcases HZ.out with ⟨e, _⟩ | ⟨e, _⟩ | ⟨_, e⟩
        · exact absurd e H.out
        · exact absurd e H.out
        · rw [e]; exact ⟨rfl, rfl⟩
    · have HA := Lib.hid ha
      clear ha
      by_cases h : b = 0
      · have hn : (b != 0) = false := by simp [h]
        have H := Lib.hid h
        clear h
        go_wp2
        go_round
        case rel => exact ⟨2, rfl, .inr (.inr (.inl ⟨rfl, HA.out, H.out⟩))⟩
        case measure => simp [intOf]
      · have hn : (b != 0) = true := by simp [h]
        have H := Lib.hid h
        clear h
        go_wp2
        go_ret
        rcases HZ.out with ⟨_, e, _⟩ | ⟨_, _, e⟩ | ⟨e, _⟩
        · exact absurd e H.out
        · rw [e]; exact ⟨rfl, rfl⟩
        · exact absurd HA.out e
    · have HA := Lib.hid ha
      have HB := Lib.hid hb
      clear ha hb
      by_cases h : c = 0
      · have hn : (c != 0) = false := by simp [h]
        have H := Lib.hid h
        clear h
        go_wp2
        go_round
        case rel => exact ⟨3, rfl, .inr (.inr (.inr ⟨rfl, HA.out, HB.out, H.out⟩))⟩
        case measure => simp [intOf]
      · have hn : (c != 0) = true := by simp [h]
        have H := Lib.hid h
        clear h
        go_wp2
        go_ret
        rcases HZ.out with ⟨_, _, e⟩ | ⟨_, e, _⟩ | ⟨e, _⟩
        · rw [e]; exact ⟨rfl, rfl⟩
        · exact absurd HB.out e
        · exact absurd HA.out e
    · have H := Lib.hid (show z = 0 by
        rcases HZ.out with ⟨_, _, e⟩ | ⟨_, e, _⟩ | ⟨e, _⟩
        · rw [e]; exact hc
        · exact absurd hb e
        · exact absurd ha e)
      clear HZ ha hb hc
      go_wp2
      go_ret
      rw [H.out]
      exact ⟨rfl, rfl⟩
theorem or_new (a b c : Int) {W wx : World} (hb : Below W.heap.size W wx) : Calls Tryd.prog 52 #[.slice (some ⟨wx.heap.size, 0, none⟩) 3 3] (wx.alloc (.cells #[.int .i64 a, .int .i64 b, .int .i64 c] 3)) fun r w' => r = .returned (.int .i64 (then3 a (then3 b c))) ∧ Below W.heap.size W w' :=
  (or_any a b c wx.heap.size _ (heap_alloc_new wx _)).mono fun _ _ ⟨h1, h2⟩ => ⟨h1, by rw [h2]; exact hb.alloc hb.size _⟩

set_option maxRecDepth 100000 in
set_option maxHeartbeats 2000000 in
theorem vCompare_any : CompareC := by
  intro x y w
  obtain ⟨k, n, s⟩ := x
  obtain ⟨k', n', s'⟩ := y
  show Calls Tryd.prog 24 #[.agg #[.int .i64 k, .int .i64 n, .string s], .agg #[.int .i64 k', .int .i64 n', .string s']] w _
  have HI := Lib.hid (fun (W wx : World) (hb : Below W.heap.size W wx) => same_from hb (cmpI_any k k' wx))
  have HL := Lib.hid (fun (W wx : World) (hb : Below W.heap.size W wx) => same_from hb (cmpL_any n n' wx))
  have HS := Lib.hid (fun (W wx : World) (hb : Below W.heap.size W wx) => same_from hb (cmpT_any s s' wx))
  have HV := Lib.hid (show cmpV ⟨k, n, s⟩ ⟨k', n', s'⟩ = then3 (cmpI k k') (then3 (cmpI n n') (cmpS s.data.toList s'.data.toList)) from rfl)
  generalize cmpV ⟨k, n, s⟩ ⟨k', n', s'⟩ = z at *
  generalize cmpI k k' = p at *
  generalize cmpI n n' = q at *
  generalize cmpS s.data.toList s'.data.toList = r at *
  have HO := Lib.hid (fun (W wx : World) (hb : Below W.heap.size W wx) => or_new p q r hb)
  go_enter Tryd.func24, Tryd.ntmps24
  go_upto_region 1 with fail
  have hb2 : Below w.heap.size w ((w.alloc (.cells #[.int .i64 k, .int .i64 n, .string s] 23)).alloc (.cells #[.int .i64 k', .int .i64 n', .string s'] 23)) := ((Below.refl _ w).alloc (Nat.le_refl _) _).alloc (by simp) _
  have x1 := (Boxed.new w k n s).below ((Below.refl _ _).alloc (Nat.le_refl _) (.cells #[.int .i64 k', .int .i64 n', .string s'] 23))
  have x2 := Boxed.new (w.alloc (.cells #[.int .i64 k, .int .i64 n, .string s] 23)) k' n' s'
  rw [show (w.alloc (.cells #[.int .i64 k, .int .i64 n, .string s] 23)).heap.size = w.heap.size + 1 from by simp] at x2
  obtain ⟨w1, hw⟩ : ∃ wy, ((w.alloc (.cells #[.int .i64 k, .int .i64 n, .string s] 23)).alloc (.cells #[.int .i64 k', .int .i64 n', .string s'] 23)) = wy := ⟨_, rfl⟩
  rw [hw] at hb2 x1 x2 ⊢
  have HB := Lib.hid hb2
  have X1 := Lib.hid x1
  have X2 := Lib.hid x2
  clear hw hb2 x1 x2
  have keep : ∀ w', Below w1.heap.size w1 w' → w'.cell? ⟨w.heap.size, 0, none⟩ = some (.int .i64 k) ∧ w'.cell? ⟨w.heap.size, 1, none⟩ = some (.int .i64 n) ∧ w'.cell? ⟨w.heap.size, 2, none⟩ = some (.string s) ∧ w'.cell? ⟨w.heap.size + 1, 0, none⟩ = some (.int .i64 k') ∧ w'.cell? ⟨w.heap.size + 1, 1, none⟩ = some (.int .i64 n') ∧ w'.cell? ⟨w.heap.size + 1, 2, none⟩ = some (.string s') ∧ Below w1.heap.size w1 w' := fun w' h =>
    have m1 := (X1.out.below h).cells
    have m2 := (X2.out.below h).cells
    ⟨m1.1, m1.2.1, m1.2.2, m2.1, m2.2.1, m2.2.2, h⟩
  have KEEP := Lib.hid keep
  obtain ⟨c0, c1, c2, c3, c4, c5, _⟩ := keep _ (Below.refl _ _)
  clear keep
  go_region_held3 (fun w' => w'.cell? ⟨w.heap.size, 0, none⟩ = some (.int .i64 k) ∧ w'.cell? ⟨w.heap.size, 1, none⟩ = some (.int .i64 n) ∧ w'.cell? ⟨w.heap.size, 2, none⟩ = some (.string s) ∧ w'.cell? ⟨w.heap.size + 1, 0, none⟩ = some (.int .i64 k') ∧ w'.cell? ⟨w.heap.size + 1, 1, none⟩ = some (.int .i64 n') ∧ w'.cell? ⟨w.heap.size + 1, 2, none⟩ = some (.string s') ∧ Below w1.heap.size w1 w')
    (first | with_reducible exact KEEP.out _ hb6 | with_reducible exact KEEP.out _ (Below.refl _ _).drew | with_reducible exact KEEP.out _ (Below.alloc hb6 (Below.size hb6) _))
    (first
      | (go_at_call 53; (with_reducible refine (HI.out w1 _ (by go_split_ands; assumption)).mono ?_); rintro r w' ⟨rfl, hb6⟩)
      | (go_at_call 54; (with_reducible refine (HL.out w1 _ (by go_split_ands; assumption)).mono ?_); rintro r w' ⟨rfl, hb6⟩)
      | (go_at_call 55; (with_reducible refine (HS.out w1 _ (by go_split_ands; assumption)).mono ?_); rintro r w' ⟨rfl, hb6⟩)
      | (go_at_call 52; (with_reducible refine (HO.out w1 _ (by go_split_ands; assumption)).mono ?_); rintro r w' ⟨rfl, hb6⟩))
  go_wp2
  go_ret
  rw [HV.out]
  exact ⟨rfl, HB.out.trans (hb6.mono HB.out.size)⟩
end Go.Proofs.YtepniiaojhiogaaDoor
