import Derived.Test.YtfpjepeikjfkpaaGreatDoorZBlanks06
/-
  Package value: Int, Bool, Text, and Right.
-/
namespace Go.Proofs.YtfpjepeikjfkpaaGreatDoor
open Go.RowKit

theorem vInt_all (n : Int) (w : World) : Calls Tryz.prog 78 #[.int .i64 n] w fun r w' => r = .returned (.agg #[.int .i64 1, .int .i64 n, .string ⟨#[]⟩]) ∧ Below w.heap.size w w' := by
  go_enter Tryz.func78, Tryz.ntmps78
  go_wp2
  exact bodyPost_ret (v := .agg #[.int .i64 1, .int .i64 n, .string ⟨#[]⟩]) (by simp [results, Tryz.results78, go_sem]) rfl ⟨rfl, box_below w _ _⟩
theorem vInt_any : IntC := fun n w _ _ => vInt_all n w

theorem vText_any : TextC := by
  intro s w
  go_enter Tryz.func77, Tryz.ntmps77
  go_wp2
  exact bodyPost_ret (v := .agg #[.int .i64 3, .int .i64 0, .string s]) (by simp [results, Tryz.results77, go_sem]) rfl ⟨rfl, box_below w _ _⟩

theorem vBool_any : BoolC := by
  intro b w
  cases b
  · go_enter Tryz.func79, Tryz.ntmps79
    go_wp2
    exact bodyPost_ret (v := .agg #[.int .i64 2, .int .i64 0, .string ⟨#[]⟩]) (by simp [results, Tryz.results79, go_sem]) rfl ⟨rfl, box_below w _ _⟩
  · go_enter Tryz.func79, Tryz.ntmps79
    go_wp2
    exact bodyPost_ret (v := .agg #[.int .i64 2, .int .i64 1, .string ⟨#[]⟩]) (by simp [results, Tryz.results79, go_sem]) rfl ⟨rfl, box_below w _ _⟩
end Go.Proofs.YtfpjepeikjfkpaaGreatDoor

/-
  Package value: Right.
-/
namespace Go.Proofs.YtfpjepeikjfkpaaGreatDoor
open Go.RowKit

theorem wp_region_class' {P : Program} {C : World → Prop} {id : Nat} {Q : Exit → Act → World → Prop} {a : Act} {w : World} {l : List Oper} (hm : P.follows .mixedOrders = true) (hB : Region.lexB .any l.toArray = true) (hC : C w.drew)
    (h : wpQuiet P l.toArray C (fun a' => ∀ w', C w' → Q .normal a' w') l a) : (Code.region id l.toArray true).wp P Q a w :=
  wp_region_quiet (C := C) hm hB hC (by simpa using h)

/-- The value of a truth, of a number, of a text: which of them a value is. -/
theorem right_end {k n : Int} {s : ByteArray} (b1 b2 b3 : Bool) (h1 : eqV ⟨k, n, s⟩ ⟨3, 0, s⟩ = !b1) (h2 : eqV ⟨k, n, s⟩ ⟨1, n, ⟨#[]⟩⟩ = !b2) (h3 : eqV ⟨k, n, s⟩ ⟨2, if (n == 1) = true then 1 else 0, ⟨#[]⟩⟩ = !b3)
    (hk : k = 1 ∨ k = 2 ∨ k = 3) (hs : k = 3 → s.size ≤ 64) : rightV ⟨k, n, s⟩ = if (b1 && b2 && b3) = true then 1 else 0 := by
  have he : s.size = 0 ↔ s = ⟨#[]⟩ := ⟨ba_empty, fun h => by rw [h]; rfl⟩
  have g : ∀ (a b : V) (x : Bool), eqV a b = !x → (x = true ↔ ¬ a = b) := fun a b x h => by
    rw [← eqV_iff, h]; cases x <;> simp
  have g1 := g _ _ _ h1
  have g2 := g _ _ _ h2
  have g3 := g _ _ _ h3
  simp only [V.mk.injEq] at g1 g2 g3
  unfold rightV
  simp only [Bool.and_eq_true, g1, g2, g3]
  rcases hk with rfl | rfl | rfl
  · by_cases h0 : s.size = 0
    · simp [he.1 h0, ByteArray.size]
    · simp [h0, mt he.2 h0]
  · by_cases h0 : s.size = 0
    · by_cases n0 : n = 0
      · simp [n0, he.1 h0, ByteArray.size]
      · by_cases n1 : n = 1
        · simp [n1, he.1 h0, ByteArray.size]
        · simp [n0, n1, he.1 h0, ByteArray.size]
    · simp [h0, mt he.2 h0]
  · have := hs rfl
    by_cases n0 : n = 0
    · simp [n0, show ¬ 64 < s.size by omega]
    · simp [n0, show ¬ 64 < s.size by omega]

set_option maxRecDepth 100000 in
set_option maxHeartbeats 2000000 in
theorem vRight_in (k n : Int) (s : ByteArray) (b1 b2 b3 : Bool) (h1 : eqV ⟨k, n, s⟩ ⟨3, 0, s⟩ = !b1) (h2 : eqV ⟨k, n, s⟩ ⟨1, n, ⟨#[]⟩⟩ = !b2) (h3 : eqV ⟨k, n, s⟩ ⟨2, if (n == 1) = true then 1 else 0, ⟨#[]⟩⟩ = !b3)
    (hbb : (k = 1 ∧ b1 = true ∧ b3 = true) ∨ (k = 2 ∧ b1 = true ∧ b2 = true) ∨ (k = 3 ∧ b2 = true ∧ b3 = true)) (hs : k = 3 → s.size ≤ 64) (w : World) : Calls Tryz.prog 43 #[.agg #[.int .i64 k, .int .i64 n, .string s]] w fun r w' => r = .returned (.int .i64 (rightV ⟨k, n, s⟩)) ∧ Below w.heap.size w w' := by
  have hk : k = 1 ∨ k = 2 ∨ k = 3 := by rcases hbb with h | h | h <;> omega
  have HV := Lib.hid (right_end b1 b2 b3 h1 h2 h3 hk hs)
  generalize rightV ⟨k, n, s⟩ = z at *
  have q1 : ∀ w, (Op.equalIn 10000 42 (.agg #[.int .i64 k, .int .i64 n, .string s]) (.agg #[.int .i64 3, .int .i64 0, .string s])).run Tryz.prog w = .ok (!b1) w := fun w => by rw [eq_in, h1]
  have q2 : ∀ w, (Op.equalIn 10000 42 (.agg #[.int .i64 k, .int .i64 n, .string s]) (.agg #[.int .i64 1, .int .i64 n, .string ⟨#[]⟩])).run Tryz.prog w = .ok (!b2) w := fun w => by rw [eq_in, h2]
  have q3 : ∀ w, (Op.equalIn 10000 42 (.agg #[.int .i64 k, .int .i64 n, .string s]) (.agg #[.int .i64 2, .int .i64 (if (n == 1) = true then 1 else 0), .string ⟨#[]⟩])).run Tryz.prog w = .ok (!b3) w := fun w => by rw [eq_in, h3]
  have HBX := Lib.hid (Boxed.new w k n s)
  have HB := Lib.hid (box_below w #[.int .i64 k, .int .i64 n, .string s] 42)
  have HT := Lib.hid (fun (W wx : World) (hb : Below W.heap.size W wx) => call_from hb (vText_any s wx))
  have HI := Lib.hid (fun (W wx : World) (hb : Below W.heap.size W wx) => call_from hb (vInt_all n wx))
  have HBo := Lib.hid (fun (W wx : World) (hb : Below W.heap.size W wx) => call_from hb (vBool_any (n == 1) wx))
  generalize (if (n == 1) = true then (1 : Int) else 0) = t at q3 HBo
  clear h1 h2 h3
  obtain ⟨w1, hw1⟩ : ∃ wy, w.alloc (.cells #[.int .i64 k, .int .i64 n, .string s] 42) = wy := ⟨_, rfl⟩
  rw [hw1] at HBX HB
  have HX := Lib.hid (fun (w' : World) (hb : Below w1.heap.size w1 w') => (HBX.out.below hb).cells)
  have HW := Lib.hid hw1
  clear hw1 HBX
  have hb : (k = 1 ∧ b1 = true ∧ b3 = true) ∨ (k = 2 ∧ b1 = true ∧ b2 = true) ∨ (k = 3 ∧ b2 = true ∧ b3 = true) := hbb
  clear hk hbb
  rcases hb with ⟨rfl, rfl, rfl⟩ | ⟨rfl, rfl, rfl⟩ | ⟨rfl, rfl, rfl⟩
  all_goals
    (try (have hs6 := hs rfl; have b6 : decide (64 < (s.size : Int)) = false := by rw [decide_eq_false_iff_not]; omega))
    clear hs
    go_enter Tryz.func43, Tryz.ntmps43
    go_upto_region 7 with fail
    rw [HW.out]
    refine wp_region_class' (C := fun w' => Below w1.heap.size w1 w') (by kernel_rfl) (by kernel_rfl) (Below.refl _ _).drew ?_
    first | cases b1 | cases b2 | cases b3
    all_goals
      repeat (quiet_step (first
        | (intro hw; with_reducible exact HT.out w1 _ hw)
        | (intro hw; with_reducible exact HI.out w1 _ hw)
        | (intro hw; with_reducible exact HBo.out w1 _ hw)
        | (intro _; with_reducible rfl)
        | (intro hw; obtain ⟨c0, c1, c2⟩ := HX.out _ hw; go_simp; with_reducible exact ⟨rfl, rfl⟩)
        | (intro hw; obtain ⟨c0, c1, c2⟩ := HX.out _ hw; go_simp; with_reducible rfl)))
      refine wpQuiet_nil ?_
      intro w8 hb6
      go_wp2_with fail
      go_ret
      exact ⟨by rw [HV.out]; rfl, HB.out.trans (hb6.mono HB.out.size)⟩

theorem eqB (a b : V) : ∃ x : Bool, eqV a b = !x := ⟨!eqV a b, by cases eqV a b <;> rfl⟩
theorem eq_k {k n k' n' : Int} {s s' : ByteArray} (h : k ≠ k') : eqV ⟨k, n, s⟩ ⟨k', n', s'⟩ = !true := by
  rw [Bool.not_true, Bool.eq_false_iff]
  intro e
  have := eqV_iff.1 e
  injection this with e1 _ _
  exact h e1

set_option maxHeartbeats 1000000 in
theorem vRight_any : RightC := by
  intro v w
  obtain ⟨k, n, s⟩ := v
  show Calls Tryz.prog 43 #[.agg #[.int .i64 k, .int .i64 n, .string s]] w _
  by_cases hk : k = 1 ∨ k = 2 ∨ k = 3
  · by_cases h6 : k = 3 ∧ 64 < s.size
    · obtain ⟨rfl, h6⟩ := h6
      have b6 : decide (64 < (s.size : Int)) = true := by rw [decide_eq_true_iff]; omega
      have HV := Lib.hid (show rightV ⟨3, n, s⟩ = 3 by simp [rightV, h6])
      clear h6 hk
      go_enter Tryz.func43, Tryz.ntmps43
      go_wp2
      go_ret
      rw [HV.out]
      exact ⟨rfl, box_below _ _ _⟩
    · obtain ⟨b1, h1⟩ := eqB ⟨k, n, s⟩ ⟨3, 0, s⟩
      obtain ⟨b2, h2⟩ := eqB ⟨k, n, s⟩ ⟨1, n, ⟨#[]⟩⟩
      obtain ⟨b3, h3⟩ := eqB ⟨k, n, s⟩ ⟨2, if (n == 1) = true then 1 else 0, ⟨#[]⟩⟩
      refine vRight_in k n s b1 b2 b3 h1 h2 h3 ?_ (fun h => by omega) w
      rcases hk with rfl | rfl | rfl
      · rw [eq_k (by decide)] at h1 h3
        simp at h1 h3
        exact .inl ⟨rfl, h1, h3⟩
      · rw [eq_k (by decide)] at h1 h2
        simp at h1 h2
        exact .inr (.inl ⟨rfl, h1, h2⟩)
      · rw [eq_k (by decide)] at h2 h3
        simp at h2 h3
        exact .inr (.inr ⟨rfl, h2, h3⟩)
  · have j1 : (k == 1) = false := by rw [beq_eq_false_iff_ne]; omega
    have j2 : (k == 2) = false := by rw [beq_eq_false_iff_ne]; omega
    have j3 : (k == 3) = false := by rw [beq_eq_false_iff_ne]; omega
    have HV := Lib.hid (show rightV ⟨k, n, s⟩ = 40 from if_pos (show k < 1 ∨ 3 < k by omega))
    clear hk
    go_enter Tryz.func43, Tryz.ntmps43
    go_wp2
    go_ret
    rw [HV.out]
    exact ⟨rfl, box_below _ _ _⟩
end Go.Proofs.YtfpjepeikjfkpaaGreatDoor
