import Derived.Test.YtfdiidhilonkoaaZC36
set_option linter.unusedVariables false
/-
  The statements on orders: the chapter's example.
-/
namespace Go.Proofs.Ytfdiidhilonkoaa
open Go.RowKit

theorem TwoAt.first {w : World} {g x : Nat} (h : TwoAt w g x) : w.cell? ⟨g, 0, none⟩ = some (.int .i64 1) ∧ w.cell? ⟨g, 1, none⟩ = some (.int .u64 0) ∧ w.cell? ⟨g, 2, none⟩ = some (.int .u64 0) ∧ w.cell? ⟨g, 3, none⟩ = some (.int .i64 1) ∧ w.cell? ⟨g, 4, none⟩ = some (.int .i64 4) ∧ w.cell? ⟨g, 5, none⟩ = some (.slice (some ⟨x, 0, none⟩) 1 1) ∧ w.cell? ⟨g, 6, none⟩ = some (.slice none 0 0) := ⟨cell_of_row _ _ 0 _ _ _ h.row, cell_of_row _ _ 1 _ _ _ h.row, cell_of_row _ _ 2 _ _ _ h.row, cell_of_row _ _ 3 _ _ _ h.row, cell_of_row _ _ 4 _ _ _ h.row, cell_of_row _ _ 5 _ _ _ h.row, cell_of_row _ _ 6 _ _ _ h.row⟩
theorem TwoAt.second {w : World} {g x : Nat} (h : TwoAt w g x) : w.cell? ⟨g, 7, none⟩ = some (.int .i64 2) ∧ w.cell? ⟨g, 8, none⟩ = some (.int .u64 0) ∧ w.cell? ⟨g, 9, none⟩ = some (.int .u64 1) ∧ w.cell? ⟨g, 10, none⟩ = some (.int .i64 2) ∧ w.cell? ⟨g, 11, none⟩ = some (.int .i64 3) ∧ w.cell? ⟨g, 12, none⟩ = some (.slice none 0 0) ∧ w.cell? ⟨g, 13, none⟩ = some (.slice (some ⟨x, 0, none⟩) 1 1) := ⟨cell_of_row _ _ 7 _ _ _ h.row, cell_of_row _ _ 8 _ _ _ h.row, cell_of_row _ _ 9 _ _ _ h.row, cell_of_row _ _ 10 _ _ _ h.row, cell_of_row _ _ 11 _ _ _ h.row, cell_of_row _ _ 12 _ _ _ h.row, cell_of_row _ _ 13 _ _ _ h.row⟩
theorem TwoAt.ok1 {w : World} {g x : Nat} (h : TwoAt w g x) : OkMZ w w.heap.size (m1Z x) := by
  have := h.ch
  unfold ChZ at this
  exact this.2.2.2.2 _ (by simp)
theorem TwoAt.ok2 {w : World} {g x : Nat} (h : TwoAt w g x) : OkMZ w w.heap.size (m2Z x) := by
  have := h.ch
  unfold ChZ at this
  exact this.2.2.2.2 _ (by simp)
def PlS (b o : Nat) (w : World) : Prop := w.cell? ⟨b, o, none⟩ = some (.int .i64 0) ∧ w.cell? ⟨b, o + 1, none⟩ = some (.int .i64 1)
set_option maxRecDepth 100000 in
set_option maxHeartbeats 16000000 in
theorem liveO_any (K : SpanC) (w : World) : Calls Try.prog 7 #[] w fun r w' => r = .returned (.bool true) ∧ Below w.heap.size w w' := by
  have ho : ∀ (g x : Nat) (W : World), TwoAt W g x → Calls Try.prog 13 #[.slice (some ⟨g, 0, none⟩) 2 2] W (OrdV (some [0, 1]) W) := fun g x W h => by
    have := dOrder_any K [m1Z x, m2Z x] (some ⟨g, 0, none⟩) 2 W h.ch (two_few x) (by simp)
    rw [two_order] at this
    exact this
  have h6 : ∀ (x y : Nat) (W : World), OkMZ W W.heap.size (m1Z x) → OkMZ W W.heap.size (m2Z y) → Calls Try.prog 9 #[.agg #[.int .i64 1, .int .u64 0, .int .u64 0, .int .i64 1, .int .i64 4, .slice (some ⟨x, 0, none⟩) 1 1, .slice none 0 0], .agg #[.int .i64 2, .int .u64 0, .int .u64 1, .int .i64 2, .int .i64 3, .slice none 0 0, .slice (some ⟨y, 0, none⟩) 1 1]] W fun r w' => r = .returned (.bool true) ∧ Below W.heap.size W w' := fun x y W h1 h2 => by
    have := dEdge_any K (m1Z x) (m2Z y) W (two_few x _ (by simp)) (two_few y _ (by simp)) h1 h2
    rw [show edgeD (m1Z x).d (m2Z y).d = true from two_edge1 x] at this
    exact this
  have h9 : ∀ (x y : Nat) (W : World), OkMZ W W.heap.size (m2Z x) → OkMZ W W.heap.size (m1Z y) → Calls Try.prog 9 #[.agg #[.int .i64 2, .int .u64 0, .int .u64 1, .int .i64 2, .int .i64 3, .slice none 0 0, .slice (some ⟨x, 0, none⟩) 1 1], .agg #[.int .i64 1, .int .u64 0, .int .u64 0, .int .i64 1, .int .i64 4, .slice (some ⟨y, 0, none⟩) 1 1, .slice none 0 0]] W fun r w' => r = .returned (.bool false) ∧ Below W.heap.size W w' := fun x y W h1 h2 => by
    have := dEdge_any K (m2Z x) (m1Z y) W (two_few x _ (by simp)) (two_few y _ (by simp)) h1 h2
    rw [show edgeD (m2Z x).d (m1Z y).d = false from two_edge2 x] at this
    exact this
  have HO := Lib.hid ho
  have HEd6 := Lib.hid h6
  have HEd9 := Lib.hid h9
  clear ho h6 h9
  go_enter Try.func7, Try.ntmps7
  go_wp2_with fail
  (with_reducible refine (two_any w).mono ?_)
  rintro r w1 ⟨g, x, rfl, hT, hb1⟩
  have HC1 := Lib.hid (HO.out g x w1 hT)
  have HB1 := Lib.hid hb1
  clear hT hb1
  go_wp2_with fail
  (with_reducible refine HC1.out.mono ?_)
  rintro r w2 ⟨_, hs, hb2⟩
  obtain ⟨A2, c2, rfl, q1, q2, q3, q4⟩ := hs _ rfl
  obtain ⟨b, o, rfl, _, hbl, hc⟩ := q4 (by simp)
  have HB2 := Lib.hid (HB1.out.trans (hb2.mono HB1.out.size))
  have k0 := hc 0 (.int .i64 0) rfl
  have k1 := hc 1 (.int .i64 1) rfl
  simp only [Nat.add_zero] at k0
  have HPl := Lib.hid (fun (W : World) (h : Below w2.heap.size w2 W) => show PlS b o W from ⟨(h.cell (World.block_lt_of_cell? w2 _ k0)).trans k0, (h.cell (World.block_lt_of_cell? w2 _ k1)).trans k1⟩)
  clear hs hb2 q1 q2 q3 q4 hc hbl HC1 HO k0 k1
  simp only [List.length_cons, List.length_nil, Nat.zero_add, Nat.reduceAdd]
  go_upto_region 2 with fail
  have hBB := (Below.refl w2.heap.size w2).drew
  refine wp_region_held_drew (S := PlS b o) (by kernel_rfl) ?_ (fun hHeld => ?_)
  · exact HPl.out _ hBB
  refine take_held (i := 0) (v := ?_) rfl (by kernel_rfl) (by kernel_rfl) (by kernel_rfl) (fun _ _ _ h => h) (by rfl) (fun w hSw => ?_) (by assumption) ?_
  rotate_left
  · go_simp <;> with_reducible rfl
  (try simp only [Act.put, List.setIfInBounds_toArray, List.set_cons_zero, List.set_cons_succ])
  refine take_held (i := 1) (v := ?_) rfl (by kernel_rfl) (by kernel_rfl) (by kernel_rfl) (fun _ _ _ h => h) (by rfl) (fun w hSw => ?_) (by assumption) ?_
  rotate_left
  · go_simp <;> with_reducible rfl
  (try simp only [Act.put, List.setIfInBounds_toArray, List.set_cons_zero, List.set_cons_succ])
  refine take_held (i := 2) (v := ?_) rfl (by kernel_rfl) (by kernel_rfl) (by kernel_rfl) (fun _ _ _ h => h) (by rfl) (fun w hSw => ?_) (by assumption) ?_
  rotate_left
  · go_simp <;> with_reducible rfl
  (try simp only [Act.put, List.setIfInBounds_toArray, List.set_cons_zero, List.set_cons_succ])
  refine take_held (i := 3) (v := ?_) rfl (by kernel_rfl) (by kernel_rfl) (by kernel_rfl) (fun _ _ _ h => h) (by rfl) (fun w hSw => ?_) (by assumption) ?_
  rotate_left
  · go_simp <;> with_reducible rfl
  (try simp only [Act.put, List.setIfInBounds_toArray, List.set_cons_zero, List.set_cons_succ])
  refine take_held (i := 4) (v := ?_) rfl (by kernel_rfl) (by kernel_rfl) (by kernel_rfl) (fun _ _ _ h => h) (by rfl) (fun w hSw => ?_) (by assumption) ?_
  rotate_left
  · go_simp <;> with_reducible rfl
  (try simp only [Act.put, List.setIfInBounds_toArray, List.set_cons_zero, List.set_cons_succ])
  refine take_held (i := 5) (v := ?_) rfl (by kernel_rfl) (by kernel_rfl) (by kernel_rfl) (fun _ _ _ h => h) (by rfl) (fun w hSw => ?_) (by assumption) ?_
  rotate_left
  · go_simp <;> with_reducible rfl
  (try simp only [Act.put, List.setIfInBounds_toArray, List.set_cons_zero, List.set_cons_succ])
  refine take_held (i := 6) (v := ?_) rfl (by kernel_rfl) (by kernel_rfl) (by kernel_rfl) (fun _ _ _ h => h) (by rfl) (fun w hSw => ?_) (by assumption) ?_
  rotate_left
  · go_simp <;> with_reducible rfl
  (try simp only [Act.put, List.setIfInBounds_toArray, List.set_cons_zero, List.set_cons_succ])
  refine take_held (i := 7) (v := ?_) rfl (by kernel_rfl) (by kernel_rfl) (by kernel_rfl) (fun _ _ _ h => h) (by rfl) (fun w hSw => ?_) (by assumption) ?_
  rotate_left
  · go_simp <;> with_reducible rfl
  (try simp only [Act.put, List.setIfInBounds_toArray, List.set_cons_zero, List.set_cons_succ])
  refine take_held (i := 8) (v := ?_) rfl (by kernel_rfl) (by kernel_rfl) (by kernel_rfl) (fun _ _ _ h => h) (by rfl) (fun w hSw => ?_) (by assumption) ?_
  rotate_left
  · go_simp <;> with_reducible rfl
  (try simp only [Act.put, List.setIfInBounds_toArray, List.set_cons_zero, List.set_cons_succ])
  refine take_held (i := 9) (v := ?_) rfl (by kernel_rfl) (by kernel_rfl) (by kernel_rfl) (fun _ _ _ h => h) (by rfl) (fun w hSw => ?_) (by assumption) ?_
  rotate_left
  · obtain ⟨k0, k1⟩ := (show PlS b o w from hSw); go_simp <;> with_reducible rfl
  (try simp only [Act.put, List.setIfInBounds_toArray, List.set_cons_zero, List.set_cons_succ])
  refine take_held (i := 10) (v := ?_) rfl (by kernel_rfl) (by kernel_rfl) (by kernel_rfl) (fun _ _ _ h => h) (by rfl) (fun w hSw => ?_) (by assumption) ?_
  rotate_left
  · go_simp <;> with_reducible rfl
  (try simp only [Act.put, List.setIfInBounds_toArray, List.set_cons_zero, List.set_cons_succ])
  refine take_held (i := 11) (v := ?_) rfl (by kernel_rfl) (by kernel_rfl) (by kernel_rfl) (fun _ _ _ h => h) (by rfl) (fun w hSw => ?_) (by assumption) ?_
  rotate_left
  · go_simp <;> with_reducible rfl
  (try simp only [Act.put, List.setIfInBounds_toArray, List.set_cons_zero, List.set_cons_succ])
  refine take_held (i := 12) (v := ?_) rfl (by kernel_rfl) (by kernel_rfl) (by kernel_rfl) (fun _ _ _ h => h) (by rfl) (fun w hSw => ?_) (by assumption) ?_
  rotate_left
  · go_simp <;> with_reducible rfl
  (try simp only [Act.put, List.setIfInBounds_toArray, List.set_cons_zero, List.set_cons_succ])
  refine take_held (i := 13) (v := ?_) rfl (by kernel_rfl) (by kernel_rfl) (by kernel_rfl) (fun _ _ _ h => h) (by rfl) (fun w hSw => ?_) (by assumption) ?_
  rotate_left
  · go_simp <;> with_reducible rfl
  (try simp only [Act.put, List.setIfInBounds_toArray, List.set_cons_zero, List.set_cons_succ])
  refine take_held (i := 14) (v := ?_) rfl (by kernel_rfl) (by kernel_rfl) (by kernel_rfl) (fun _ _ _ h => h) (by rfl) (fun w hSw => ?_) (by assumption) ?_
  rotate_left
  · go_simp <;> with_reducible rfl
  (try simp only [Act.put, List.setIfInBounds_toArray, List.set_cons_zero, List.set_cons_succ])
  refine take_held (i := 15) (v := ?_) rfl (by kernel_rfl) (by kernel_rfl) (by kernel_rfl) (fun _ _ _ h => h) (by rfl) (fun w hSw => ?_) (by assumption) ?_
  rotate_left
  · obtain ⟨k0, k1⟩ := (show PlS b o w from hSw); go_simp <;> with_reducible rfl
  (try simp only [Act.put, List.setIfInBounds_toArray, List.set_cons_zero, List.set_cons_succ])
  refine take_held (i := 16) (v := ?_) rfl (by kernel_rfl) (by kernel_rfl) (by kernel_rfl) (fun _ _ _ h => h) (by rfl) (fun w hSw => ?_) (by assumption) ?_
  rotate_left
  · go_simp <;> with_reducible rfl
  (try simp only [Act.put, List.setIfInBounds_toArray, List.set_cons_zero, List.set_cons_succ])
  refine take_held (i := 17) (v := ?_) rfl (by kernel_rfl) (by kernel_rfl) (by kernel_rfl) (fun _ _ _ h => h) (by rfl) (fun w hSw => ?_) (by assumption) ?_
  rotate_left
  · go_simp <;> with_reducible rfl
  (try simp only [Act.put, List.setIfInBounds_toArray, List.set_cons_zero, List.set_cons_succ])
  refine take_held (i := 18) (v := ?_) rfl (by kernel_rfl) (by kernel_rfl) (by kernel_rfl) (fun _ _ _ h => h) (by rfl) (fun w hSw => ?_) (by assumption) ?_
  rotate_left
  · go_simp <;> with_reducible rfl
  (try simp only [Act.put, List.setIfInBounds_toArray, List.set_cons_zero, List.set_cons_succ])
  refine step_held (i := 19) (by kernel_rfl) rfl (fun K' hK => ?_)
  go_simp
  (with_reducible refine (two_any _).mono ?_)
  rintro r w4 ⟨g4, x4, rfl, hT4, hb4⟩
  have hBBq := hBB.trans (hb4.mono hBB.size)
  clear hBB
  have hBB := hBBq
  clear hBBq
  obtain ⟨u0, u1, u2, u3, u4, u5, u6⟩ := hT4.first
  (first | (refine hK.out _ _ ?_ (fun hHeld2 => ?_)) | (go_wp2_with fail; refine hK.out _ _ ?_ (fun hHeld2 => ?_)))
  · exact HPl.out _ hBB
  clear hK K' hHeld
  have hHeld := hHeld2
  clear hHeld2
  (try simp only [Act.put, List.setIfInBounds_toArray, List.set_cons_zero, List.set_cons_succ])
  refine take_held (i := 20) (v := ?_) rfl (by kernel_rfl) (by kernel_rfl) (by kernel_rfl) (fun _ _ _ h => h) (by rfl) (fun w hSw => ?_) (by assumption) ?_
  rotate_left
  · go_simp <;> with_reducible rfl
  (try simp only [Act.put, List.setIfInBounds_toArray, List.set_cons_zero, List.set_cons_succ])
  refine step2_held (i := 21) (j := 22) (by kernel_rfl) rfl rfl (fun K' hK => ?_) (fun K' hK => ?_)
  · go_simp
    (first | (refine hK.out _ _ ?_ (fun hHeld2 => ?_)) | (go_wp2_with fail; refine hK.out _ _ ?_ (fun hHeld2 => ?_)))
    · exact HPl.out _ hBB
    clear hK K' hHeld
    have hHeld := hHeld2
    clear hHeld2
    (try simp only [Act.put, List.setIfInBounds_toArray, List.set_cons_zero, List.set_cons_succ])
    refine step_held (i := 22) (by kernel_rfl) rfl (fun K' hK => ?_)
    go_simp
    (with_reducible refine (two_any _).mono ?_)
    rintro r w5 ⟨g5, x5, rfl, hT5, hb5⟩
    have hBBq := hBB.trans (hb5.mono hBB.size)
    clear hBB
    have hBB := hBBq
    clear hBBq
    have hT45 := hT4.below hb5
    obtain ⟨v0, v1, v2, v3, v4, v5, v6⟩ := hT5.second
    obtain ⟨y0, y1, y2, y3, y4, y5, y6⟩ := hT45.first
    (first | (refine hK.out _ _ ?_ (fun hHeld2 => ?_)) | (go_wp2_with fail; refine hK.out _ _ ?_ (fun hHeld2 => ?_)))
    · exact HPl.out _ hBB
    clear hK K' hHeld
    have hHeld := hHeld2
    clear hHeld2
    (try simp only [Act.put, List.setIfInBounds_toArray, List.set_cons_zero, List.set_cons_succ])
    refine take_held (i := 23) (v := ?_) rfl (by kernel_rfl) (by kernel_rfl) (by kernel_rfl) (fun _ _ _ h => h) (by rfl) (fun w hSw => ?_) (by assumption) ?_
    rotate_left
    · go_simp <;> with_reducible rfl
    (try simp only [Act.put, List.setIfInBounds_toArray, List.set_cons_zero, List.set_cons_succ])
    refine step_held (i := 24) (by kernel_rfl) rfl (fun K' hK => ?_)
    go_simp
    (first | (refine hK.out _ _ ?_ (fun hHeld2 => ?_)) | (go_wp2_with fail; refine hK.out _ _ ?_ (fun hHeld2 => ?_)))
    · exact HPl.out _ hBB
    clear hK K' hHeld
    have hHeld := hHeld2
    clear hHeld2
    (try simp only [Act.put, List.setIfInBounds_toArray, List.set_cons_zero, List.set_cons_succ])
    refine step_held (i := 25) (by kernel_rfl) rfl (fun K' hK => ?_)
    go_simp
    (with_reducible refine (HEd6.out x4 x5 w5 hT45.ok1 hT5.ok2).mono ?_)
    rintro r w6 ⟨rfl, hb6⟩
    have hBBq := hBB.trans (hb6.mono hBB.size)
    clear hBB
    have hBB := hBBq
    clear hBBq
    (first | (refine hK.out _ _ ?_ (fun hHeld2 => ?_)) | (go_wp2_with fail; refine hK.out _ _ ?_ (fun hHeld2 => ?_)))
    · exact HPl.out _ hBB
    clear hK K' hHeld
    have hHeld := hHeld2
    clear hHeld2
    (try simp only [Act.put, List.setIfInBounds_toArray, List.set_cons_zero, List.set_cons_succ])
    refine take_held (i := 26) (v := ?_) rfl (by kernel_rfl) (by kernel_rfl) (by kernel_rfl) (fun _ _ _ h => h) (by rfl) (fun w hSw => ?_) (by assumption) ?_
    rotate_left
    · go_simp <;> with_reducible rfl
    (try simp only [Act.put, List.setIfInBounds_toArray, List.set_cons_zero, List.set_cons_succ])
    refine take_held (i := 27) (v := ?_) rfl (by kernel_rfl) (by kernel_rfl) (by kernel_rfl) (fun _ _ _ h => h) (by rfl) (fun w hSw => ?_) (by assumption) ?_
    rotate_left
    · go_simp <;> with_reducible rfl
    (try simp only [Act.put, List.setIfInBounds_toArray, List.set_cons_zero, List.set_cons_succ])
    refine step_held (i := 28) (by kernel_rfl) rfl (fun K' hK => ?_)
    go_simp
    (with_reducible refine (two_any _).mono ?_)
    rintro r w7 ⟨g7, x7, rfl, hT7, hb7⟩
    have hBBq := hBB.trans (hb7.mono hBB.size)
    clear hBB
    have hBB := hBBq
    clear hBBq
    obtain ⟨u0, u1, u2, u3, u4, u5, u6⟩ := hT7.second
    (first | (refine hK.out _ _ ?_ (fun hHeld2 => ?_)) | (go_wp2_with fail; refine hK.out _ _ ?_ (fun hHeld2 => ?_)))
    · exact HPl.out _ hBB
    clear hK K' hHeld
    have hHeld := hHeld2
    clear hHeld2
    (try simp only [Act.put, List.setIfInBounds_toArray, List.set_cons_zero, List.set_cons_succ])
    refine take_held (i := 29) (v := ?_) rfl (by kernel_rfl) (by kernel_rfl) (by kernel_rfl) (fun _ _ _ h => h) (by rfl) (fun w hSw => ?_) (by assumption) ?_
    rotate_left
    · go_simp <;> with_reducible rfl
    (try simp only [Act.put, List.setIfInBounds_toArray, List.set_cons_zero, List.set_cons_succ])
    refine step2_held (i := 30) (j := 31) (by kernel_rfl) rfl rfl (fun K' hK => ?_) (fun K' hK => ?_)
    · go_simp
      (first | (refine hK.out _ _ ?_ (fun hHeld2 => ?_)) | (go_wp2_with fail; refine hK.out _ _ ?_ (fun hHeld2 => ?_)))
      · exact HPl.out _ hBB
      clear hK K' hHeld
      have hHeld := hHeld2
      clear hHeld2
      (try simp only [Act.put, List.setIfInBounds_toArray, List.set_cons_zero, List.set_cons_succ])
      refine step_held (i := 31) (by kernel_rfl) rfl (fun K' hK => ?_)
      go_simp
      (with_reducible refine (two_any _).mono ?_)
      rintro r w8 ⟨g8, x8, rfl, hT8, hb8⟩
      have hBBq := hBB.trans (hb8.mono hBB.size)
      clear hBB
      have hBB := hBBq
      clear hBBq
      have hT78 := hT7.below hb8
      obtain ⟨v0, v1, v2, v3, v4, v5, v6⟩ := hT8.first
      obtain ⟨y0, y1, y2, y3, y4, y5, y6⟩ := hT78.second
      (first | (refine hK.out _ _ ?_ (fun hHeld2 => ?_)) | (go_wp2_with fail; refine hK.out _ _ ?_ (fun hHeld2 => ?_)))
      · exact HPl.out _ hBB
      clear hK K' hHeld
      have hHeld := hHeld2
      clear hHeld2
      (try simp only [Act.put, List.setIfInBounds_toArray, List.set_cons_zero, List.set_cons_succ])
      refine take_held (i := 32) (v := ?_) rfl (by kernel_rfl) (by kernel_rfl) (by kernel_rfl) (fun _ _ _ h => h) (by rfl) (fun w hSw => ?_) (by assumption) ?_
      rotate_left
      · go_simp <;> with_reducible rfl
      (try simp only [Act.put, List.setIfInBounds_toArray, List.set_cons_zero, List.set_cons_succ])
      refine step_held (i := 33) (by kernel_rfl) rfl (fun K' hK => ?_)
      go_simp
      (first | (refine hK.out _ _ ?_ (fun hHeld2 => ?_)) | (go_wp2_with fail; refine hK.out _ _ ?_ (fun hHeld2 => ?_)))
      · exact HPl.out _ hBB
      clear hK K' hHeld
      have hHeld := hHeld2
      clear hHeld2
      (try simp only [Act.put, List.setIfInBounds_toArray, List.set_cons_zero, List.set_cons_succ])
      refine step_held (i := 34) (by kernel_rfl) rfl (fun K' hK => ?_)
      go_simp
      (with_reducible refine (HEd9.out x7 x8 w8 hT78.ok2 hT8.ok1).mono ?_)
      rintro r w9 ⟨rfl, hb9⟩
      have hBBq := hBB.trans (hb9.mono hBB.size)
      clear hBB
      have hBB := hBBq
      clear hBBq
      (first | (refine hK.out _ _ ?_ (fun hHeld2 => ?_)) | (go_wp2_with fail; refine hK.out _ _ ?_ (fun hHeld2 => ?_)))
      · exact HPl.out _ hBB
      clear hK K' hHeld
      have hHeld := hHeld2
      clear hHeld2
      (try simp only [Act.put, List.setIfInBounds_toArray, List.set_cons_zero, List.set_cons_succ])
      refine take_held (i := 35) (v := ?_) rfl (by kernel_rfl) (by kernel_rfl) (by kernel_rfl) (fun _ _ _ h => h) (by rfl) (fun w hSw => ?_) (by assumption) ?_
      rotate_left
      · go_simp <;> with_reducible rfl
      (try simp only [Act.put, List.setIfInBounds_toArray, List.set_cons_zero, List.set_cons_succ])
      refine take_held (i := 36) (v := ?_) rfl (by kernel_rfl) (by kernel_rfl) (by kernel_rfl) (fun _ _ _ h => h) (by rfl) (fun w hSw => ?_) (by assumption) ?_
      rotate_left
      · go_simp <;> with_reducible rfl
      (try simp only [Act.put, List.setIfInBounds_toArray, List.set_cons_zero, List.set_cons_succ])
      refine take_held (i := 37) (v := ?_) rfl (by kernel_rfl) (by kernel_rfl) (by kernel_rfl) (fun _ _ _ h => h) (by rfl) (fun w hSw => ?_) (by assumption) ?_
      rotate_left
      · go_simp <;> with_reducible rfl
      (try simp only [Act.put, List.setIfInBounds_toArray, List.set_cons_zero])
      refine wpAnyH_done (by kernel_rfl) ?_ _
      go_wp2_with fail
      go_ret
      exact ⟨rfl, HB2.out.trans (hBB.mono HB2.out.size)⟩
    · go_simp
      (with_reducible refine (two_any _).mono ?_)
      rintro r w8 ⟨g8, x8, rfl, hT8, hb8⟩
      have hBBq := hBB.trans (hb8.mono hBB.size)
      clear hBB
      have hBB := hBBq
      clear hBBq
      have hT78 := hT7.below hb8
      obtain ⟨v0, v1, v2, v3, v4, v5, v6⟩ := hT8.first
      obtain ⟨y0, y1, y2, y3, y4, y5, y6⟩ := hT78.second
      (first | (refine hK.out _ _ ?_ (fun hHeld2 => ?_)) | (go_wp2_with fail; refine hK.out _ _ ?_ (fun hHeld2 => ?_)))
      · exact HPl.out _ hBB
      clear hK K' hHeld
      have hHeld := hHeld2
      clear hHeld2
      (try simp only [Act.put, List.setIfInBounds_toArray, List.set_cons_zero, List.set_cons_succ])
      refine take_held (i := 32) (v := ?_) rfl (by kernel_rfl) (by kernel_rfl) (by kernel_rfl) (fun _ _ _ h => h) (by rfl) (fun w hSw => ?_) (by assumption) ?_
      rotate_left
      · go_simp <;> with_reducible rfl
      (try simp only [Act.put, List.setIfInBounds_toArray, List.set_cons_zero, List.set_cons_succ])
      refine step2_held (i := 30) (j := 33) (by kernel_rfl) rfl rfl (fun K' hK => ?_) (fun K' hK => ?_)
      · go_simp
        (first | (refine hK.out _ _ ?_ (fun hHeld2 => ?_)) | (go_wp2_with fail; refine hK.out _ _ ?_ (fun hHeld2 => ?_)))
        · exact HPl.out _ hBB
        clear hK K' hHeld
        have hHeld := hHeld2
        clear hHeld2
        (try simp only [Act.put, List.setIfInBounds_toArray, List.set_cons_zero, List.set_cons_succ])
        refine step_held (i := 33) (by kernel_rfl) rfl (fun K' hK => ?_)
        go_simp
        (first | (refine hK.out _ _ ?_ (fun hHeld2 => ?_)) | (go_wp2_with fail; refine hK.out _ _ ?_ (fun hHeld2 => ?_)))
        · exact HPl.out _ hBB
        clear hK K' hHeld
        have hHeld := hHeld2
        clear hHeld2
        (try simp only [Act.put, List.setIfInBounds_toArray, List.set_cons_zero, List.set_cons_succ])
        refine step_held (i := 34) (by kernel_rfl) rfl (fun K' hK => ?_)
        go_simp
        (with_reducible refine (HEd9.out x7 x8 w8 hT78.ok2 hT8.ok1).mono ?_)
        rintro r w9 ⟨rfl, hb9⟩
        have hBBq := hBB.trans (hb9.mono hBB.size)
        clear hBB
        have hBB := hBBq
        clear hBBq
        (first | (refine hK.out _ _ ?_ (fun hHeld2 => ?_)) | (go_wp2_with fail; refine hK.out _ _ ?_ (fun hHeld2 => ?_)))
        · exact HPl.out _ hBB
        clear hK K' hHeld
        have hHeld := hHeld2
        clear hHeld2
        (try simp only [Act.put, List.setIfInBounds_toArray, List.set_cons_zero, List.set_cons_succ])
        refine take_held (i := 35) (v := ?_) rfl (by kernel_rfl) (by kernel_rfl) (by kernel_rfl) (fun _ _ _ h => h) (by rfl) (fun w hSw => ?_) (by assumption) ?_
        rotate_left
        · go_simp <;> with_reducible rfl
        (try simp only [Act.put, List.setIfInBounds_toArray, List.set_cons_zero, List.set_cons_succ])
        refine take_held (i := 36) (v := ?_) rfl (by kernel_rfl) (by kernel_rfl) (by kernel_rfl) (fun _ _ _ h => h) (by rfl) (fun w hSw => ?_) (by assumption) ?_
        rotate_left
        · go_simp <;> with_reducible rfl
        (try simp only [Act.put, List.setIfInBounds_toArray, List.set_cons_zero, List.set_cons_succ])
        refine take_held (i := 37) (v := ?_) rfl (by kernel_rfl) (by kernel_rfl) (by kernel_rfl) (fun _ _ _ h => h) (by rfl) (fun w hSw => ?_) (by assumption) ?_
        rotate_left
        · go_simp <;> with_reducible rfl
        (try simp only [Act.put, List.setIfInBounds_toArray, List.set_cons_zero])
        refine wpAnyH_done (by kernel_rfl) ?_ _
        go_wp2_with fail
        go_ret
        exact ⟨rfl, HB2.out.trans (hBB.mono HB2.out.size)⟩
      · go_simp
        (first | (refine hK.out _ _ ?_ (fun hHeld2 => ?_)) | (go_wp2_with fail; refine hK.out _ _ ?_ (fun hHeld2 => ?_)))
        · exact HPl.out _ hBB
        clear hK K' hHeld
        have hHeld := hHeld2
        clear hHeld2
        (try simp only [Act.put, List.setIfInBounds_toArray, List.set_cons_zero, List.set_cons_succ])
        refine step_held (i := 30) (by kernel_rfl) rfl (fun K' hK => ?_)
        go_simp
        (first | (refine hK.out _ _ ?_ (fun hHeld2 => ?_)) | (go_wp2_with fail; refine hK.out _ _ ?_ (fun hHeld2 => ?_)))
        · exact HPl.out _ hBB
        clear hK K' hHeld
        have hHeld := hHeld2
        clear hHeld2
        (try simp only [Act.put, List.setIfInBounds_toArray, List.set_cons_zero, List.set_cons_succ])
        refine step_held (i := 34) (by kernel_rfl) rfl (fun K' hK => ?_)
        go_simp
        (with_reducible refine (HEd9.out x7 x8 w8 hT78.ok2 hT8.ok1).mono ?_)
        rintro r w9 ⟨rfl, hb9⟩
        have hBBq := hBB.trans (hb9.mono hBB.size)
        clear hBB
        have hBB := hBBq
        clear hBBq
        (first | (refine hK.out _ _ ?_ (fun hHeld2 => ?_)) | (go_wp2_with fail; refine hK.out _ _ ?_ (fun hHeld2 => ?_)))
        · exact HPl.out _ hBB
        clear hK K' hHeld
        have hHeld := hHeld2
        clear hHeld2
        (try simp only [Act.put, List.setIfInBounds_toArray, List.set_cons_zero, List.set_cons_succ])
        refine take_held (i := 35) (v := ?_) rfl (by kernel_rfl) (by kernel_rfl) (by kernel_rfl) (fun _ _ _ h => h) (by rfl) (fun w hSw => ?_) (by assumption) ?_
        rotate_left
        · go_simp <;> with_reducible rfl
        (try simp only [Act.put, List.setIfInBounds_toArray, List.set_cons_zero, List.set_cons_succ])
        refine take_held (i := 36) (v := ?_) rfl (by kernel_rfl) (by kernel_rfl) (by kernel_rfl) (fun _ _ _ h => h) (by rfl) (fun w hSw => ?_) (by assumption) ?_
        rotate_left
        · go_simp <;> with_reducible rfl
        (try simp only [Act.put, List.setIfInBounds_toArray, List.set_cons_zero, List.set_cons_succ])
        refine take_held (i := 37) (v := ?_) rfl (by kernel_rfl) (by kernel_rfl) (by kernel_rfl) (fun _ _ _ h => h) (by rfl) (fun w hSw => ?_) (by assumption) ?_
        rotate_left
        · go_simp <;> with_reducible rfl
        (try simp only [Act.put, List.setIfInBounds_toArray, List.set_cons_zero])
        refine wpAnyH_done (by kernel_rfl) ?_ _
        go_wp2_with fail
        go_ret
        exact ⟨rfl, HB2.out.trans (hBB.mono HB2.out.size)⟩
  · go_simp
    (with_reducible refine (two_any _).mono ?_)
    rintro r w5 ⟨g5, x5, rfl, hT5, hb5⟩
    have hBBq := hBB.trans (hb5.mono hBB.size)
    clear hBB
    have hBB := hBBq
    clear hBBq
    have hT45 := hT4.below hb5
    obtain ⟨v0, v1, v2, v3, v4, v5, v6⟩ := hT5.second
    obtain ⟨y0, y1, y2, y3, y4, y5, y6⟩ := hT45.first
    (first | (refine hK.out _ _ ?_ (fun hHeld2 => ?_)) | (go_wp2_with fail; refine hK.out _ _ ?_ (fun hHeld2 => ?_)))
    · exact HPl.out _ hBB
    clear hK K' hHeld
    have hHeld := hHeld2
    clear hHeld2
    (try simp only [Act.put, List.setIfInBounds_toArray, List.set_cons_zero, List.set_cons_succ])
    refine take_held (i := 23) (v := ?_) rfl (by kernel_rfl) (by kernel_rfl) (by kernel_rfl) (fun _ _ _ h => h) (by rfl) (fun w hSw => ?_) (by assumption) ?_
    rotate_left
    · go_simp <;> with_reducible rfl
    (try simp only [Act.put, List.setIfInBounds_toArray, List.set_cons_zero, List.set_cons_succ])
    refine step2_held (i := 21) (j := 24) (by kernel_rfl) rfl rfl (fun K' hK => ?_) (fun K' hK => ?_)
    · go_simp
      (first | (refine hK.out _ _ ?_ (fun hHeld2 => ?_)) | (go_wp2_with fail; refine hK.out _ _ ?_ (fun hHeld2 => ?_)))
      · exact HPl.out _ hBB
      clear hK K' hHeld
      have hHeld := hHeld2
      clear hHeld2
      (try simp only [Act.put, List.setIfInBounds_toArray, List.set_cons_zero, List.set_cons_succ])
      refine step_held (i := 24) (by kernel_rfl) rfl (fun K' hK => ?_)
      go_simp
      (first | (refine hK.out _ _ ?_ (fun hHeld2 => ?_)) | (go_wp2_with fail; refine hK.out _ _ ?_ (fun hHeld2 => ?_)))
      · exact HPl.out _ hBB
      clear hK K' hHeld
      have hHeld := hHeld2
      clear hHeld2
      (try simp only [Act.put, List.setIfInBounds_toArray, List.set_cons_zero, List.set_cons_succ])
      refine step_held (i := 25) (by kernel_rfl) rfl (fun K' hK => ?_)
      go_simp
      (with_reducible refine (HEd6.out x4 x5 w5 hT45.ok1 hT5.ok2).mono ?_)
      rintro r w6 ⟨rfl, hb6⟩
      have hBBq := hBB.trans (hb6.mono hBB.size)
      clear hBB
      have hBB := hBBq
      clear hBBq
      (first | (refine hK.out _ _ ?_ (fun hHeld2 => ?_)) | (go_wp2_with fail; refine hK.out _ _ ?_ (fun hHeld2 => ?_)))
      · exact HPl.out _ hBB
      clear hK K' hHeld
      have hHeld := hHeld2
      clear hHeld2
      (try simp only [Act.put, List.setIfInBounds_toArray, List.set_cons_zero, List.set_cons_succ])
      refine take_held (i := 26) (v := ?_) rfl (by kernel_rfl) (by kernel_rfl) (by kernel_rfl) (fun _ _ _ h => h) (by rfl) (fun w hSw => ?_) (by assumption) ?_
      rotate_left
      · go_simp <;> with_reducible rfl
      (try simp only [Act.put, List.setIfInBounds_toArray, List.set_cons_zero, List.set_cons_succ])
      refine take_held (i := 27) (v := ?_) rfl (by kernel_rfl) (by kernel_rfl) (by kernel_rfl) (fun _ _ _ h => h) (by rfl) (fun w hSw => ?_) (by assumption) ?_
      rotate_left
      · go_simp <;> with_reducible rfl
      (try simp only [Act.put, List.setIfInBounds_toArray, List.set_cons_zero, List.set_cons_succ])
      refine step_held (i := 28) (by kernel_rfl) rfl (fun K' hK => ?_)
      go_simp
      (with_reducible refine (two_any _).mono ?_)
      rintro r w7 ⟨g7, x7, rfl, hT7, hb7⟩
      have hBBq := hBB.trans (hb7.mono hBB.size)
      clear hBB
      have hBB := hBBq
      clear hBBq
      obtain ⟨u0, u1, u2, u3, u4, u5, u6⟩ := hT7.second
      (first | (refine hK.out _ _ ?_ (fun hHeld2 => ?_)) | (go_wp2_with fail; refine hK.out _ _ ?_ (fun hHeld2 => ?_)))
      · exact HPl.out _ hBB
      clear hK K' hHeld
      have hHeld := hHeld2
      clear hHeld2
      (try simp only [Act.put, List.setIfInBounds_toArray, List.set_cons_zero, List.set_cons_succ])
      refine take_held (i := 29) (v := ?_) rfl (by kernel_rfl) (by kernel_rfl) (by kernel_rfl) (fun _ _ _ h => h) (by rfl) (fun w hSw => ?_) (by assumption) ?_
      rotate_left
      · go_simp <;> with_reducible rfl
      (try simp only [Act.put, List.setIfInBounds_toArray, List.set_cons_zero, List.set_cons_succ])
      refine step2_held (i := 30) (j := 31) (by kernel_rfl) rfl rfl (fun K' hK => ?_) (fun K' hK => ?_)
      · go_simp
        (first | (refine hK.out _ _ ?_ (fun hHeld2 => ?_)) | (go_wp2_with fail; refine hK.out _ _ ?_ (fun hHeld2 => ?_)))
        · exact HPl.out _ hBB
        clear hK K' hHeld
        have hHeld := hHeld2
        clear hHeld2
        (try simp only [Act.put, List.setIfInBounds_toArray, List.set_cons_zero, List.set_cons_succ])
        refine step_held (i := 31) (by kernel_rfl) rfl (fun K' hK => ?_)
        go_simp
        (with_reducible refine (two_any _).mono ?_)
        rintro r w8 ⟨g8, x8, rfl, hT8, hb8⟩
        have hBBq := hBB.trans (hb8.mono hBB.size)
        clear hBB
        have hBB := hBBq
        clear hBBq
        have hT78 := hT7.below hb8
        obtain ⟨v0, v1, v2, v3, v4, v5, v6⟩ := hT8.first
        obtain ⟨y0, y1, y2, y3, y4, y5, y6⟩ := hT78.second
        (first | (refine hK.out _ _ ?_ (fun hHeld2 => ?_)) | (go_wp2_with fail; refine hK.out _ _ ?_ (fun hHeld2 => ?_)))
        · exact HPl.out _ hBB
        clear hK K' hHeld
        have hHeld := hHeld2
        clear hHeld2
        (try simp only [Act.put, List.setIfInBounds_toArray, List.set_cons_zero, List.set_cons_succ])
        refine take_held (i := 32) (v := ?_) rfl (by kernel_rfl) (by kernel_rfl) (by kernel_rfl) (fun _ _ _ h => h) (by rfl) (fun w hSw => ?_) (by assumption) ?_
        rotate_left
        · go_simp <;> with_reducible rfl
        (try simp only [Act.put, List.setIfInBounds_toArray, List.set_cons_zero, List.set_cons_succ])
        refine step_held (i := 33) (by kernel_rfl) rfl (fun K' hK => ?_)
        go_simp
        (first | (refine hK.out _ _ ?_ (fun hHeld2 => ?_)) | (go_wp2_with fail; refine hK.out _ _ ?_ (fun hHeld2 => ?_)))
        · exact HPl.out _ hBB
        clear hK K' hHeld
        have hHeld := hHeld2
        clear hHeld2
        (try simp only [Act.put, List.setIfInBounds_toArray, List.set_cons_zero, List.set_cons_succ])
        refine step_held (i := 34) (by kernel_rfl) rfl (fun K' hK => ?_)
        go_simp
        (with_reducible refine (HEd9.out x7 x8 w8 hT78.ok2 hT8.ok1).mono ?_)
        rintro r w9 ⟨rfl, hb9⟩
        have hBBq := hBB.trans (hb9.mono hBB.size)
        clear hBB
        have hBB := hBBq
        clear hBBq
        (first | (refine hK.out _ _ ?_ (fun hHeld2 => ?_)) | (go_wp2_with fail; refine hK.out _ _ ?_ (fun hHeld2 => ?_)))
        · exact HPl.out _ hBB
        clear hK K' hHeld
        have hHeld := hHeld2
        clear hHeld2
        (try simp only [Act.put, List.setIfInBounds_toArray, List.set_cons_zero, List.set_cons_succ])
        refine take_held (i := 35) (v := ?_) rfl (by kernel_rfl) (by kernel_rfl) (by kernel_rfl) (fun _ _ _ h => h) (by rfl) (fun w hSw => ?_) (by assumption) ?_
        rotate_left
        · go_simp <;> with_reducible rfl
        (try simp only [Act.put, List.setIfInBounds_toArray, List.set_cons_zero, List.set_cons_succ])
        refine take_held (i := 36) (v := ?_) rfl (by kernel_rfl) (by kernel_rfl) (by kernel_rfl) (fun _ _ _ h => h) (by rfl) (fun w hSw => ?_) (by assumption) ?_
        rotate_left
        · go_simp <;> with_reducible rfl
        (try simp only [Act.put, List.setIfInBounds_toArray, List.set_cons_zero, List.set_cons_succ])
        refine take_held (i := 37) (v := ?_) rfl (by kernel_rfl) (by kernel_rfl) (by kernel_rfl) (fun _ _ _ h => h) (by rfl) (fun w hSw => ?_) (by assumption) ?_
        rotate_left
        · go_simp <;> with_reducible rfl
        (try simp only [Act.put, List.setIfInBounds_toArray, List.set_cons_zero])
        refine wpAnyH_done (by kernel_rfl) ?_ _
        go_wp2_with fail
        go_ret
        exact ⟨rfl, HB2.out.trans (hBB.mono HB2.out.size)⟩
      · go_simp
        (with_reducible refine (two_any _).mono ?_)
        rintro r w8 ⟨g8, x8, rfl, hT8, hb8⟩
        have hBBq := hBB.trans (hb8.mono hBB.size)
        clear hBB
        have hBB := hBBq
        clear hBBq
        have hT78 := hT7.below hb8
        obtain ⟨v0, v1, v2, v3, v4, v5, v6⟩ := hT8.first
        obtain ⟨y0, y1, y2, y3, y4, y5, y6⟩ := hT78.second
        (first | (refine hK.out _ _ ?_ (fun hHeld2 => ?_)) | (go_wp2_with fail; refine hK.out _ _ ?_ (fun hHeld2 => ?_)))
        · exact HPl.out _ hBB
        clear hK K' hHeld
        have hHeld := hHeld2
        clear hHeld2
        (try simp only [Act.put, List.setIfInBounds_toArray, List.set_cons_zero, List.set_cons_succ])
        refine take_held (i := 32) (v := ?_) rfl (by kernel_rfl) (by kernel_rfl) (by kernel_rfl) (fun _ _ _ h => h) (by rfl) (fun w hSw => ?_) (by assumption) ?_
        rotate_left
        · go_simp <;> with_reducible rfl
        (try simp only [Act.put, List.setIfInBounds_toArray, List.set_cons_zero, List.set_cons_succ])
        refine step2_held (i := 30) (j := 33) (by kernel_rfl) rfl rfl (fun K' hK => ?_) (fun K' hK => ?_)
        · go_simp
          (first | (refine hK.out _ _ ?_ (fun hHeld2 => ?_)) | (go_wp2_with fail; refine hK.out _ _ ?_ (fun hHeld2 => ?_)))
          · exact HPl.out _ hBB
          clear hK K' hHeld
          have hHeld := hHeld2
          clear hHeld2
          (try simp only [Act.put, List.setIfInBounds_toArray, List.set_cons_zero, List.set_cons_succ])
          refine step_held (i := 33) (by kernel_rfl) rfl (fun K' hK => ?_)
          go_simp
          (first | (refine hK.out _ _ ?_ (fun hHeld2 => ?_)) | (go_wp2_with fail; refine hK.out _ _ ?_ (fun hHeld2 => ?_)))
          · exact HPl.out _ hBB
          clear hK K' hHeld
          have hHeld := hHeld2
          clear hHeld2
          (try simp only [Act.put, List.setIfInBounds_toArray, List.set_cons_zero, List.set_cons_succ])
          refine step_held (i := 34) (by kernel_rfl) rfl (fun K' hK => ?_)
          go_simp
          (with_reducible refine (HEd9.out x7 x8 w8 hT78.ok2 hT8.ok1).mono ?_)
          rintro r w9 ⟨rfl, hb9⟩
          have hBBq := hBB.trans (hb9.mono hBB.size)
          clear hBB
          have hBB := hBBq
          clear hBBq
          (first | (refine hK.out _ _ ?_ (fun hHeld2 => ?_)) | (go_wp2_with fail; refine hK.out _ _ ?_ (fun hHeld2 => ?_)))
          · exact HPl.out _ hBB
          clear hK K' hHeld
          have hHeld := hHeld2
          clear hHeld2
          (try simp only [Act.put, List.setIfInBounds_toArray, List.set_cons_zero, List.set_cons_succ])
          refine take_held (i := 35) (v := ?_) rfl (by kernel_rfl) (by kernel_rfl) (by kernel_rfl) (fun _ _ _ h => h) (by rfl) (fun w hSw => ?_) (by assumption) ?_
          rotate_left
          · go_simp <;> with_reducible rfl
          (try simp only [Act.put, List.setIfInBounds_toArray, List.set_cons_zero, List.set_cons_succ])
          refine take_held (i := 36) (v := ?_) rfl (by kernel_rfl) (by kernel_rfl) (by kernel_rfl) (fun _ _ _ h => h) (by rfl) (fun w hSw => ?_) (by assumption) ?_
          rotate_left
          · go_simp <;> with_reducible rfl
          (try simp only [Act.put, List.setIfInBounds_toArray, List.set_cons_zero, List.set_cons_succ])
          refine take_held (i := 37) (v := ?_) rfl (by kernel_rfl) (by kernel_rfl) (by kernel_rfl) (fun _ _ _ h => h) (by rfl) (fun w hSw => ?_) (by assumption) ?_
          rotate_left
          · go_simp <;> with_reducible rfl
          (try simp only [Act.put, List.setIfInBounds_toArray, List.set_cons_zero])
          refine wpAnyH_done (by kernel_rfl) ?_ _
          go_wp2_with fail
          go_ret
          exact ⟨rfl, HB2.out.trans (hBB.mono HB2.out.size)⟩
        · go_simp
          (first | (refine hK.out _ _ ?_ (fun hHeld2 => ?_)) | (go_wp2_with fail; refine hK.out _ _ ?_ (fun hHeld2 => ?_)))
          · exact HPl.out _ hBB
          clear hK K' hHeld
          have hHeld := hHeld2
          clear hHeld2
          (try simp only [Act.put, List.setIfInBounds_toArray, List.set_cons_zero, List.set_cons_succ])
          refine step_held (i := 30) (by kernel_rfl) rfl (fun K' hK => ?_)
          go_simp
          (first | (refine hK.out _ _ ?_ (fun hHeld2 => ?_)) | (go_wp2_with fail; refine hK.out _ _ ?_ (fun hHeld2 => ?_)))
          · exact HPl.out _ hBB
          clear hK K' hHeld
          have hHeld := hHeld2
          clear hHeld2
          (try simp only [Act.put, List.setIfInBounds_toArray, List.set_cons_zero, List.set_cons_succ])
          refine step_held (i := 34) (by kernel_rfl) rfl (fun K' hK => ?_)
          go_simp
          (with_reducible refine (HEd9.out x7 x8 w8 hT78.ok2 hT8.ok1).mono ?_)
          rintro r w9 ⟨rfl, hb9⟩
          have hBBq := hBB.trans (hb9.mono hBB.size)
          clear hBB
          have hBB := hBBq
          clear hBBq
          (first | (refine hK.out _ _ ?_ (fun hHeld2 => ?_)) | (go_wp2_with fail; refine hK.out _ _ ?_ (fun hHeld2 => ?_)))
          · exact HPl.out _ hBB
          clear hK K' hHeld
          have hHeld := hHeld2
          clear hHeld2
          (try simp only [Act.put, List.setIfInBounds_toArray, List.set_cons_zero, List.set_cons_succ])
          refine take_held (i := 35) (v := ?_) rfl (by kernel_rfl) (by kernel_rfl) (by kernel_rfl) (fun _ _ _ h => h) (by rfl) (fun w hSw => ?_) (by assumption) ?_
          rotate_left
          · go_simp <;> with_reducible rfl
          (try simp only [Act.put, List.setIfInBounds_toArray, List.set_cons_zero, List.set_cons_succ])
          refine take_held (i := 36) (v := ?_) rfl (by kernel_rfl) (by kernel_rfl) (by kernel_rfl) (fun _ _ _ h => h) (by rfl) (fun w hSw => ?_) (by assumption) ?_
          rotate_left
          · go_simp <;> with_reducible rfl
          (try simp only [Act.put, List.setIfInBounds_toArray, List.set_cons_zero, List.set_cons_succ])
          refine take_held (i := 37) (v := ?_) rfl (by kernel_rfl) (by kernel_rfl) (by kernel_rfl) (fun _ _ _ h => h) (by rfl) (fun w hSw => ?_) (by assumption) ?_
          rotate_left
          · go_simp <;> with_reducible rfl
          (try simp only [Act.put, List.setIfInBounds_toArray, List.set_cons_zero])
          refine wpAnyH_done (by kernel_rfl) ?_ _
          go_wp2_with fail
          go_ret
          exact ⟨rfl, HB2.out.trans (hBB.mono HB2.out.size)⟩
    · go_simp
      (first | (refine hK.out _ _ ?_ (fun hHeld2 => ?_)) | (go_wp2_with fail; refine hK.out _ _ ?_ (fun hHeld2 => ?_)))
      · exact HPl.out _ hBB
      clear hK K' hHeld
      have hHeld := hHeld2
      clear hHeld2
      (try simp only [Act.put, List.setIfInBounds_toArray, List.set_cons_zero, List.set_cons_succ])
      refine step_held (i := 21) (by kernel_rfl) rfl (fun K' hK => ?_)
      go_simp
      (first | (refine hK.out _ _ ?_ (fun hHeld2 => ?_)) | (go_wp2_with fail; refine hK.out _ _ ?_ (fun hHeld2 => ?_)))
      · exact HPl.out _ hBB
      clear hK K' hHeld
      have hHeld := hHeld2
      clear hHeld2
      (try simp only [Act.put, List.setIfInBounds_toArray, List.set_cons_zero, List.set_cons_succ])
      refine step_held (i := 25) (by kernel_rfl) rfl (fun K' hK => ?_)
      go_simp
      (with_reducible refine (HEd6.out x4 x5 w5 hT45.ok1 hT5.ok2).mono ?_)
      rintro r w6 ⟨rfl, hb6⟩
      have hBBq := hBB.trans (hb6.mono hBB.size)
      clear hBB
      have hBB := hBBq
      clear hBBq
      (first | (refine hK.out _ _ ?_ (fun hHeld2 => ?_)) | (go_wp2_with fail; refine hK.out _ _ ?_ (fun hHeld2 => ?_)))
      · exact HPl.out _ hBB
      clear hK K' hHeld
      have hHeld := hHeld2
      clear hHeld2
      (try simp only [Act.put, List.setIfInBounds_toArray, List.set_cons_zero, List.set_cons_succ])
      refine take_held (i := 26) (v := ?_) rfl (by kernel_rfl) (by kernel_rfl) (by kernel_rfl) (fun _ _ _ h => h) (by rfl) (fun w hSw => ?_) (by assumption) ?_
      rotate_left
      · go_simp <;> with_reducible rfl
      (try simp only [Act.put, List.setIfInBounds_toArray, List.set_cons_zero, List.set_cons_succ])
      refine take_held (i := 27) (v := ?_) rfl (by kernel_rfl) (by kernel_rfl) (by kernel_rfl) (fun _ _ _ h => h) (by rfl) (fun w hSw => ?_) (by assumption) ?_
      rotate_left
      · go_simp <;> with_reducible rfl
      (try simp only [Act.put, List.setIfInBounds_toArray, List.set_cons_zero, List.set_cons_succ])
      refine step_held (i := 28) (by kernel_rfl) rfl (fun K' hK => ?_)
      go_simp
      (with_reducible refine (two_any _).mono ?_)
      rintro r w7 ⟨g7, x7, rfl, hT7, hb7⟩
      have hBBq := hBB.trans (hb7.mono hBB.size)
      clear hBB
      have hBB := hBBq
      clear hBBq
      obtain ⟨u0, u1, u2, u3, u4, u5, u6⟩ := hT7.second
      (first | (refine hK.out _ _ ?_ (fun hHeld2 => ?_)) | (go_wp2_with fail; refine hK.out _ _ ?_ (fun hHeld2 => ?_)))
      · exact HPl.out _ hBB
      clear hK K' hHeld
      have hHeld := hHeld2
      clear hHeld2
      (try simp only [Act.put, List.setIfInBounds_toArray, List.set_cons_zero, List.set_cons_succ])
      refine take_held (i := 29) (v := ?_) rfl (by kernel_rfl) (by kernel_rfl) (by kernel_rfl) (fun _ _ _ h => h) (by rfl) (fun w hSw => ?_) (by assumption) ?_
      rotate_left
      · go_simp <;> with_reducible rfl
      (try simp only [Act.put, List.setIfInBounds_toArray, List.set_cons_zero, List.set_cons_succ])
      refine step2_held (i := 30) (j := 31) (by kernel_rfl) rfl rfl (fun K' hK => ?_) (fun K' hK => ?_)
      · go_simp
        (first | (refine hK.out _ _ ?_ (fun hHeld2 => ?_)) | (go_wp2_with fail; refine hK.out _ _ ?_ (fun hHeld2 => ?_)))
        · exact HPl.out _ hBB
        clear hK K' hHeld
        have hHeld := hHeld2
        clear hHeld2
        (try simp only [Act.put, List.setIfInBounds_toArray, List.set_cons_zero, List.set_cons_succ])
        refine step_held (i := 31) (by kernel_rfl) rfl (fun K' hK => ?_)
        go_simp
        (with_reducible refine (two_any _).mono ?_)
        rintro r w8 ⟨g8, x8, rfl, hT8, hb8⟩
        have hBBq := hBB.trans (hb8.mono hBB.size)
        clear hBB
        have hBB := hBBq
        clear hBBq
        have hT78 := hT7.below hb8
        obtain ⟨v0, v1, v2, v3, v4, v5, v6⟩ := hT8.first
        obtain ⟨y0, y1, y2, y3, y4, y5, y6⟩ := hT78.second
        (first | (refine hK.out _ _ ?_ (fun hHeld2 => ?_)) | (go_wp2_with fail; refine hK.out _ _ ?_ (fun hHeld2 => ?_)))
        · exact HPl.out _ hBB
        clear hK K' hHeld
        have hHeld := hHeld2
        clear hHeld2
        (try simp only [Act.put, List.setIfInBounds_toArray, List.set_cons_zero, List.set_cons_succ])
        refine take_held (i := 32) (v := ?_) rfl (by kernel_rfl) (by kernel_rfl) (by kernel_rfl) (fun _ _ _ h => h) (by rfl) (fun w hSw => ?_) (by assumption) ?_
        rotate_left
        · go_simp <;> with_reducible rfl
        (try simp only [Act.put, List.setIfInBounds_toArray, List.set_cons_zero, List.set_cons_succ])
        refine step_held (i := 33) (by kernel_rfl) rfl (fun K' hK => ?_)
        go_simp
        (first | (refine hK.out _ _ ?_ (fun hHeld2 => ?_)) | (go_wp2_with fail; refine hK.out _ _ ?_ (fun hHeld2 => ?_)))
        · exact HPl.out _ hBB
        clear hK K' hHeld
        have hHeld := hHeld2
        clear hHeld2
        (try simp only [Act.put, List.setIfInBounds_toArray, List.set_cons_zero, List.set_cons_succ])
        refine step_held (i := 34) (by kernel_rfl) rfl (fun K' hK => ?_)
        go_simp
        (with_reducible refine (HEd9.out x7 x8 w8 hT78.ok2 hT8.ok1).mono ?_)
        rintro r w9 ⟨rfl, hb9⟩
        have hBBq := hBB.trans (hb9.mono hBB.size)
        clear hBB
        have hBB := hBBq
        clear hBBq
        (first | (refine hK.out _ _ ?_ (fun hHeld2 => ?_)) | (go_wp2_with fail; refine hK.out _ _ ?_ (fun hHeld2 => ?_)))
        · exact HPl.out _ hBB
        clear hK K' hHeld
        have hHeld := hHeld2
        clear hHeld2
        (try simp only [Act.put, List.setIfInBounds_toArray, List.set_cons_zero, List.set_cons_succ])
        refine take_held (i := 35) (v := ?_) rfl (by kernel_rfl) (by kernel_rfl) (by kernel_rfl) (fun _ _ _ h => h) (by rfl) (fun w hSw => ?_) (by assumption) ?_
        rotate_left
        · go_simp <;> with_reducible rfl
        (try simp only [Act.put, List.setIfInBounds_toArray, List.set_cons_zero, List.set_cons_succ])
        refine take_held (i := 36) (v := ?_) rfl (by kernel_rfl) (by kernel_rfl) (by kernel_rfl) (fun _ _ _ h => h) (by rfl) (fun w hSw => ?_) (by assumption) ?_
        rotate_left
        · go_simp <;> with_reducible rfl
        (try simp only [Act.put, List.setIfInBounds_toArray, List.set_cons_zero, List.set_cons_succ])
        refine take_held (i := 37) (v := ?_) rfl (by kernel_rfl) (by kernel_rfl) (by kernel_rfl) (fun _ _ _ h => h) (by rfl) (fun w hSw => ?_) (by assumption) ?_
        rotate_left
        · go_simp <;> with_reducible rfl
        (try simp only [Act.put, List.setIfInBounds_toArray, List.set_cons_zero])
        refine wpAnyH_done (by kernel_rfl) ?_ _
        go_wp2_with fail
        go_ret
        exact ⟨rfl, HB2.out.trans (hBB.mono HB2.out.size)⟩
      · go_simp
        (with_reducible refine (two_any _).mono ?_)
        rintro r w8 ⟨g8, x8, rfl, hT8, hb8⟩
        have hBBq := hBB.trans (hb8.mono hBB.size)
        clear hBB
        have hBB := hBBq
        clear hBBq
        have hT78 := hT7.below hb8
        obtain ⟨v0, v1, v2, v3, v4, v5, v6⟩ := hT8.first
        obtain ⟨y0, y1, y2, y3, y4, y5, y6⟩ := hT78.second
        (first | (refine hK.out _ _ ?_ (fun hHeld2 => ?_)) | (go_wp2_with fail; refine hK.out _ _ ?_ (fun hHeld2 => ?_)))
        · exact HPl.out _ hBB
        clear hK K' hHeld
        have hHeld := hHeld2
        clear hHeld2
        (try simp only [Act.put, List.setIfInBounds_toArray, List.set_cons_zero, List.set_cons_succ])
        refine take_held (i := 32) (v := ?_) rfl (by kernel_rfl) (by kernel_rfl) (by kernel_rfl) (fun _ _ _ h => h) (by rfl) (fun w hSw => ?_) (by assumption) ?_
        rotate_left
        · go_simp <;> with_reducible rfl
        (try simp only [Act.put, List.setIfInBounds_toArray, List.set_cons_zero, List.set_cons_succ])
        refine step2_held (i := 30) (j := 33) (by kernel_rfl) rfl rfl (fun K' hK => ?_) (fun K' hK => ?_)
        · go_simp
          (first | (refine hK.out _ _ ?_ (fun hHeld2 => ?_)) | (go_wp2_with fail; refine hK.out _ _ ?_ (fun hHeld2 => ?_)))
          · exact HPl.out _ hBB
          clear hK K' hHeld
          have hHeld := hHeld2
          clear hHeld2
          (try simp only [Act.put, List.setIfInBounds_toArray, List.set_cons_zero, List.set_cons_succ])
          refine step_held (i := 33) (by kernel_rfl) rfl (fun K' hK => ?_)
          go_simp
          (first | (refine hK.out _ _ ?_ (fun hHeld2 => ?_)) | (go_wp2_with fail; refine hK.out _ _ ?_ (fun hHeld2 => ?_)))
          · exact HPl.out _ hBB
          clear hK K' hHeld
          have hHeld := hHeld2
          clear hHeld2
          (try simp only [Act.put, List.setIfInBounds_toArray, List.set_cons_zero, List.set_cons_succ])
          refine step_held (i := 34) (by kernel_rfl) rfl (fun K' hK => ?_)
          go_simp
          (with_reducible refine (HEd9.out x7 x8 w8 hT78.ok2 hT8.ok1).mono ?_)
          rintro r w9 ⟨rfl, hb9⟩
          have hBBq := hBB.trans (hb9.mono hBB.size)
          clear hBB
          have hBB := hBBq
          clear hBBq
          (first | (refine hK.out _ _ ?_ (fun hHeld2 => ?_)) | (go_wp2_with fail; refine hK.out _ _ ?_ (fun hHeld2 => ?_)))
          · exact HPl.out _ hBB
          clear hK K' hHeld
          have hHeld := hHeld2
          clear hHeld2
          (try simp only [Act.put, List.setIfInBounds_toArray, List.set_cons_zero, List.set_cons_succ])
          refine take_held (i := 35) (v := ?_) rfl (by kernel_rfl) (by kernel_rfl) (by kernel_rfl) (fun _ _ _ h => h) (by rfl) (fun w hSw => ?_) (by assumption) ?_
          rotate_left
          · go_simp <;> with_reducible rfl
          (try simp only [Act.put, List.setIfInBounds_toArray, List.set_cons_zero, List.set_cons_succ])
          refine take_held (i := 36) (v := ?_) rfl (by kernel_rfl) (by kernel_rfl) (by kernel_rfl) (fun _ _ _ h => h) (by rfl) (fun w hSw => ?_) (by assumption) ?_
          rotate_left
          · go_simp <;> with_reducible rfl
          (try simp only [Act.put, List.setIfInBounds_toArray, List.set_cons_zero, List.set_cons_succ])
          refine take_held (i := 37) (v := ?_) rfl (by kernel_rfl) (by kernel_rfl) (by kernel_rfl) (fun _ _ _ h => h) (by rfl) (fun w hSw => ?_) (by assumption) ?_
          rotate_left
          · go_simp <;> with_reducible rfl
          (try simp only [Act.put, List.setIfInBounds_toArray, List.set_cons_zero])
          refine wpAnyH_done (by kernel_rfl) ?_ _
          go_wp2_with fail
          go_ret
          exact ⟨rfl, HB2.out.trans (hBB.mono HB2.out.size)⟩
        · go_simp
          (first | (refine hK.out _ _ ?_ (fun hHeld2 => ?_)) | (go_wp2_with fail; refine hK.out _ _ ?_ (fun hHeld2 => ?_)))
          · exact HPl.out _ hBB
          clear hK K' hHeld
          have hHeld := hHeld2
          clear hHeld2
          (try simp only [Act.put, List.setIfInBounds_toArray, List.set_cons_zero, List.set_cons_succ])
          refine step_held (i := 30) (by kernel_rfl) rfl (fun K' hK => ?_)
          go_simp
          (first | (refine hK.out _ _ ?_ (fun hHeld2 => ?_)) | (go_wp2_with fail; refine hK.out _ _ ?_ (fun hHeld2 => ?_)))
          · exact HPl.out _ hBB
          clear hK K' hHeld
          have hHeld := hHeld2
          clear hHeld2
          (try simp only [Act.put, List.setIfInBounds_toArray, List.set_cons_zero, List.set_cons_succ])
          refine step_held (i := 34) (by kernel_rfl) rfl (fun K' hK => ?_)
          go_simp
          (with_reducible refine (HEd9.out x7 x8 w8 hT78.ok2 hT8.ok1).mono ?_)
          rintro r w9 ⟨rfl, hb9⟩
          have hBBq := hBB.trans (hb9.mono hBB.size)
          clear hBB
          have hBB := hBBq
          clear hBBq
          (first | (refine hK.out _ _ ?_ (fun hHeld2 => ?_)) | (go_wp2_with fail; refine hK.out _ _ ?_ (fun hHeld2 => ?_)))
          · exact HPl.out _ hBB
          clear hK K' hHeld
          have hHeld := hHeld2
          clear hHeld2
          (try simp only [Act.put, List.setIfInBounds_toArray, List.set_cons_zero, List.set_cons_succ])
          refine take_held (i := 35) (v := ?_) rfl (by kernel_rfl) (by kernel_rfl) (by kernel_rfl) (fun _ _ _ h => h) (by rfl) (fun w hSw => ?_) (by assumption) ?_
          rotate_left
          · go_simp <;> with_reducible rfl
          (try simp only [Act.put, List.setIfInBounds_toArray, List.set_cons_zero, List.set_cons_succ])
          refine take_held (i := 36) (v := ?_) rfl (by kernel_rfl) (by kernel_rfl) (by kernel_rfl) (fun _ _ _ h => h) (by rfl) (fun w hSw => ?_) (by assumption) ?_
          rotate_left
          · go_simp <;> with_reducible rfl
          (try simp only [Act.put, List.setIfInBounds_toArray, List.set_cons_zero, List.set_cons_succ])
          refine take_held (i := 37) (v := ?_) rfl (by kernel_rfl) (by kernel_rfl) (by kernel_rfl) (fun _ _ _ h => h) (by rfl) (fun w hSw => ?_) (by assumption) ?_
          rotate_left
          · go_simp <;> with_reducible rfl
          (try simp only [Act.put, List.setIfInBounds_toArray, List.set_cons_zero])
          refine wpAnyH_done (by kernel_rfl) ?_ _
          go_wp2_with fail
          go_ret
          exact ⟨rfl, HB2.out.trans (hBB.mono HB2.out.size)⟩
end Go.Proofs.Ytfdiidhilonkoaa
