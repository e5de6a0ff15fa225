import Derived.Test.YtooegjdppeiccaaZC31
/-
  The developers' store: holds, room, New.
-/
namespace Go.Proofs.Ytooegjdppeiccaa
open Go.RowKit

theorem below_drewN {B : Nat} {w w' : World} (h : Below B w w') (n : Nat) : Below B w (w'.drewN n) := ⟨h.os, h.tape, h.output, h.size, h.block⟩
section
variable {w : World} {p : Nat} {F D : Nat → Prop} {B : Nat} {kv : Value} {cv : KeyS → Value} {L : LimS} {m r v : Int} {now : Nat} {g : KeyS → List Ver} {ks : List KeyS} {z : Sz}
set_option maxRecDepth 100000 in
theorem dHolds_any (h : RawS w p F D B kv cv L m r v now g ks z) (y : Sz) : Calls Try.prog 86 #[ptrS p, szVal y] w fun e w' => e = .returned (.bool (holdsS L y)) ∧ Below w.heap.size w w' := by
  obtain ⟨w0, hw0⟩ : ∃ u, w.alloc (.cells #[.int .i64 (y.k : Int), .int .i64 (y.v : Int), .int .i64 (y.b : Int)] 49) = u := ⟨_, rfl⟩
  have b0 : Below w.heap.size w w0 := by rw [← hw0]; exact (Below.refl _ w).alloc (Nat.le_refl _) _
  have hz : w0.heap[w.heap.size]? = some (.cells #[.int .i64 (y.k : Int), .int .i64 (y.v : Int), .int .i64 (y.b : Int)] 49 (0, 0)) := by rw [← hw0]; exact heap_alloc_new w _
  have h0 := h.below b0
  have z0 := cell_of_row w0 _ 0 _ _ _ hz
  have z1 := cell_of_row w0 _ 1 _ _ _ hz
  have z2 := cell_of_row w0 _ 2 _ _ _ hz
  have c0 := h0.lim0
  have c1 := h0.lim1
  have c2 := h0.lim2
  have HB0 := Lib.hid b0
  have HW0 := Lib.hid hw0
  have HV : Hid (holdsS L y = (decide ((y.k : Int) ≤ L.keys) && decide ((y.v : Int) ≤ L.vers) && decide ((y.b : Int) ≤ L.byts))) := Lib.hid rfl
  generalize holdsS L y = O at *
  clear h h0 b0 hz hw0
  unfold ptrS szVal
  go_enter Try.func86, Try.ntmps86
  go_upto_region 1 with fail
  rw [HW0.out]
  clear HW0
  cases d1 : decide ((y.k : Int) ≤ L.keys)
  · have HF := Lib.hid (show O = false from HV.out.trans (by simp [d1]))
    go_wp2_with fail
    go_quiet (fail)
    go_wp2
    go_ret
    exact ⟨(congrArg (fun i => Ending.returned (.bool i)) HF.out).symm, below_drewN HB0.out _⟩
  · cases d2 : decide ((y.v : Int) ≤ L.vers)
    · have HF := Lib.hid (show O = false from HV.out.trans (by simp [d1, d2]))
      go_wp2_with fail
      go_quiet (fail)
      go_wp2
      go_ret
      exact ⟨(congrArg (fun i => Ending.returned (.bool i)) HF.out).symm, below_drewN HB0.out _⟩
    · cases d3 : decide ((y.b : Int) ≤ L.byts)
      · have HF := Lib.hid (show O = false from HV.out.trans (by simp [d1, d2, d3]))
        go_wp2_with fail
        go_quiet (fail)
        go_wp2
        go_ret
        exact ⟨(congrArg (fun i => Ending.returned (.bool i)) HF.out).symm, below_drewN HB0.out _⟩
      · have HF := Lib.hid (show O = true from HV.out.trans (by simp [d1, d2, d3]))
        go_wp2_with fail
        go_quiet (fail)
        go_wp2
        go_ret
        exact ⟨(congrArg (fun i => Ending.returned (.bool i)) HF.out).symm, below_drewN HB0.out _⟩
end
set_option maxRecDepth 100000 in
theorem dRoom_any (n : Int) (w : World) : Calls Try.prog 59 #[.int .i64 n] w fun e w' => e = .returned (.bool (roomB n)) ∧ w' = w := by
  have HV : Hid (roomB n = (decide (1 ≤ n) && decide (n ≤ 1048576))) := Lib.hid rfl
  generalize roomB n = O at *
  by_cases h1 : 1 ≤ n
  · have d1 : decide (1 ≤ n) = true := decide_eq_true h1
    cases d2 : decide (n ≤ 1048576)
    · have HF := Lib.hid (show O = false from HV.out.trans (by simp [d1, d2]))
      go_enter Try.func59, Try.ntmps59
      go_wp2
      go_ret
      exact ⟨(congrArg (fun i => Ending.returned (.bool i)) HF.out).symm, rfl⟩
    · have HF := Lib.hid (show O = true from HV.out.trans (by simp [d1, d2]))
      go_enter Try.func59, Try.ntmps59
      go_wp2
      go_ret
      exact ⟨(congrArg (fun i => Ending.returned (.bool i)) HF.out).symm, rfl⟩
  · have d1 : decide (1 ≤ n) = false := decide_eq_false h1
    have HF := Lib.hid (show O = false from HV.out.trans (by simp [d1]))
    go_enter Try.func59, Try.ntmps59
    go_wp2
    go_ret
    exact ⟨(congrArg (fun i => Ending.returned (.bool i)) HF.out).symm, rfl⟩
theorem rawS_none (w : World) (L : LimS) (m r v : Int) (w0 : World) (hb : Below w.heap.size w w0) : RawS ((w0.alloc (.map #[] 0)).alloc (.cells (boxS L m r v 0 w0.heap.size (.slice none 0 0) ⟨0, 0, 0⟩) 92)) (w0.heap.size + 1)
    (fun b => w0.heap.size ≤ b ∧ b < w0.heap.size + 2) (fun _ => False) w0.heap.size (.slice none 0 0) (fun _ => .slice none 0 0) L m r v 0 (fun _ => []) [] ⟨0, 0, 0⟩ where
  box := heap_new2 w0 _ _
  map := (MapS.made w0).keep (((Below.refl _ (w0.alloc (.map #[] 0))).alloc (Nat.le_refl _) _).block _ (by simp))
  keys := OwnG.none_ _ _ _ _ _
  chain := fun _ h => absurd rfl h
  Fp := ⟨by omega, by omega⟩
  FB := ⟨by omega, by omega⟩
  Fk := fun _ h => by simp [Value.ownBlock] at h
  Fc := fun _ h => absurd rfl h
  FD := fun _ h => h.elim
  lt := fun b h => by simp; omega
  pB := by omega
  kvp := fun _ h => by simp [Value.ownBlock] at h
  cvp := fun _ h => absurd rfl h
  apart := fun _ _ h => absurd rfl h
  Dp := fun h => h
  DB := fun h => h
def NewR (L : LimS) (m r v : Int) (w : World) (e : Ending) (w' : World) : Prop := Below w.heap.size w w' ∧
  (if MayS L = true then ∃ p F D B, e = .returned (.tuple #[ptrS p, .int .i64 0]) ∧ RawS w' p F D B (.slice none 0 0) (fun _ => .slice none 0 0) L m r v 0 (fun _ => []) [] ⟨0, 0, 0⟩ ∧ ∀ k, F k → w.heap.size ≤ k else e = .returned (.tuple #[.pointer none, .int .i64 1]))
theorem NewR.no {L : LimS} {m r v : Int} {w w' : World} (h : MayS L = false) (hb : Below w.heap.size w w') : NewR L m r v w (.returned (.tuple #[.pointer none, .int .i64 1])) w' := ⟨hb, by rw [h]; rfl⟩
theorem NewR.yes {L : LimS} {m r v : Int} {w w0 : World} (h : MayS L = true) (hb : Below w.heap.size w w0) :
    NewR L m r v w (.returned (.tuple #[ptrS (w0.heap.size + 1), .int .i64 0])) ((w0.alloc (.map #[] 0)).alloc (.cells (boxS L m r v 0 w0.heap.size (.slice none 0 0) ⟨0, 0, 0⟩) 92)) :=
  ⟨(hb.alloc hb.size _).alloc (Nat.le_trans hb.size (by simp)) _, by
    rw [if_pos h]
    exact ⟨_, _, _, _, rfl, rawS_none w L m r v w0 hb, fun k hk => Nat.le_trans hb.size hk.1⟩⟩
set_option maxRecDepth 100000 in
set_option maxHeartbeats 1000000 in
theorem dNew_any (L : LimS) (m r v : Int) (w : World) : Calls Try.prog 13 #[limVal L m r v] w (NewR L m r v w) := by
  obtain ⟨w0, hw0⟩ : ∃ u, w.alloc (.cells #[.int .i64 L.keys, .int .i64 L.vers, .int .i64 L.byts, .int .i64 m, .int .i64 r, .int .i64 v, .int .u64 L.last] 24) = u := ⟨_, rfl⟩
  have b0 : Below w.heap.size w w0 := by rw [← hw0]; exact (Below.refl _ w).alloc (Nat.le_refl _) _
  have hz : w0.heap[w.heap.size]? = some (.cells #[.int .i64 L.keys, .int .i64 L.vers, .int .i64 L.byts, .int .i64 m, .int .i64 r, .int .i64 v, .int .u64 L.last] 24 (0, 0)) := by rw [← hw0]; exact heap_alloc_new w _
  have z0 := cell_of_row w0 _ 0 _ _ _ hz
  have z1 := cell_of_row w0 _ 1 _ _ _ hz
  have z2 := cell_of_row w0 _ 2 _ _ _ hz
  have z3 := cell_of_row w0 _ 3 _ _ _ hz
  have z4 := cell_of_row w0 _ 4 _ _ _ hz
  have z5 := cell_of_row w0 _ 5 _ _ _ hz
  have z6 := cell_of_row w0 _ 6 _ _ _ hz
  have HB0 := Lib.hid b0
  have HW0 := Lib.hid hw0
  have HR1 := Lib.hid (dRoom_any L.keys w0)
  have HR2 := Lib.hid (dRoom_any L.vers w0)
  have HR3 := Lib.hid (dRoom_any L.byts w0)
  have hmm := @run_makeMap Try.prog
  have HV : Hid (MayS L = (roomB L.keys && roomB L.vers && roomB L.byts && decide (1 ≤ L.last))) := Lib.hid rfl
  have HNo : Hid (∀ w', MayS L = false → Below w.heap.size w w' → NewR L m r v w (.returned (.tuple #[.pointer none, .int .i64 1])) w') := Lib.hid fun w' => NewR.no
  have HYes : Hid (MayS L = true → NewR L m r v w (.returned (.tuple #[ptrS (w0.heap.size + 1), .int .i64 0])) ((w0.alloc (.map #[] 0)).alloc (.cells (boxS L m r v 0 w0.heap.size (.slice none 0 0) ⟨0, 0, 0⟩) 92))) := Lib.hid fun h => NewR.yes h b0
  clear b0 hz hw0
  unfold limVal
  go_enter Try.func13, Try.ntmps13
  go_upto_region 1 with fail
  rw [HW0.out]
  clear HW0
  cases h1 : roomB L.keys
  · rw [h1] at HR1
    have HF := Lib.hid (HNo.out w0 (HV.out.trans (by rw [h1]; rfl)) HB0.out)
    go_wp2_with fail
    refine HR1.out.mono ?_
    rintro e w' ⟨rfl, rfl⟩
    go_wp2
    refine bodyPost_ret (v := .tuple #[.pointer none, .int .i64 1]) (by simp [results, Try.results13, go_sem]) rfl ?_
    exact HF.out
  · rw [h1] at HR1
    cases h2 : roomB L.vers
    · rw [h2] at HR2
      have HF := Lib.hid (HNo.out w0 (HV.out.trans (by rw [h1, h2]; rfl)) HB0.out)
      go_wp2_with fail
      refine HR1.out.mono ?_
      rintro e w' ⟨rfl, rfl⟩
      go_wp2_with fail
      refine HR2.out.mono ?_
      rintro e w' ⟨rfl, rfl⟩
      go_wp2
      refine bodyPost_ret (v := .tuple #[.pointer none, .int .i64 1]) (by simp [results, Try.results13, go_sem]) rfl ?_
      exact HF.out
    · rw [h2] at HR2
      cases h3 : roomB L.byts
      · rw [h3] at HR3
        have HF := Lib.hid (HNo.out w0 (HV.out.trans (by rw [h1, h2, h3]; rfl)) HB0.out)
        go_wp2_with fail
        refine HR1.out.mono ?_
        rintro e w' ⟨rfl, rfl⟩
        go_wp2_with fail
        refine HR2.out.mono ?_
        rintro e w' ⟨rfl, rfl⟩
        go_wp2_with fail
        refine HR3.out.mono ?_
        rintro e w' ⟨rfl, rfl⟩
        go_wp2
        refine bodyPost_ret (v := .tuple #[.pointer none, .int .i64 1]) (by simp [results, Try.results13, go_sem]) rfl ?_
        exact HF.out
      · rw [h3] at HR3
        by_cases h4 : 1 ≤ L.last
        · have d4 : decide ((L.last : Int) < 1) = false := by rw [decide_eq_false_iff_not]; omega
          have HF := Lib.hid (HYes.out (HV.out.trans (by rw [h1, h2, h3, decide_eq_true h4]; rfl)))
          go_wp2_with fail
          refine HR1.out.mono ?_
          rintro e w' ⟨rfl, rfl⟩
          go_wp2_with fail
          refine HR2.out.mono ?_
          rintro e w' ⟨rfl, rfl⟩
          go_wp2_with fail
          refine HR3.out.mono ?_
          rintro e w' ⟨rfl, rfl⟩
          go_wp2
          refine bodyPost_ret (v := .tuple #[ptrS (w'.heap.size + 1), .int .i64 0]) (by simp [results, Try.results13, go_sem, ptrS]) rfl ?_
          exact HF.out
        · have d4 : decide ((L.last : Int) < 1) = true := by rw [decide_eq_true_iff]; omega
          have HF := Lib.hid (HNo.out w0 (HV.out.trans (by rw [h1, h2, h3, decide_eq_false h4]; rfl)) HB0.out)
          go_wp2_with fail
          refine HR1.out.mono ?_
          rintro e w' ⟨rfl, rfl⟩
          go_wp2_with fail
          refine HR2.out.mono ?_
          rintro e w' ⟨rfl, rfl⟩
          go_wp2_with fail
          refine HR3.out.mono ?_
          rintro e w' ⟨rfl, rfl⟩
          go_wp2
          refine bodyPost_ret (v := .tuple #[.pointer none, .int .i64 1]) (by simp [results, Try.results13, go_sem]) rfl ?_
          exact HF.out
end Go.Proofs.Ytooegjdppeiccaa
