/-
  Package span, as it landed: what slices.Grow and slices.Concat do for it.
-/
import Derived.Test.YtooegjdppeiccaaIDB
import Derived.Test.YtooegjdppeiccaaIBlk
import Derived.Lib.AppendZerosOnto
namespace Go.Proofs.Ytooegjdppeiccaa
open Go.RowKit

theorem infoFull : ∃ i z, Try.prog.info? 60 = some i ∧ i.zero = some z ∧ z.cells.size = 2 ∧ i.size = 2 ∧ i.bytes = 32 := spInfo
set_option maxHeartbeats 4000000 in
set_option maxRecDepth 100000 in
theorem dGrow_any (n : Nat) (w : World) (hn : n ≤ 1000000) : Calls Try.prog 120 #[.slice none 0 0, .int .i64 n] w fun e w' => ∃ v, e = .returned v ∧ OwnG 60 2 spCells w' w.heap.size v ([] : List Sp) ∧ Below w.heap.size w w' := by
  by_cases h0 : n = 0
  · subst h0
    go_enter Try.func120, Try.ntmps120
    go_wp2
    go_ret
    exact ⟨_, rfl, OwnG.none_ _ _ _ _ _, Below.refl _ _⟩
  · obtain ⟨i0, z, hi0, hz0, hzs, hs2, hb2⟩ := infoFull
    have h1 : ¬ ((n : Int) < 0) := by omega
    have h4 : (n : Int) > 0 := by omega
    have hold : (Builtin.firstCells i0.size 0 (.slice none 0 0)).run Try.prog w.drew = .ok #[] w.drew := run_firstCells_none w.drew i0.size 0 0 0
    obtain ⟨G, hG⟩ : ∃ G, G = grownCap w n 0 60 := ⟨_, rfl⟩
    have hGn : n ≤ G := by rw [hG]; exact grownCap_ge w _ _ _
    have hG63 : G ≤ maxLen := by rw [hG]; exact grownCap_le_maxLen w n 0 60 (by unfold maxLen; omega)
    have hrz : ∀ ty, (Builtin.append_ #[62, 3] ty #[.slice none 0 0, .int .i64 (n : Int)]).run Try.prog w =
        .ok (.slice (some ⟨w.heap.size, 0, none⟩) n G) (w.drew.alloc (.cells (#[] ++ Builtin.zeroCells z.cells n ++ Builtin.zeroCells z.cells (G - n)) 60)) := fun ty => by
      have h := Lib.run_append_grow_zeros w 62 3 ty 60 i0 z .i64 .i64 Try.underlying62 Try.underlying3 hi0 hz0 none 0 0 [] hold n (by omega) (by omega) (by omega) (by omega)
        (by rw [hb2]; omega)
        (by rw [Nat.zero_add]; exact growslice_fits (by omega) (by rw [hb2]; omega))
      rw [Nat.zero_add, ← hG] at h
      simpa using h
    have HOw := Lib.hid (show OwnG 60 2 spCells (w.drew.alloc (.cells (#[] ++ Builtin.zeroCells z.cells n ++ Builtin.zeroCells z.cells (G - n)) 60)) w.heap.size (.slice (some ⟨w.heap.size, 0, none⟩) 0 G) ([] : List Sp) from by
      refine ⟨rfl, .inr ⟨w.heap.size, G, _, rfl, Nat.le_refl _, heap_alloc_new w.drew _, Nat.zero_le _, hG63, ?_, by simp [flatG]⟩⟩
      simp [Builtin.zeroCells, hzs]
      omega)
    have HBw := Lib.hid (show Below w.heap.size w (w.drew.alloc (.cells (#[] ++ Builtin.zeroCells z.cells n ++ Builtin.zeroCells z.cells (G - n)) 60)) from (Below.refl _ w).drew.alloc (Nat.le_refl _) _)
    have hG63' : G ≤ 9223372036854775807 := by unfold maxLen at hG63; omega
    generalize Obj.cells (#[] ++ Builtin.zeroCells z.cells n ++ Builtin.zeroCells z.cells (G - n)) 60 = ob at *
    clear hold hG hi0 hz0 hzs hs2 hb2
    go_enter Try.func120, Try.ntmps120
    go_wp2_with (at_builtin; refine Lib.wpList_append_run _ rfl _ _ _ _ rfl _ _ rfl rfl _ _ (hrz _) ?_)
    go_ret
    exact ⟨_, rfl, HOw.out, HBw.out⟩
end Go.Proofs.Ytooegjdppeiccaa
