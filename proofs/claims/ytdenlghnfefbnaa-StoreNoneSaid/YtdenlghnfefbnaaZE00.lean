import Derived.Test.YtdenlghnfefbnaaZC40
/-
  The developers' store that no call made: nil, and one of zeros.
-/
namespace Go.Proofs.Ytdenlghnfefbnaa
open Go.RowKit

def zeroS : Array Value := #[.int .i64 0, .int .i64 0, .int .i64 0, .int .i64 0, .int .i64 0, .int .i64 0, .int .u64 0, .int .u64 0, .map none, .slice none 0 0, .int .i64 0, .int .i64 0, .int .i64 0]
/-- A pointer to a store that no call made. -/
def NoneS (w : World) (P : Option Addr) : Prop := P = none ∨ ∃ p, P = some ⟨p, 0, none⟩ ∧ w.heap[p]? = some (.cells zeroS 77 (0, 0))
theorem NoneS.below {w w' : World} {P : Option Addr} (h : NoneS w P) (hb : Below w.heap.size w w') : NoneS w' P := by
  rcases h with h | ⟨p, h1, h2⟩
  · exact .inl h
  · exact .inr ⟨p, h1, heap_below h2 hb (lt_of_heap h2)⟩
set_option maxRecDepth 100000 in
theorem noMade_any (P : Option Addr) (w : World) (h : NoneS w P) : Calls Try.prog 47 #[.pointer P] w fun e w' => e = .returned (.bool false) ∧ w' = w := by
  have hne := fun (w : World) (m : Option Nat) => run_neq_map_nil (P := Try.prog) w 75 _ _ m Try.underlying75
  rcases h with rfl | ⟨p, rfl, h2⟩
  · go_enter Try.func47, Try.ntmps47
    go_wp2
    go_ret
    exact ⟨rfl, rfl⟩
  · have c8 : w.cell? ⟨p, 8, none⟩ = some (.map none) := by rw [cell_of_row w p 8 _ _ _ h2]; rfl
    go_enter Try.func47, Try.ntmps47
    go_wp2
    go_ret
    exact ⟨rfl, rfl⟩
section
variable {P : Option Addr} {w : World}
set_option maxRecDepth 100000 in
theorem noNow_any (h : NoneS w P) : Calls Try.prog 17 #[.pointer P] w fun e w' => e = .returned (.int .u64 0) ∧ w' = w := by
  have HM := Lib.hid (noMade_any P w h)
  go_enter Try.func17, Try.ntmps17
  go_wp2_with fail
  refine HM.out.mono ?_
  rintro e w' ⟨rfl, rfl⟩
  go_wp2
  go_ret
  exact ⟨rfl, rfl⟩
set_option maxRecDepth 100000 in
theorem noRead_any (h : NoneS w P) (k : ByteArray) (t : Int) : Calls Try.prog 30 #[.pointer P, .string k, .int .u64 t] w fun e w' => e = .returned (.tuple #[.slice none 0 0, .bool false]) ∧ w' = w := by
  have HM := Lib.hid (noMade_any P w h)
  go_enter Try.func30, Try.ntmps30
  go_wp2_with fail
  refine HM.out.mono ?_
  rintro e w' ⟨rfl, rfl⟩
  go_wp2
  refine bodyPost_ret (v := .tuple #[.slice none 0 0, .bool false]) (by simp [results, Try.results30, go_sem]) rfl ?_
  exact ⟨rfl, rfl⟩
set_option maxRecDepth 100000 in
theorem noScan_any (h : NoneS w P) (a b : ByteArray) (t : Int) : Calls Try.prog 31 #[.pointer P, .string a, .string b, .int .u64 t] w fun e w' => e = .returned (.slice none 0 0) ∧ w' = w := by
  have HM := Lib.hid (noMade_any P w h)
  go_enter Try.func31, Try.ntmps31
  go_wp2_with fail
  refine HM.out.mono ?_
  rintro e w' ⟨rfl, rfl⟩
  go_wp2
  go_ret
  exact ⟨rfl, rfl⟩
set_option maxRecDepth 100000 in
theorem noLatest_any (h : NoneS w P) (k : ByteArray) : Calls Try.prog 37 #[.pointer P, .string k] w fun e w' => e = .returned (.int .u64 0) ∧ w' = w := by
  have HM := Lib.hid (noMade_any P w h)
  go_enter Try.func37, Try.ntmps37
  go_wp2_with fail
  refine HM.out.mono ?_
  rintro e w' ⟨rfl, rfl⟩
  go_wp2
  go_ret
  exact ⟨rfl, rfl⟩
set_option maxRecDepth 100000 in
theorem noCollect_any (h : NoneS w P) (t : Int) : Calls Try.prog 34 #[.pointer P, .int .u64 t] w fun e w' => e = .returned (.int .i64 0) ∧ w' = w := by
  have HM := Lib.hid (noMade_any P w h)
  go_enter Try.func34, Try.ntmps34
  go_wp2_with fail
  refine HM.out.mono ?_
  rintro e w' ⟨rfl, rfl⟩
  go_wp2
  go_ret
  exact ⟨rfl, rfl⟩
set_option maxRecDepth 100000 in
theorem noCount_any (h : NoneS w P) : Calls Try.prog 18 #[.pointer P] w fun e w' => e = .returned (.agg #[.int .i64 0, .int .i64 0, .int .i64 0]) ∧ Below w.heap.size w w' := by
  obtain ⟨w0, hw0⟩ : ∃ y, w.alloc (.cells #[.int .i64 0, .int .i64 0, .int .i64 0] 49) = y := ⟨_, rfl⟩
  have b0 : Below w.heap.size w w0 := by rw [← hw0]; exact (Below.refl _ w).alloc (Nat.le_refl _) _
  have hz : w0.heap[w.heap.size]? = some (.cells #[.int .i64 0, .int .i64 0, .int .i64 0] 49 (0, 0)) := by rw [← hw0]; exact heap_alloc_new w _
  have HM := Lib.hid (noMade_any P w0 (h.below b0))
  have f0 := frozen_of hz 0
  have f1 := frozen_of hz 1
  have f2 := frozen_of hz 2
  have z0 := cell_of_row w0 _ 0 _ _ _ hz
  have z1 := cell_of_row w0 _ 1 _ _ _ hz
  have z2 := cell_of_row w0 _ 2 _ _ _ hz
  have HZ := Lib.hid (box3_set hz (.int .i64 0) (.int .i64 0) (.int .i64 0))
  have HB3 := Lib.hid (Below.box3 b0 (b := w.heap.size) (Nat.le_refl _) (.int .i64 0) (.int .i64 0) (.int .i64 0))
  have HW0 := Lib.hid hw0
  clear h b0 hz hw0
  go_enter Try.func18, Try.ntmps18
  go_upto_region 1 with fail
  rw [HW0.out]
  clear HW0
  go_wp2_with fail
  refine HM.out.mono ?_
  rintro e w' ⟨rfl, rfl⟩
  go_wp2
  have t0 := cell_of_row _ _ 0 _ _ _ HZ.out
  have t1 := cell_of_row _ _ 1 _ _ _ HZ.out
  have t2 := cell_of_row _ _ 2 _ _ _ HZ.out
  refine bodyPost_ret (v := .agg #[.int .i64 0, .int .i64 0, .int .i64 0]) (by simp [results, Try.results18, go_sem, t0, t1, t2]) rfl ?_
  exact ⟨rfl, HB3.out⟩
set_option maxRecDepth 100000 in
theorem noChain_any (h : NoneS w P) (k : ByteArray) : Calls Try.prog 26 #[.pointer P, .string k] w fun e w' => e = .returned (.slice none 0 0) ∧ w' = w := by
  have HM := Lib.hid (noMade_any P w h)
  go_enter Try.func26, Try.ntmps26
  go_wp2_with fail
  refine HM.out.mono ?_
  rintro e w' ⟨rfl, rfl⟩
  go_wp2
  go_ret
  exact ⟨rfl, rfl⟩
set_option maxRecDepth 100000 in
theorem noKeys_any (h : NoneS w P) : Calls Try.prog 23 #[.pointer P] w fun e w' => e = .returned (.slice none 0 0) ∧ w' = w := by
  have HM := Lib.hid (noMade_any P w h)
  go_enter Try.func23, Try.ntmps23
  go_wp2_with fail
  refine HM.out.mono ?_
  rintro e w' ⟨rfl, rfl⟩
  go_wp2
  go_ret
  exact ⟨rfl, rfl⟩
set_option maxRecDepth 100000 in
theorem noClone_any (h : NoneS w P) : Calls Try.prog 35 #[.pointer P] w fun e w' => e = .returned (.pointer none) ∧ w' = w := by
  have HM := Lib.hid (noMade_any P w h)
  go_enter Try.func35, Try.ntmps35
  go_wp2_with fail
  refine HM.out.mono ?_
  rintro e w' ⟨rfl, rfl⟩
  go_wp2
  go_ret
  exact ⟨rfl, rfl⟩
set_option maxRecDepth 100000 in
theorem noCommit_any (h : NoneS w P) (x : Value) (t : Int) : Calls Try.prog 36 #[.pointer P, x, .int .u64 t] w fun e w' => e = .returned (.tuple #[.int .u64 0, .int .i64 2]) ∧ w' = w := by
  have HM := Lib.hid (noMade_any P w h)
  go_enter Try.func36, Try.ntmps36
  go_wp2_with fail
  refine HM.out.mono ?_
  rintro e w' ⟨rfl, rfl⟩
  go_wp2
  refine bodyPost_ret (v := .tuple #[.int .u64 0, .int .i64 2]) (by simp [results, Try.results36, go_sem]) rfl ?_
  exact ⟨rfl, rfl⟩
end
end Go.Proofs.Ytdenlghnfefbnaa
