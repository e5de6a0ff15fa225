/-
  The walk of PackNone.
-/
import Derived.Test.YtfobiojeekcgeaaLive
namespace Go.Proofs.Ytfobiojeekcgeaa.packNone
open Go.RowKit

set_option maxHeartbeats 1000000 in
theorem walk (a0 : Int) (_w0 : (Lit.int .i64 a0).wf = true) (w : World) :
    Calls Try.prog 9 #[.int .i64 a0] w fun e w' => e = .returned (.bool true) ∧ Below w.heap.size w w' := by
  go_enter Try.func9, Try.ntmps9
  go_wp2_with fail
  refine (live_any _).mono ?_
  rintro e w1 ⟨rfl, hb⟩
  have hb2 : Below w.heap.size w (w1.alloc (.cells #[.bool false, .slice none 0 0, .int .i64 0] 60)) := hb.alloc hb.size _
  have hg : (w1.alloc (.cells #[.bool false, .slice none 0 0, .int .i64 0] 60)).heap[w1.heap.size]? = some (.cells #[.bool false, .slice none 0 0, .int .i64 0] 60 (0, 0)) := heap_alloc_new w1 _
  have c0 : (w1.alloc (.cells #[.bool false, .slice none 0 0, .int .i64 0] 60)).cell? ⟨w1.heap.size, 0, none⟩ = some (.bool false) := cell_of_row _ _ 0 _ _ _ hg
  have c1 : (w1.alloc (.cells #[.bool false, .slice none 0 0, .int .i64 0] 60)).cell? ⟨w1.heap.size, 1, none⟩ = some (.slice none 0 0) := cell_of_row _ _ 1 _ _ _ hg
  have Z := Lib.hid (err_zero ⟨w1.heap.size, 0, none⟩ _ c0)
  have L := Lib.hid (left_zero w1.heap.size _ c1)
  clear hb hg c0 c1
  go_wp2_with fail
  refine (rUint_bad none 9 _ (err_nil _)).mono ?_
  rintro x w' ⟨rfl, rfl⟩
  go_wp2_with fail
  refine (rUint_bad (some ⟨w1.heap.size, 0, none⟩) 9 _ Z.out).mono ?_
  rintro x w' ⟨rfl, rfl⟩
  go_wp2_with fail
  refine (rInt_bad none _ (err_nil _)).mono ?_
  rintro x w' ⟨rfl, rfl⟩
  go_wp2_with fail
  refine (rByte_bad (some ⟨w1.heap.size, 0, none⟩) _ Z.out).mono ?_
  rintro x w' ⟨rfl, rfl⟩
  go_wp2_with fail
  refine (rByte_bad none _ (err_nil _)).mono ?_
  rintro x w' ⟨rfl, rfl⟩
  go_wp2_with fail
  refine (rText_bad none a0 _ (err_nil _)).mono ?_
  rintro x w' ⟨rfl, rfl⟩
  go_wp2_with fail
  refine (rText_bad (some ⟨w1.heap.size, 0, none⟩) a0 _ Z.out).mono ?_
  rintro x w' ⟨rfl, rfl⟩
  go_wp2_with fail
  refine (left_nil _).mono ?_
  rintro x w' ⟨rfl, rfl⟩
  go_wp2_with fail
  refine L.out.mono ?_
  rintro x w' ⟨rfl, rfl⟩
  go_wp2_with fail
  refine (err_nil _).mono ?_
  rintro x w' ⟨rfl, rfl⟩
  go_wp2_with fail
  refine Z.out.mono ?_
  rintro x w' ⟨rfl, rfl⟩
  go_wp2_with fail
  refine (end_bad none _ (err_nil _)).mono ?_
  rintro x w' ⟨rfl, rfl⟩
  go_wp2_with fail
  refine (end_bad (some ⟨w1.heap.size, 0, none⟩) _ Z.out).mono ?_
  rintro x w' ⟨rfl, rfl⟩
  go_wp2
  go_ret
  exact ⟨rfl, hb2⟩

end Go.Proofs.Ytfobiojeekcgeaa.packNone
