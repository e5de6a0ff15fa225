/-
  The walk of ValueCompares.
-/
import Derived.Test.YtepniiaojhiogaaDoorVCon
namespace Go.Proofs.YtepniiaojhiogaaDoor.valueCompares
open Go.RowKit

set_option maxRecDepth 100000 in
set_option maxHeartbeats 2000000 in
theorem walk (K : ValueC) (a b : V) (w : World) : Calls Tryd.prog 8 #[a.val, b.val] w fun e w' => e = .returned (.bool true) ∧ Below w.heap.size w w' := by
  obtain ⟨k, n, s⟩ := a
  obtain ⟨k', n', s'⟩ := b
  have HL := Lib.hid (fun (W wx : World) (hb : Below W.heap.size W wx) => call_from hb (liveV_any K wx))
  have HC : Hid (∀ W wx : World, Below W.heap.size W wx → Calls Tryd.prog 24 #[.agg #[.int .i64 k, .int .i64 n, .string s], .agg #[.int .i64 k', .int .i64 n', .string s']] wx fun r w' => r = .returned (.int .i64 (cmpV ⟨k, n, s⟩ ⟨k', n', s'⟩)) ∧ Below W.heap.size W w') := Lib.hid fun W wx hb => call_from hb (K.compare ⟨k, n, s⟩ ⟨k', n', s'⟩ wx)
  have HF : Hid (∀ W wx : World, Below W.heap.size W wx → Calls Tryd.prog 25 #[.agg #[.int .i64 k, .int .i64 n, .string s], .agg #[.int .i64 k', .int .i64 n', .string s']] wx fun r w' => r = .returned (.int .i64 (cmpV ⟨k, n, s⟩ ⟨k', n', s'⟩)) ∧ Below W.heap.size W w') := Lib.hid fun W wx hb => call_from hb (fCompare_any ⟨k, n, s⟩ ⟨k', n', s'⟩ wx)
  clear K
  generalize cmpV ⟨k, n, s⟩ ⟨k', n', s'⟩ = e at HC HF
  show Calls Tryd.prog 8 #[.agg #[.int .i64 k, .int .i64 n, .string s], .agg #[.int .i64 k', .int .i64 n', .string s']] w _
  go_enter Tryd.func8, Tryd.ntmps8
  go_upto_region 1 with fail
  have h1 := Boxed.new w k n s
  have h2 := Boxed.new (w.alloc (.cells #[.int .i64 k, .int .i64 n, .string s] 23)) k' n' s'
  have h3 := h1.below ((Below.refl _ _).alloc (Nat.le_refl _) (.cells #[.int .i64 k', .int .i64 n', .string s'] 23))
  have hs2 : (w.alloc (.cells #[.int .i64 k, .int .i64 n, .string s] 23)).heap.size = w.heap.size + 1 := by simp
  rw [hs2] at h2
  obtain ⟨w2, hw2⟩ : ∃ wy, (w.alloc (.cells #[.int .i64 k, .int .i64 n, .string s] 23)).alloc (.cells #[.int .i64 k', .int .i64 n', .string s'] 23) = wy := ⟨_, rfl⟩
  have HB := Lib.hid (show Below w.heap.size w w2 by rw [← hw2]; exact ((Below.refl _ w).alloc (Nat.le_refl _) _).alloc (by simp) _)
  rw [hw2] at h2 h3 ⊢
  have HX := Lib.hid h3
  have HY := Lib.hid h2
  clear h1 h2 h3 hw2 hs2
  have keep : ∀ w', Below w2.heap.size w2 w' → w'.cell? ⟨w.heap.size, 0, none⟩ = some (.int .i64 k) ∧ w'.cell? ⟨w.heap.size, 1, none⟩ = some (.int .i64 n) ∧ w'.cell? ⟨w.heap.size, 2, none⟩ = some (.string s) ∧ w'.cell? ⟨w.heap.size + 1, 0, none⟩ = some (.int .i64 k') ∧ w'.cell? ⟨w.heap.size + 1, 1, none⟩ = some (.int .i64 n') ∧ w'.cell? ⟨w.heap.size + 1, 2, none⟩ = some (.string s') ∧ Below w2.heap.size w2 w' := fun w' h =>
    have m := (HX.out.below h).cells
    have m' := (HY.out.below h).cells
    ⟨m.1, m.2.1, m.2.2, m'.1, m'.2.1, m'.2.2, h⟩
  have KEEP := Lib.hid keep
  obtain ⟨c0, c1, c2, c3, c4, c5, _⟩ := keep _ (Below.refl _ _)
  clear keep
  go_region_held3 (fun w' => w'.cell? ⟨w.heap.size, 0, none⟩ = some (.int .i64 k) ∧ w'.cell? ⟨w.heap.size, 1, none⟩ = some (.int .i64 n) ∧ w'.cell? ⟨w.heap.size, 2, none⟩ = some (.string s) ∧ w'.cell? ⟨w.heap.size + 1, 0, none⟩ = some (.int .i64 k') ∧ w'.cell? ⟨w.heap.size + 1, 1, none⟩ = some (.int .i64 n') ∧ w'.cell? ⟨w.heap.size + 1, 2, none⟩ = some (.string s') ∧ Below w2.heap.size w2 w')
    (first | with_reducible exact KEEP.out _ hb6 | with_reducible exact KEEP.out _ (Below.refl _ _).drew)
    (first
      | (go_at_call 10; (with_reducible refine (HL.out w2 _ (by go_split_ands; assumption)).mono ?_); rintro r w' ⟨rfl, hb6⟩)
      | (go_at_call 24; (with_reducible refine (HC.out w2 _ (by go_split_ands; assumption)).mono ?_); rintro r w' ⟨rfl, hb6⟩)
      | (go_at_call 25; (with_reducible refine (HF.out w2 _ (by go_split_ands; assumption)).mono ?_); rintro r w' ⟨rfl, hb6⟩))
  go_wp2
  go_ret
  exact ⟨rfl, HB.out.trans (hb6.mono HB.out.size)⟩
end Go.Proofs.YtepniiaojhiogaaDoor.valueCompares
