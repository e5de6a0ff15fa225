/-
  The walk of ValueMakes.
-/
import Derived.Test.YtepniiaojhiogaaDoorVCon
namespace Go.Proofs.YtepniiaojhiogaaDoor.valueMakes
open Go.RowKit

set_option maxRecDepth 100000 in
set_option maxHeartbeats 2000000 in
theorem walk (K : ValueC) (n : Int) (b : Bool) (s : ByteArray) (w : World) (h0 : -9223372036854775808 ≤ n) (h1 : n ≤ 9223372036854775807) (hs : s.size ≤ reachBytes) :
    Calls Tryd.prog 4 #[.int .i64 n, .bool b, .string s] w fun e w' => e = .returned (.bool true) ∧ Below w.heap.size w w' := by
  unfold reachBytes at hs
  have HL := Lib.hid (fun (W wx : World) (hb : Below W.heap.size W wx) => call_from hb (liveV_any K wx))
  have HI := Lib.hid (fun (W wx : World) (hb : Below W.heap.size W wx) => call_from hb (K.int n wx h0 h1))
  have HT := Lib.hid (fun (W wx : World) (hb : Below W.heap.size W wx) => call_from hb (K.text s wx))
  have HB := Lib.hid (fun (W wx : World) (hb : Below W.heap.size W wx) => call_from hb (K.bool b wx))
  clear K h0 h1
  by_cases h : 1000 < s.size
  · have d1 : decide ((1000 : Int) < (s.size : Int)) = true := by rw [decide_eq_true_iff]; omega
    clear h
    go_enter Tryd.func4, Tryd.ntmps4
    go_wp2_with fail
    refine (HL.out w _ (Below.refl _ _)).mono ?_
    rintro r w1 ⟨rfl, hb⟩
    have HB1 := Lib.hid hb
    clear hb
    go_wp2_with fail
    refine (HL.out w _ HB1.out).mono ?_
    rintro r w2 ⟨rfl, hb⟩
    have HB2 := Lib.hid hb
    clear hb
    go_wp2_with fail
    go_ret
    exact ⟨rfl, HB2.out⟩
  · have d1 : decide ((1000 : Int) < (s.size : Int)) = false := by rw [decide_eq_false_iff_not]; omega
    clear h
    cases b with
    | false =>
      go_enter Tryd.func4, Tryd.ntmps4
      go_wp2_with fail
      refine (HL.out w _ (Below.refl _ _)).mono ?_
      rintro r w1 ⟨rfl, hb⟩
      have HB1 := Lib.hid hb
      clear hb
      go_upto_region 6 with fail
      obtain ⟨w2, hw2⟩ : ∃ wy, w1.alloc (.cells #[.int .i64 2, .int .i64 0, .string ⟨#[]⟩] 23) = wy := ⟨_, rfl⟩
      have HX := Lib.hid (show Boxed w2 w1.heap.size ⟨2, 0, ⟨#[]⟩⟩ by rw [← hw2]; exact Boxed.new w1 2 0 ⟨#[]⟩)
      have HB2 := Lib.hid (show Below w.heap.size w w2 by rw [← hw2]; exact HB1.out.alloc HB1.out.size _)
      rw [hw2]
      clear hw2
      have keep : ∀ w', Below w2.heap.size w2 w' → w'.cell? ⟨w1.heap.size, 0, none⟩ = some (.int .i64 2) ∧ w'.cell? ⟨w1.heap.size, 1, none⟩ = some (.int .i64 0) ∧ w'.cell? ⟨w1.heap.size, 2, none⟩ = some (.string ⟨#[]⟩) ∧ Below w2.heap.size w2 w' := fun w' h =>
        have m := (HX.out.below h).cells
        ⟨m.1, m.2.1, m.2.2, h⟩
      have KEEP := Lib.hid keep
      obtain ⟨c0, c1, c2, _⟩ := keep _ (Below.refl _ _)
      clear keep
      go_region_held3 (fun w' => w'.cell? ⟨w1.heap.size, 0, none⟩ = some (.int .i64 2) ∧ w'.cell? ⟨w1.heap.size, 1, none⟩ = some (.int .i64 0) ∧ w'.cell? ⟨w1.heap.size, 2, none⟩ = some (.string ⟨#[]⟩) ∧ Below w2.heap.size w2 w')
        (first | with_reducible exact KEEP.out _ hb6 | with_reducible exact KEEP.out _ (Below.refl _ _).drew)
        (first
          | (go_at_call 18; (with_reducible refine (HI.out w2 _ (by go_split_ands; assumption)).mono ?_); rintro r w' ⟨rfl, hb6⟩)
          | (go_at_call 20; (with_reducible refine (HT.out w2 _ (by go_split_ands; assumption)).mono ?_); rintro r w' ⟨rfl, hb6⟩)
          | (go_at_call 19; (with_reducible refine (HB.out w2 _ (by go_split_ands; assumption)).mono ?_); rintro r w' ⟨rfl, hb6⟩))
      go_wp2
      go_ret
      exact ⟨rfl, HB2.out.trans (hb6.mono HB2.out.size)⟩
    | true =>
      go_enter Tryd.func4, Tryd.ntmps4
      go_wp2_with fail
      refine (HL.out w _ (Below.refl _ _)).mono ?_
      rintro r w1 ⟨rfl, hb⟩
      have HB1 := Lib.hid hb
      clear hb
      go_upto_region 6 with fail
      obtain ⟨w2, hw2⟩ : ∃ wy, w1.alloc (.cells #[.int .i64 2, .int .i64 1, .string ⟨#[]⟩] 23) = wy := ⟨_, rfl⟩
      have HX := Lib.hid (show Boxed w2 w1.heap.size ⟨2, 1, ⟨#[]⟩⟩ by rw [← hw2]; exact Boxed.new w1 2 1 ⟨#[]⟩)
      have HB2 := Lib.hid (show Below w.heap.size w w2 by rw [← hw2]; exact HB1.out.alloc HB1.out.size _)
      rw [hw2]
      clear hw2
      have keep : ∀ w', Below w2.heap.size w2 w' → w'.cell? ⟨w1.heap.size, 0, none⟩ = some (.int .i64 2) ∧ w'.cell? ⟨w1.heap.size, 1, none⟩ = some (.int .i64 1) ∧ w'.cell? ⟨w1.heap.size, 2, none⟩ = some (.string ⟨#[]⟩) ∧ Below w2.heap.size w2 w' := fun w' h =>
        have m := (HX.out.below h).cells
        ⟨m.1, m.2.1, m.2.2, h⟩
      have KEEP := Lib.hid keep
      obtain ⟨c0, c1, c2, _⟩ := keep _ (Below.refl _ _)
      clear keep
      go_region_held3 (fun w' => w'.cell? ⟨w1.heap.size, 0, none⟩ = some (.int .i64 2) ∧ w'.cell? ⟨w1.heap.size, 1, none⟩ = some (.int .i64 1) ∧ w'.cell? ⟨w1.heap.size, 2, none⟩ = some (.string ⟨#[]⟩) ∧ Below w2.heap.size w2 w')
        (first | with_reducible exact KEEP.out _ hb6 | with_reducible exact KEEP.out _ (Below.refl _ _).drew)
        (first
          | (go_at_call 18; (with_reducible refine (HI.out w2 _ (by go_split_ands; assumption)).mono ?_); rintro r w' ⟨rfl, hb6⟩)
          | (go_at_call 20; (with_reducible refine (HT.out w2 _ (by go_split_ands; assumption)).mono ?_); rintro r w' ⟨rfl, hb6⟩)
          | (go_at_call 19; (with_reducible refine (HB.out w2 _ (by go_split_ands; assumption)).mono ?_); rintro r w' ⟨rfl, hb6⟩))
      go_wp2
      go_ret
      exact ⟨rfl, HB2.out.trans (hb6.mono HB2.out.size)⟩
end Go.Proofs.YtepniiaojhiogaaDoor.valueMakes
