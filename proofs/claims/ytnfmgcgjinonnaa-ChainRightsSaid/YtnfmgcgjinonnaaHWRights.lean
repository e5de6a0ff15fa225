/-
  The walk of ChainRights.
-/
import Derived.Test.YtnfmgcgjinonnaaHLaw
namespace Go.Proofs.Ytnfmgcgjinonnaa.chainRights
open Go.RowKit

set_option maxRecDepth 100000 in
set_option maxHeartbeats 4000000 in
theorem walk (K : ChainC) (a b : List Ver) (A B : Option Addr) (c d : Nat) (w : World) (ha : ChH w w.heap.size A c a) (hb : ChH w w.heap.size B d b) :
    Calls Try.prog 3 #[.slice A a.length c, .slice B b.length d] w fun r w' => r = .returned (.bool true) ∧ Below w.heap.size w w' := by
  have F := fromH K w
  have HL := Lib.hid F.live
  have HFA := Lib.hid (F.few a A c ha)
  have HFB := Lib.hid (F.few b B d hb)
  have hb6 := Below.refl w.heap.size w
  by_cases fa : fewH a = true
  · by_cases fb : fewH b = true
    · have la := fewH_len fa
      have lb := fewH_len fb
      have H1 := Lib.hid (F.right a A c la ha)
      have H2 := Lib.hid (F.right2 a A c la ha)
      have H3 := Lib.hid (F.size a A c la ha)
      have H4 := Lib.hid (F.size2 a A c la ha)
      have H5 := Lib.hid (F.same a b A B c d la lb ha hb)
      have H6 := Lib.hid (F.same2 a b A B c d la lb ha hb)
      rw [fa] at HFA
      rw [fb] at HFB
      generalize rightC a = ra at *
      generalize sameH a b = sab at *
      generalize sizeH a = za at *
      clear F K ha hb fa fb la lb
      cases ra <;> cases sab <;>
      · go_enter Try.func3, Try.ntmps3
        go_wp2_with (first
          | (go_at_call 10; (with_reducible refine (HL.out _ (by assumption)).mono ?_); rintro r w' ⟨rfl, hb6⟩)
          | (go_at_call 11; (with_reducible refine (HFA.out _ (by assumption)).mono ?_); rintro r w' ⟨rfl, hb6⟩)
          | (go_at_call 11; (with_reducible refine (HFB.out _ (by assumption)).mono ?_); rintro r w' ⟨rfl, hb6⟩)
          | (go_at_call 12; (with_reducible refine (H1.out _ (by assumption)).mono ?_); rintro r w' ⟨rfl, hb6⟩)
          | (go_at_call 13; (with_reducible refine (H2.out _ (by assumption)).mono ?_); rintro r w' ⟨rfl, hb6⟩)
          | (go_at_call 14; (with_reducible refine (H3.out _ (by assumption)).mono ?_); rintro r w' ⟨rfl, hb6⟩)
          | (go_at_call 15; (with_reducible refine (H4.out _ (by assumption)).mono ?_); rintro r w' ⟨rfl, hb6⟩)
          | (go_at_call 16; (with_reducible refine (H5.out _ (by assumption)).mono ?_); rintro r w' ⟨rfl, hb6⟩)
          | (go_at_call 17; (with_reducible refine (H6.out _ (by assumption)).mono ?_); rintro r w' ⟨rfl, hb6⟩))
        go_ret
        exact ⟨rfl, hb6⟩
    · have fb' : fewH b = false := by simpa using fb
      rw [fa] at HFA
      rw [fb'] at HFB
      clear F K ha hb fa fb fb'
      go_enter Try.func3, Try.ntmps3
      go_wp2_with (first
        | (go_at_call 10; (with_reducible refine (HL.out _ (by assumption)).mono ?_); rintro r w' ⟨rfl, hb6⟩)
        | (go_at_call 11; (with_reducible refine (HFA.out _ (by assumption)).mono ?_); rintro r w' ⟨rfl, hb6⟩)
        | (go_at_call 11; (with_reducible refine (HFB.out _ (by assumption)).mono ?_); rintro r w' ⟨rfl, hb6⟩))
      go_ret
      exact ⟨rfl, hb6⟩
  · have fa' : fewH a = false := by simpa using fa
    rw [fa'] at HFA
    clear F K ha hb fa fa' HFB
    go_enter Try.func3, Try.ntmps3
    go_wp2_with (first
      | (go_at_call 10; (with_reducible refine (HL.out _ (by assumption)).mono ?_); rintro r w' ⟨rfl, hb6⟩)
      | (go_at_call 11; (with_reducible refine (HFA.out _ (by assumption)).mono ?_); rintro r w' ⟨rfl, hb6⟩))
    go_ret
    exact ⟨rfl, hb6⟩
end Go.Proofs.Ytnfmgcgjinonnaa.chainRights
