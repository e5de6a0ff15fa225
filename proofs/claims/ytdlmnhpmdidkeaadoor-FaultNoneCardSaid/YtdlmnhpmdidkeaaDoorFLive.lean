/-
  The chapter's examples on package fault: the law's own function live answers true, and changes nothing that was there.
-/
import Derived.Test.YtdlmnhpmdidkeaaDoorFMake
import Derived.Test.YtdlmnhpmdidkeaaDoorFIs
namespace Go.Proofs.YtdlmnhpmdidkeaaDoor
open Go.RowKit

theorem Glob.under {w w' : World} (h : Glob w) (hb : Below w.heap.size w w') : Glob w' := h.below hb h.big

theorem dec8 : Lib.decDigits 8 = [56] := by
  rw [Lib.decDigits, dif_pos (by decide)]; rfl
theorem text_live : (⟨(textOf (End.num 8) [⟨#[100, 101, 112, 108, 111, 121]⟩, ⟨#[110, 111, 100, 101, 32, 51]⟩]).toArray⟩ : ByteArray) = ⟨#[100, 101, 112, 108, 111, 121, 58, 32, 110, 111, 100, 101, 32, 51, 58, 32, 101, 114, 114, 111, 114, 32, 56]⟩ := by
  have e : Lib.itoa 8 = [56] := by
    rw [Lib.itoa, if_neg (by decide)]; exact dec8
  unfold textOf
  rw [show whatOf (End.num 8) = [101, 114, 114, 111, 114, 32] ++ Lib.itoa 8 from rfl, e]
  rfl

set_option maxRecDepth 100000 in
set_option maxHeartbeats 1000000 in
theorem live_any (w : World) (hG : Glob w) : Calls Tryd.prog 8 #[] w fun e w' => e = .returned (.bool true) ∧ Below w.heap.size w w' := by
  have HG := Lib.hid hG
  have HT := Lib.hid text_live
  clear hG
  go_enter Tryd.func8, Tryd.ntmps8
  go_wp2_with fail
  refine (of_num 8 _ (by decide)).mono ?_
  rintro e w1 ⟨rfl, rfl⟩
  go_wp2_with fail
  refine (wrap_any ⟨#[110, 111, 100, 101, 32, 51]⟩ [] _ (End.num 8) w.heap.size w rfl (.inr (by intro h; cases h)) (Nat.le_refl _)).mono ?_
  rintro e w1 ⟨v1, rfl, he1, hb1⟩
  have E1 := Lib.hid (And.intro he1 hb1)
  clear he1 hb1
  go_wp2_with fail
  refine (wrap_any ⟨#[100, 101, 112, 108, 111, 121]⟩ [⟨#[110, 111, 100, 101, 32, 51]⟩] v1 (End.num 8) w1.heap.size w1 E1.out.1 (.inl (by simp)) (Nat.le_refl _)).mono ?_
  rintro e w2 ⟨v2, rfl, he2, hb2⟩
  have hb2' : Below w.heap.size w w2 := E1.out.2.trans (hb2.mono E1.out.2.size)
  obtain ⟨T, y, rfl⟩ := he2.iface (.inl (by simp))
  have E2 := Lib.hid (And.intro he2 (And.intro hb2' (HG.out.under hb2')))
  clear he2 hb2 hb2' E1
  go_wp2_with fail
  refine (code_any _ _ (End.num 8) w2.heap.size w2 E2.out.1 (.inl (by simp)) (Nat.le_refl _) E2.out.2.2).mono ?_
  rintro e w3 ⟨rfl, hb3⟩
  rw [show codeOf (End.num 8) = 8 from rfl]
  have E3 := Lib.hid (And.intro (E2.out.1.below hb3 (Nat.le_refl _)) (And.intro hb3.size (And.intro (E2.out.2.1.trans (hb3.mono E2.out.2.1.size)) (E2.out.2.2.under hb3))))
  clear hb3 E2
  go_wp2_with fail
  refine (text_any _ _ (End.num 8) _ w3 E3.out.1 (.inl (by simp)) E3.out.2.1 (by simp) E3.out.2.2.2 (by decide) (by decide) (by have := congrArg ByteArray.size HT.out; simp [ByteArray.size] at this; omega)).mono ?_
  rintro e w4 ⟨rfl, hb4⟩
  rw [HT.out]
  have E4 := Lib.hid (And.intro (E3.out.1.below hb4 E3.out.2.1) (And.intro (Nat.le_trans E3.out.2.1 hb4.size) (And.intro (E3.out.2.2.1.trans (hb4.mono E3.out.2.2.1.size)) (E3.out.2.2.2.under hb4))))
  clear hb4 E3
  go_wp2_with fail
  refine (trail_any _ _ (End.num 8) _ w4 E4.out.1 E4.out.2.1 (by simp) E4.out.2.2.2).mono ?_
  rintro e w5 ⟨sv, rfl, ho, hb5⟩
  obtain ⟨A, c, rfl, _, _, _, hr⟩ := RowS.own ho
  obtain ⟨b, o, rfl, d0⟩ := hr.at_ (k := 0) (by simp)
  obtain ⟨b', o', eq, d1⟩ := hr.at_ (k := 1) (by simp)
  obtain ⟨rfl, rfl⟩ : b = b' ∧ o = o' := by injection eq with eq; injection eq with e1 e2; exact ⟨e1, e2⟩
  simp only [List.getElem_cons_zero, List.getElem_cons_succ, Nat.add_zero] at d0 d1
  have hb6 : Below w.heap.size w w5 := E4.out.2.2.1.trans (hb5.mono E4.out.2.2.1.size)
  have E5 := Lib.hid hb6
  clear hb5 hb6 E4 ho hr eq
  go_wp2_with fail
  refine (of_zero _).mono ?_
  rintro e w6 ⟨rfl, rfl⟩
  go_wp2_with fail
  go_ret
  exact ⟨rfl, E5.out⟩
end Go.Proofs.YtdlmnhpmdidkeaaDoor
