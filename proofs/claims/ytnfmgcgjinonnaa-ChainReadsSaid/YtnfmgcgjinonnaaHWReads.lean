/-
  The walk of ChainReads.
-/
import Derived.Test.YtnfmgcgjinonnaaHWTrims
namespace Go.Proofs.Ytnfmgcgjinonnaa
open Go.RowKit
theorem right_pair {l : List Ver} (h : rightC l = true) : l.Pairwise (fun a b => a.tm < b.tm) := ((right_iff l 0).1 h).2

namespace chainReads
set_option maxRecDepth 100000 in
set_option maxHeartbeats 4000000 in
theorem walk (K : ChainC) (l : List Ver) (A : Option Addr) (c low t : Nat) (w : World) (hlow : low < 18446744073709551616) (ht : t < 18446744073709551616) (hl : ChH w w.heap.size A c l) :
    Calls Try.prog 7 #[.slice A l.length c, .int .u64 low, .int .u64 t] w fun r w' => r = .returned (.bool true) ∧ Below w.heap.size w w' := by
  have F := fromH K w
  have HL := Lib.hid F.live
  have HFA := Lib.hid (F.few l A c hl)
  have hb6 := Below.refl w.heap.size w
  by_cases fa : fewH l = true
  · have la := fewH_len fa
    have HR := Lib.hid (F.right l A c la hl)
    rw [fa] at HFA
    by_cases hr : rightC l = true
    · rw [hr] at HR
      by_cases hlt : t < low
      · have d1 : decide ((t : Int) < (low : Int)) = true := by rw [decide_eq_true_iff]; omega
        have d2 : decide (t < low) = true := by rw [decide_eq_true_iff]; omega
        clear F K hl fa la hr hlt
        go_enter Try.func7, Try.ntmps7
        go_wp2_with (first
          | (go_at_call 10; (with_reducible refine (HL.out _ (by assumption)).mono ?_); rintro r w' ⟨rfl, hb6⟩)
          | (go_at_call 11; (with_reducible refine (HFA.out _ (by assumption)).mono ?_); rintro r w' ⟨rfl, hb6⟩)
          | (go_at_call 12; (with_reducible refine (HR.out _ (by assumption)).mono ?_); rintro r w' ⟨rfl, hb6⟩))
        go_ret
        exact ⟨rfl, hb6⟩
      · have d1 : decide ((t : Int) < (low : Int)) = false := by rw [decide_eq_false_iff_not]; omega
        have d2 : decide (t < low) = false := by rw [decide_eq_false_iff_not]; omega
        have lt := trim_ok fa low
        have hrt := right_trim hr low
        have hgt : getH (trimH l low) t = getH l t := get_trim (right_pair hr) (by omega)
        have H1 := Lib.hid (fun (wx : World) (hb : Below w.heap.size w wx) => F.trim l A c low la hr hlow wx (hl.below hb (Nat.le_refl _) hb.size) hb)
        have H2 := Lib.hid (F.get l A c t la hr ht)
        have H3 := Lib.hid (fun B d => F.get (trimH l low) B d t lt hrt ht)
        have H4 := Lib.hid (fun (B : Option Addr) (d : Nat) (wx : World) (h : ChH wx wx.heap.size B d (trimH l low)) (hb : Below w.heap.size w wx) => (K.right (trimH l low) B d wx lt h).mono fun _ _ q => (⟨q.1, hb.trans (q.2.mono hb.size)⟩ : _ ∧ Below w.heap.size w _))
        rw [hgt] at H3
        rw [hrt] at H4
        obtain ⟨g, hg⟩ : ∃ v, (getH l t).getD [] = v := ⟨_, rfl⟩
        obtain ⟨has, hhas⟩ : ∃ v, (getH l t).isSome = v := ⟨_, rfl⟩
        rw [hg, hhas] at H2 H3
        generalize hm : trimH l low = m at *
        have HC := Lib.hid hl
        clear F K hl fa la hr hm lt hgt hrt hg hhas hlt
        go_enter Try.func7, Try.ntmps7
        go_upto_region 3 with (first
          | (go_at_call 10; (with_reducible refine (HL.out _ (by assumption)).mono ?_); rintro r w' ⟨rfl, hb6⟩)
          | (go_at_call 11; (with_reducible refine (HFA.out _ (by assumption)).mono ?_); rintro r w' ⟨rfl, hb6⟩)
          | (go_at_call 12; (with_reducible refine (HR.out _ (by assumption)).mono ?_); rintro r w' ⟨rfl, hb6⟩))
        have HX1 := Lib.hid (H1.out _ hb6)
        clear HL HFA HR hb6 H1
        go_wp2_with fail
        refine HX1.out.mono ?_
        rintro r w1 ⟨B1, d1, rfl, s1, k1, _⟩
        have HX2 := Lib.hid (H2.out w1 (HC.out.below k1 (Nat.le_refl _) k1.size) k1)
        have HS1 := Lib.hid s1
        clear HX1 s1 k1 H2
        go_wp2_with fail
        refine HX2.out.mono ?_
        rintro r w2 ⟨B2, d2, rfl, s2, k2, k21⟩
        have HM2 := Lib.hid (HS1.out.below k21 (Nat.le_refl _) k21.size)
        have HX3 := Lib.hid (H3.out B1 d1 w2 HM2.out k2)
        have HS2 := Lib.hid s2
        clear HX2 s2 k2 k21 H3
        go_wp2_with fail
        refine HX3.out.mono ?_
        rintro r w3 ⟨B3, d3, rfl, s3, k3, k31⟩
        have HE := Lib.hid (equal_same B2 B3 d2 d3 g.length g.length _ _ _ _ g w3 rfl rfl ((HS2.out.below k31 (Nat.le_refl _) k31.size).2.2.2) s3.2.2.2)
        have HX4 := Lib.hid (H4.out B1 d1 w3 (HM2.out.below k31 (Nat.le_refl _) k31.size) k3)
        clear HX3 s3 k3 k31 H4
        cases has <;>
        · go_wp2_with (first
            | (go_at_call 23; (with_reducible refine HE.out.mono ?_); rintro r w' ⟨rfl, hw⟩; subst hw)
            | (go_at_call 12; (with_reducible refine HX4.out.mono ?_); rintro r w' ⟨rfl, hb7⟩))
          go_ret
          exact ⟨rfl, hb7⟩
    · have hr' : rightC l = false := by simpa using hr
      rw [hr'] at HR
      clear F K hl fa la hr hr'
      go_enter Try.func7, Try.ntmps7
      go_wp2_with (first
        | (go_at_call 10; (with_reducible refine (HL.out _ (by assumption)).mono ?_); rintro r w' ⟨rfl, hb6⟩)
        | (go_at_call 11; (with_reducible refine (HFA.out _ (by assumption)).mono ?_); rintro r w' ⟨rfl, hb6⟩)
        | (go_at_call 12; (with_reducible refine (HR.out _ (by assumption)).mono ?_); rintro r w' ⟨rfl, hb6⟩))
      go_ret
      exact ⟨rfl, hb6⟩
  · have fa' : fewH l = false := by simpa using fa
    rw [fa'] at HFA
    clear F K hl fa fa'
    go_enter Try.func7, Try.ntmps7
    go_wp2_with (first
      | (go_at_call 10; (with_reducible refine (HL.out _ (by assumption)).mono ?_); rintro r w' ⟨rfl, hb6⟩)
      | (go_at_call 11; (with_reducible refine (HFA.out _ (by assumption)).mono ?_); rintro r w' ⟨rfl, hb6⟩))
    go_ret
    exact ⟨rfl, hb6⟩
end chainReads
end Go.Proofs.Ytnfmgcgjinonnaa
