/-
  The walk of ChainTrims.
-/
import Derived.Test.YtnfmgcgjinonnaaHLaw
import Derived.Deep.DeepCutAuto
namespace Go.Proofs.Ytnfmgcgjinonnaa
open Go.RowKit

theorem trimH_len (l : List Ver) (low : Nat) : (trimH l low).length ≤ l.length + 1 := by
  have h := keep_len (findH l low) l low l.length
  rw [List.take_length] at h
  exact h
theorem trim_ok {l : List Ver} (h : fewH l = true) (low : Nat) : okLen (trimH l low) := by
  have h1 := (fewH_yes h).2
  have h2 := (fewH_len h).2
  have h3 := trimH_len l low
  have h4 := size_trim l low
  exact ⟨by omega, by omega⟩

namespace chainTrims
set_option maxRecDepth 100000 in
set_option maxHeartbeats 4000000 in
theorem walk (K : ChainC) (l : List Ver) (A : Option Addr) (c low : Nat) (w : World) (hlow : low < 18446744073709551616) (hl : ChH w w.heap.size A c l) :
    Calls Try.prog 6 #[.slice A l.length c, .int .u64 low] w fun r w' => r = .returned (.bool true) ∧ Below w.heap.size w w' := by
  have F := fromH K w
  have HL := Lib.hid F.live
  have HFA := Lib.hid (F.few l A c hl)
  have hb6 := Below.refl w.heap.size w
  by_cases fa : fewH l = true
  · have la := fewH_len fa
    have HR := Lib.hid (F.right2 l A c la hl)
    rw [fa] at HFA
    by_cases hr : rightC l = true
    · rw [hr] at HR
      have lt := trim_ok fa low
      have hle := (fewH_yes fa).2
      have H1 := Lib.hid (fun (wx : World) (hb : Below w.heap.size w wx) => F.trim l A c low la hr hlow wx (hl.below hb (Nat.le_refl _) hb.size) hb)
      have H2 := Lib.hid (F.trim2 l A c low la hl)
      generalize hm : trimH l low = m at *
      have LA := Lib.hid la
      have LT := Lib.hid lt
      have HLE := Lib.hid hle
      have HC := Lib.hid hl
      clear F K hl fa la hr hm lt hle
      go_enter Try.func6, Try.ntmps6
      go_upto_region 3 with (first
        | (go_at_call 10; (with_reducible refine (HL.out _ (by assumption)).mono ?_); rintro r w' ⟨rfl, hb6⟩)
        | (go_at_call 11; (with_reducible refine (HFA.out _ (by assumption)).mono ?_); rintro r w' ⟨rfl, hb6⟩)
        | (go_at_call 13; (with_reducible refine (HR.out _ (by assumption)).mono ?_); rintro r w' ⟨rfl, hb6⟩))
      have HB6 := Lib.hid hb6
      obtain ⟨hlc, hcm, hnil, ms, hms, hg, hok⟩ := HC.out.below hb6 (Nat.le_refl _) hb6.size
      have hml : ms.length = l.length := by rw [← hms, List.length_map]
      have HMS := Lib.hid hms
      have HOK := Lib.hid hok
      have HML := Lib.hid hml
      have HG := Lib.hid (hg.below ((Below.refl _ w').alloc (Nat.le_refl _) (.cells #[] 30)) (Nat.le_refl _))
      have HNIL := Lib.hid hnil
      clear hok hg hnil hms hb6 hml hlc hcm HL HFA HR
      go_upto_region 4 with (at_builtin; refine append_row _ rfl _ _ 22 30 40 mvF mvInfo Try.underlying22 rfl w'.heap.size _ [] rfl (OwnG.made w' 30 3 mvCells) 0 _ A l.length c ms rfl HML.out.symm HNIL.out HG.out (by have := HML.out; have := HLE.out; simp [maxLen]; omega) (by have := HML.out; have := HLE.out; simp; omega) (by simp) ?_; intro v1 w5 ho5 hg5; have HO5 := Lib.hid ho5; have HB5 := Lib.hid (((Below.refl _ w').alloc (Nat.le_refl _) (.cells #[] 30)).grown hg5 (by simp) (fun k hk => ((OwnG.made w' 30 3 mvCells).lt k hk).1)); clear ho5 hg5)
      obtain ⟨A9, c9, rfl, hch9⟩ := own_ch HO5.out (fun x hx => (HOK.out x hx).below HB5.out (Nat.le_refl _) (Nat.le_refl _)) HB5.out.size (by rw [List.nil_append, HMS.out])
      have hb7 := HB6.out.trans (HB5.out.mono HB6.out.size)
      have HB7 := Lib.hid hb7
      have HC5 := Lib.hid (HC.out.below hb7 (Nat.le_refl _) hb7.size)
      have HC9 := Lib.hid hch9
      have HX1 := Lib.hid (H1.out _ hb7)
      clear hch9 hb7 HO5 HB5 H1
      go_wp2_with fail
      refine HX1.out.mono ?_
      rintro r w6 ⟨B1, d1, rfl, s1, k1, k11⟩
      have HX2 := Lib.hid (H2.out _ k1)
      have HS1 := Lib.hid s1
      have HC5' := Lib.hid (HC5.out.below k11 (Nat.le_refl _) k11.size)
      have HC9' := Lib.hid (HC9.out.below k11 (Nat.le_refl _) k11.size)
      clear HX1 s1 k1 k11 HC5 HC9 H2
      go_wp2_with fail
      refine HX2.out.mono ?_
      rintro r w7 ⟨B2, d2, rfl, s2, k2, k21⟩
      have HX3 := Lib.hid (same_both LT.out (HS1.out.below k21 (Nat.le_refl _) k21.size) s2 k2)
      have HC57 := Lib.hid (HC5'.out.below k21 (Nat.le_refl _) k21.size)
      have HC97 := Lib.hid (HC9'.out.below k21 (Nat.le_refl _) k21.size)
      clear HX2 s2 k2 k21 HC5' HC9'
      go_wp2_with fail
      refine HX3.out.mono ?_
      rintro r w8 ⟨rfl, k3, k31⟩
      have HX4 := Lib.hid (same_both LA.out (HC57.out.below k31 (Nat.le_refl _) k31.size) (HC97.out.below k31 (Nat.le_refl _) k31.size) k3)
      clear HX3 k3 k31
      go_wp2_with fail
      refine HX4.out.mono ?_
      rintro r w9 ⟨rfl, k4, _⟩
      go_wp2_with fail
      go_ret
      exact ⟨rfl, k4⟩
    · have hr' : rightC l = false := by simpa using hr
      rw [hr'] at HR
      clear F K hl fa la hr hr'
      go_enter Try.func6, Try.ntmps6
      go_wp2_with (first
        | (go_at_call 10; (with_reducible refine (HL.out _ (by assumption)).mono ?_); rintro r w' ⟨rfl, hb6⟩)
        | (go_at_call 11; (with_reducible refine (HFA.out _ (by assumption)).mono ?_); rintro r w' ⟨rfl, hb6⟩)
        | (go_at_call 13; (with_reducible refine (HR.out _ (by assumption)).mono ?_); rintro r w' ⟨rfl, hb6⟩))
      go_ret
      exact ⟨rfl, hb6⟩
  · have fa' : fewH l = false := by simpa using fa
    rw [fa'] at HFA
    clear F K hl fa fa'
    go_enter Try.func6, Try.ntmps6
    go_wp2_with (first
      | (go_at_call 10; (with_reducible refine (HL.out _ (by assumption)).mono ?_); rintro r w' ⟨rfl, hb6⟩)
      | (go_at_call 11; (with_reducible refine (HFA.out _ (by assumption)).mono ?_); rintro r w' ⟨rfl, hb6⟩))
    go_ret
    exact ⟨rfl, hb6⟩
end chainTrims
end Go.Proofs.Ytnfmgcgjinonnaa
