/-
  Package chain: Trim, Put; the contracts.
-/
import Derived.Test.YtnfmgcgjinonnaaHDE
import Derived.Deep.DeepCutAuto
import Derived.Deep.RegionHeld3
import Derived.Deep.RegionWith
namespace Go.Proofs.Ytnfmgcgjinonnaa
open Go.RowKit

theorem okLen.each {l : List Ver} (h : okLen l) : ∀ x ∈ l, x.dat.length ≤ 4294967296 := fun x hx => Nat.le_trans (size_mem hx) h.2
set_option maxRecDepth 100000 in
set_option maxHeartbeats 4000000 in
theorem dTrim_any (l : List Ver) (A : Option Addr) (c low : Nat) (w : World) (hk : okLen l) (hr : ChH w w.heap.size A c l) (hri : rightC l = true) :
    Calls Try.prog 28 #[.slice A l.length c, .int .u64 low] w (RetCh (trimH l low) w) := by
  have HUp := Lib.hid (dUpTo_any l A c low w.heap.size w hk.1 hr.2.2.2 (Nat.le_refl _) (right_pairD hri))
  have HCut : Hid (∀ (j : Nat) (W : World), j ≤ l.length → Calls Try.prog 37 #[.slice A l.length c, .int .i64 j] W fun r w' => r = .returned (.slice (cutA A l.length j) (l.length - j) (l.length - j)) ∧ W = w') := Lib.hid fun j W hj => dCut_any l.length A c j W (by have := hk.1; omega) hr.1 hj
  have HOwn : Hid (∀ (j : Nat) (W : World), j ≤ l.length → trimH l low = l.drop j → Below w.heap.size w W → Calls Try.prog 36 #[.slice (cutA A l.length j) (l.length - j) (l.length - j)] W (RetCh (trimH l low) w)) := Lib.hid fun j W hj he hb => by
    have h := dOwned_any (l.drop j) (cutA A l.length j) (l.length - j) w.heap.size W (by rw [List.length_drop]; have := hk.1; omega) (fun x hx => hk.each x (List.mem_of_mem_drop hx)) ((hr.2.2.2.below hb (Nat.le_refl _) (Nat.le_refl _)).drop j hj) hb.size
    rw [List.length_drop] at h
    rw [he]
    exact h.mono fun _ _ ⟨A9, c9, e, hc, hb2⟩ => ⟨A9, c9, e, hc, hb.trans (hb2.mono hb.size)⟩
  have HR := Lib.hid hr.2.2.2
  have HK := Lib.hid hk
  have HTR : Hid (trimH l low = keepH (findH l low) ++ l.filter fun v => decide (low < v.tm)) := Lib.hid rfl
  generalize trimH l low = T at *
  clear hr hri hk
  go_enter Try.func28, Try.ntmps28
  go_wp2_with fail
  refine HUp.out.mono ?_
  rintro r w1 ⟨⟨m, rfl, hsp⟩, hb⟩
  have HSP := Lib.hid hsp
  have HB := Lib.hid hb
  have hml : m ≤ l.length := hsp.1
  have hml2 : m ≤ 4294967296 := Nat.le_trans hml HK.out.1
  clear hsp hb HUp
  rcases Nat.eq_zero_or_pos m with rfl | hm
  · have HT := Lib.hid (show T = l.drop 0 by rw [HTR.out, HSP.out.none_, HSP.out.behind]; rfl)
    have e1 : decide ((0 : Int) < 0) = false := rfl
    go_wp2_with fail
    refine (HCut.out 0 w1 (Nat.zero_le _)).mono ?_
    rintro r w2 ⟨rfl, rfl⟩
    go_wp2_with fail
    refine (HOwn.out 0 _ (Nat.zero_le _) HT.out HB.out).mono ?_
    rintro r w3 ⟨A9, c9, rfl, h9⟩
    go_wp2_with fail
    go_ret
    exact ⟨A9, c9, rfl, h9⟩
  · obtain ⟨k, hk⟩ : ∃ k, m = k + 1 := ⟨m - 1, by omega⟩
    have hkl : k < l.length := by omega
    have hf : findH l low = some (l[k]'hkl) := SplitH.some_ (by rw [← hk]; exact HSP.out)
    have d1 : decide (0 < (m : Int)) = true := by rw [decide_eq_true_iff]; omega
    have d2 : decide (0 < m) = true := by rw [decide_eq_true_iff]; omega
    have e4 : (m : Int) - 1 = (k : Int) := by omega
    have hdm : decide ((k : Int) < (l.length : Int)) = true := by rw [decide_eq_true_iff]; omega
    have hdm2 : decide (k < l.length) = true := by rw [decide_eq_true_iff]; omega
    obtain ⟨b, o, A', c', rfl, _, c0, c1, c2, hs, htm⟩ := (HR.out.below HB.out (Nat.le_refl _) (Nat.le_refl _)).at_ hkl
    have HD := Lib.hid (show l.drop k = l[k]'hkl :: l.drop m by rw [hk]; exact List.drop_eq_getElem_cons hkl)
    have HF := Lib.hid hf
    have hkm : k ≤ l.length := by omega
    clear hs htm hf hk
    generalize l[k] = x at *
    obtain ⟨tm, gone, dat⟩ := x
    simp only at c0 c1 c2
    cases gone
    · have HT := Lib.hid (show T = l.drop k by rw [HTR.out, HF.out, HSP.out.behind, HD.out]; rfl)
      go_wp2_with fail
      refine (HCut.out k w1 hkm).mono ?_
      rintro r w2 ⟨rfl, rfl⟩
      go_wp2_with fail
      refine (HOwn.out k _ hkm HT.out HB.out).mono ?_
      rintro r w3 ⟨A9, c9, rfl, h9⟩
      go_wp2_with fail
      go_ret
      exact ⟨A9, c9, rfl, h9⟩
    · have HT := Lib.hid (show T = l.drop m by rw [HTR.out, HF.out, HSP.out.behind]; rfl)
      go_wp2_with fail
      refine (HCut.out m w1 hml).mono ?_
      rintro r w2 ⟨rfl, rfl⟩
      go_wp2_with fail
      refine (HOwn.out m _ hml HT.out HB.out).mono ?_
      rintro r w3 ⟨A9, c9, rfl, h9⟩
      go_wp2_with fail
      go_ret
      exact ⟨A9, c9, rfl, h9⟩
end Go.Proofs.Ytnfmgcgjinonnaa
