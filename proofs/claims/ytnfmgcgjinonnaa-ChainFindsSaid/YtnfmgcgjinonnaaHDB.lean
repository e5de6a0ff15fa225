/-
  Package chain: Same, by slices.EqualFunc.
-/
import Derived.Test.YtnfmgcgjinonnaaHDA
import Derived.Laws.Cover1
import Derived.Deep.LoopGhost
import Derived.Shelf.Abstract
import Derived.Lib.SliceRun
namespace Go.Proofs.Ytnfmgcgjinonnaa
open Go.RowKit

set_option maxRecDepth 100000 in
set_option maxHeartbeats 4000000 in
theorem dEqFunc_any (l m : List Ver) (A B : Option Addr) (c d : Nat) (w : World) (hl : l.length ≤ 9223372036854775807) (hm : m.length ≤ 9223372036854775807) (hr : RowH w w.heap.size A l) (hrm : RowH w w.heap.size B m) :
    Calls Try.prog 31 #[.slice A l.length c, .slice B m.length d, .func (.func 32) #[] #[]] w fun r w' => r = .returned (.bool (sameH l m)) ∧ Below w.heap.size w w' := by
  have eg : ∀ args w, (callFunc 32 args).run Try.prog w = .ok (.enter 32 args) w := enters_of Try.func32 (by kernel_rfl) rfl
  by_cases hlen : l.length = m.length
  · have HR := Lib.hid hr
    have HRM := Lib.hid hrm
    rw [hlen]
    have HLen := Lib.hid hlen
    clear hr hrm hlen hl
    go_enter Try.func31, Try.ntmps31
    go_wp2
    go_loopg [7, 17] m.length (fun q _ i wr => ∃ j : Nat, j + q = m.length ∧ i = .int .i64 j ∧ l.take j = m.take j ∧ Below w.heap.size w wr)
    case atStart => exact ⟨0, by omega, rfl, rfl, Below.refl _ _⟩
    case round =>
      obtain ⟨j, hk, rfl, hall, hb⟩ := hrel
      have HK := Lib.hid hk
      have HA := Lib.hid hall
      have HB := Lib.hid hb
      clear hall hb hk
      by_cases hjm : j < m.length
      · have hlt : decide ((j : Int) < (m.length : Int)) = true := by simpa using hjm
        have hlt3 : decide (j < m.length) = true := by simpa using hjm
        have hj : j < l.length := by rw [HLen.out]; exact hjm
        have HC := Lib.hid (fun (w' : World) (h : Below wr.heap.size wr w') => (HR.out.below (HB.out.trans (h.mono HB.out.size)) (Nat.le_refl _) (Nat.le_refl _)).at_ hj)
        have HD := Lib.hid (fun (w' : World) (h : Below wr.heap.size wr w') => (HRM.out.below (HB.out.trans (h.mono HB.out.size)) (Nat.le_refl _) (Nat.le_refl _)).at_ hjm)
        obtain ⟨b, o, A', c', rfl, hbl, c0, c1, c2, hs, _⟩ := (HR.out.below HB.out (Nat.le_refl _) (Nat.le_refl _)).at_ hj
        obtain ⟨b', o', B', d', rfl, hbl2, e0, e1, e2, hs2, _⟩ := (HRM.out.below HB.out (Nat.le_refl _) (Nat.le_refl _)).at_ hjm
        have HT1 := Lib.hid (show l.take (j + 1) = l.take j ++ [l[j]] from by rw [List.take_succ_eq_append_getElem hj])
        have HT2 := Lib.hid (show m.take (j + 1) = m.take j ++ [m[j]] from by rw [List.take_succ_eq_append_getElem hjm])
        have HNe := Lib.hid (fun (h : l[j] ≠ m[j]) => (show sameH l m = false by
          unfold sameH
          rw [decide_eq_false_iff_not]
          intro e
          subst e
          exact h rfl))
        have hsz := HB.out.size
        have HSz := Lib.hid hsz
        have HS : Hid (Sl wr wr.heap.size A' c' l[j].dat) := Lib.hid (hs.below (Below.refl _ _) (Nat.le_refl _) hsz)
        have HS2 : Hid (Sl wr wr.heap.size B' d' m[j].dat) := Lib.hid (hs2.below (Below.refl _ _) (Nat.le_refl _) hsz)
        have HL1 := Lib.hid (Nat.lt_of_lt_of_le hbl hsz)
        have HL2 := Lib.hid (Nat.lt_of_lt_of_le hbl2 hsz)
        clear hs hs2 hbl hbl2 hsz HC HD
        generalize l[j] = x at *
        generalize m[j] = y at *
        obtain ⟨t1, g1, d1⟩ := x
        obtain ⟨t2, g2, d2⟩ := y
        simp only at c0 c1 c2 e0 e1 e2 HS HS2
        have hba : Below wr.heap.size wr ((wr.alloc (.cells #[.int .u64 t1, .bool g1, .slice A' d1.length c'] 30)).alloc (.cells #[.int .u64 t2, .bool g2, .slice B' d2.length d'] 30)) := ((Below.refl _ wr).alloc (Nat.le_refl _) _).alloc (by simp) _
        have HCall := Lib.hid (dSameOne_any ⟨t1, g1, d1⟩ ⟨t2, g2, d2⟩ A' B' c' d' ((wr.alloc (.cells #[.int .u64 t1, .bool g1, .slice A' d1.length c'] 30)).alloc (.cells #[.int .u64 t2, .bool g2, .slice B' d2.length d'] 30)) (HS.out.below hba (Nat.le_refl _) hba.size) (HS2.out.below hba (Nat.le_refl _) hba.size))
        unfold verVal at HCall
        simp only at HCall
        have HBA := Lib.hid (HB.out.trans (hba.mono HB.out.size))
        clear hba
        have ea0 := Lib.cell?_alloc_some (.cells #[.int .u64 t1, .bool g1, .slice A' d1.length c'] 30) e0
        have ea1 := Lib.cell?_alloc_some (.cells #[.int .u64 t1, .bool g1, .slice A' d1.length c'] 30) e1
        have ea2 := Lib.cell?_alloc_some (.cells #[.int .u64 t1, .bool g1, .slice A' d1.length c'] 30) e2
        generalize hE : decide ((⟨t1, g1, d1⟩ : Ver) = ⟨t2, g2, d2⟩) = E at *
        have HE := Lib.hid hE
        clear hE
        cases E
        · have HF := Lib.hid (HNe.out (of_decide_eq_false HE.out))
          go_wp2_with (go_at_fn 32; refine HCall.out.mono ?_; rintro r w' ⟨rfl, hb6⟩)
          go_ret
          rw [HF.out]
          exact ⟨rfl, HBA.out.trans (hb6.mono HBA.out.size)⟩
        · have HF := Lib.hid (of_decide_eq_true HE.out)
          go_wp2_with (go_at_fn 32; refine HCall.out.mono ?_; rintro r w' ⟨rfl, hb6⟩)
          go_roundg (gk - 1)
          case measure => have := HK.out; omega
          case rel => exact ⟨j + 1, by have := HK.out; omega, by go_num, by rw [HT1.out, HT2.out, HA.out, HF.out], HBA.out.trans (hb6.mono HBA.out.size)⟩
      · have hj' : j = m.length := by have := HK.out; omega
        have hlt : decide ((j : Int) < (m.length : Int)) = false := by simpa using hjm
        have HF := Lib.hid (show sameH l m = true by
          have h := HA.out
          rw [hj', List.take_length, ← HLen.out, List.take_length] at h
          unfold sameH
          rw [decide_eq_true_iff]
          exact h)
        clear hj'
        go_wp2
        go_ret
        rw [HF.out]
        exact ⟨rfl, HB.out⟩
  · have hle : ((l.length : Int) == (m.length : Int)) = false := by rw [beq_eq_false_iff_ne]; omega
    have hle2 : ((l.length : Int) != (m.length : Int)) = true := by rw [bne, hle]; rfl
    have e : sameH l m = false := by unfold sameH; rw [decide_eq_false_iff_not]; intro e; exact hlen (by rw [e])
    rw [e]
    clear e hlen hr hrm
    go_enter Try.func31, Try.ntmps31
    go_wp2
    go_ret
    exact ⟨rfl, Below.refl _ _⟩

theorem dSame_any (l m : List Ver) (A B : Option Addr) (c d : Nat) (w : World) (hl : l.length ≤ 9223372036854775807) (hm : m.length ≤ 9223372036854775807) (hr : RowH w w.heap.size A l) (hrm : RowH w w.heap.size B m) :
    Calls Try.prog 16 #[.slice A l.length c, .slice B m.length d] w fun r w' => r = .returned (.bool (sameH l m)) ∧ Below w.heap.size w w' := by
  have HC := Lib.hid (dEqFunc_any l m A B c d w hl hm hr hrm)
  clear hr hrm
  go_enter Try.func16, Try.ntmps16
  go_wp2_with (go_at_call 31; refine HC.out.mono ?_; rintro e w' ⟨rfl, hb'⟩)
  go_ret
  exact ⟨rfl, hb'⟩
end Go.Proofs.Ytnfmgcgjinonnaa
