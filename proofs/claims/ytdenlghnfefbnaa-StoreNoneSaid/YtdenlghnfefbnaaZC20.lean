import Derived.Test.YtdenlghnfefbnaaZC19
import Derived.Test.YtdenlghnfefbnaaZC11
import Derived.Deep.RegionHeld3
/-
  Chains, the document's own answers: SameOne, Same.
-/
namespace Go.Proofs.Ytdenlghnfefbnaa
open Go.RowKit

set_option maxRecDepth 100000 in
set_option maxHeartbeats 4000000 in
theorem refSameOne_any (x y : Ver) (A B : Option Addr) (c d : Nat) (w : World) (hx : Sl w w.heap.size A c x.dat) (hy : Sl w w.heap.size B d y.dat) :
    Calls Try.prog 50 #[verVal x A c, verVal y B d] w fun r w' => r = .returned (.bool (decide (x = y))) ∧ Below w.heap.size w w' := by
  obtain ⟨t1, g1, d1⟩ := x
  obtain ⟨t2, g2, d2⟩ := y
  simp only at hx hy
  have hb : Below w.heap.size w ((w.alloc (.cells #[.int .u64 t1, .bool g1, .slice A d1.length c] 72)).alloc (.cells #[.int .u64 t2, .bool g2, .slice B d2.length d] 72)) := ((Below.refl _ w).alloc (Nat.le_refl _) _).alloc (by simp) _
  have HB := Lib.hid hb
  have HX := Lib.hid (hx.2.2.2.below hb (Nat.le_refl _))
  have HY := Lib.hid (hy.2.2.2.below hb (Nat.le_refl _))
  clear hx hy hb
  unfold verVal
  by_cases ht : t1 = t2
  · subst ht
    have e1 : ((t1 : Int) == (t1 : Int)) = true := beq_self_eq_true _
    by_cases hg : g1 = g2
    · subst hg
      have HF := Lib.hid (show decide ((⟨t1, g1, d1⟩ : Ver) = ⟨t1, g1, d2⟩) = (d1 == d2) by
        rw [Bool.eq_iff_iff, decide_eq_true_iff, beq_iff_eq]
        simp)
      rw [HF.out]
      clear HF
      cases g1 <;>
      · go_enter Try.func50, Try.ntmps50
        go_wp2_with (go_at_call 32; refine (equal_any A B c d d1.length d2.length _ _ _ _ d1 d2 _ rfl rfl HX.out HY.out).mono ?_; rintro r w' ⟨rfl, hw⟩; subst hw)
        go_ret
        exact ⟨rfl, HB.out⟩
    · have HF := Lib.hid (show decide ((⟨t1, g1, d1⟩ : Ver) = ⟨t1, g2, d2⟩) = false by
        rw [decide_eq_false_iff_not]
        simp [hg])
      rw [HF.out]
      clear HF
      cases g1 <;> cases g2
      · exact absurd rfl hg
      · clear hg
        go_enter Try.func50, Try.ntmps50
        go_wp2
        go_ret
        exact ⟨rfl, HB.out⟩
      · clear hg
        go_enter Try.func50, Try.ntmps50
        go_wp2
        go_ret
        exact ⟨rfl, HB.out⟩
      · exact absurd rfl hg
  · have e1 : ((t1 : Int) == (t2 : Int)) = false := by rw [beq_eq_false_iff_ne]; omega
    have e2 : ¬ ((t1 : Int) = (t2 : Int)) := by omega
    have HF := Lib.hid (show decide ((⟨t1, g1, d1⟩ : Ver) = ⟨t2, g2, d2⟩) = false by
      rw [decide_eq_false_iff_not]
      simp [ht])
    rw [HF.out]
    clear HF ht
    go_enter Try.func50, Try.ntmps50
    go_wp2
    go_ret
    exact ⟨rfl, HB.out⟩

set_option maxRecDepth 100000 in
set_option maxHeartbeats 4000000 in
theorem refSameH_any (l m : List Ver) (A B : Option Addr) (c d : Nat) (w : World) (hl : l.length ≤ 9223372036854775807) (hm : m.length ≤ 9223372036854775807) (hr : RowH w w.heap.size A l) (hrm : RowH w w.heap.size B m) :
    Calls Try.prog 25 #[.slice A l.length c, .slice B m.length d] w fun r w' => r = .returned (.bool (sameH l m)) ∧ Below w.heap.size w w' := by
  by_cases hlen : l.length = m.length
  · have HR := Lib.hid hr
    have HRM := Lib.hid hrm
    rw [hlen]
    have HLen := Lib.hid hlen
    clear hr hrm hlen hl
    go_enter Try.func25, Try.ntmps25
    go_wp2
    go_loopg [13] m.length (fun q i wr => ∃ j : Nat, j + q = m.length ∧ i = .int .i64 j ∧ l.take j = m.take j ∧ Below w.heap.size w wr)
    case atStart => exact ⟨0, by omega, rfl, rfl, Below.refl _ _⟩
    case round =>
      obtain ⟨j, hk, rfl, hall, hb⟩ := hrel
      have HK := Lib.hid hk
      have HA := Lib.hid hall
      have HB := Lib.hid hb
      clear hall hb hk
      by_cases hjm : j < m.length
      · have hlt : decide ((j : Int) < (m.length : Int)) = true := by simpa using hjm
        have hlt3 : decide (j < m.length) = true := by simpa using hjm
        have hj : j < l.length := by rw [HLen.out]; exact hjm
        have HC := Lib.hid (fun (w' : World) (h : Below wr.heap.size wr w') => (HR.out.below (HB.out.trans (h.mono HB.out.size)) (Nat.le_refl _) (Nat.le_refl _)).at_ hj)
        have HD := Lib.hid (fun (w' : World) (h : Below wr.heap.size wr w') => (HRM.out.below (HB.out.trans (h.mono HB.out.size)) (Nat.le_refl _) (Nat.le_refl _)).at_ hjm)
        obtain ⟨b, o, A', c', rfl, hbl, c0, c1, c2, hs, _⟩ := (HR.out.below HB.out (Nat.le_refl _) (Nat.le_refl _)).at_ hj
        obtain ⟨b', o', B', d', rfl, hbl2, e0, e1, e2, hs2, _⟩ := (HRM.out.below HB.out (Nat.le_refl _) (Nat.le_refl _)).at_ hjm
        have HT1 := Lib.hid (show l.take (j + 1) = l.take j ++ [l[j]] from by rw [List.take_succ_eq_append_getElem hj])
        have HT2 := Lib.hid (show m.take (j + 1) = m.take j ++ [m[j]] from by rw [List.take_succ_eq_append_getElem hjm])
        have HNe := Lib.hid (fun (h : l[j] ≠ m[j]) => (show sameH l m = false by
          unfold sameH
          rw [decide_eq_false_iff_not]
          intro e
          subst e
          exact h rfl))
        have hsz := HB.out.size
        have HSz := Lib.hid hsz
        have HS : Hid (Sl wr wr.heap.size A' c' l[j].dat) := Lib.hid (hs.below (Below.refl _ _) (Nat.le_refl _) hsz)
        have HS2 : Hid (Sl wr wr.heap.size B' d' m[j].dat) := Lib.hid (hs2.below (Below.refl _ _) (Nat.le_refl _) hsz)
        have HL1 := Lib.hid (Nat.lt_of_lt_of_le hbl hsz)
        have HL2 := Lib.hid (Nat.lt_of_lt_of_le hbl2 hsz)
        clear hs hs2 hbl hbl2 hsz HC HD
        generalize l[j] = x at *
        generalize m[j] = y at *
        obtain ⟨t1, g1, d1⟩ := x
        obtain ⟨t2, g2, d2⟩ := y
        simp only at c0 c1 c2 e0 e1 e2 HS HS2
        have KEEP : Hid (∀ w', Below wr.heap.size wr w' → w'.cell? ⟨b, o + j * 3, none⟩ = some (.int .u64 t1) ∧ w'.cell? ⟨b, o + j * 3 + 1, none⟩ = some (.bool g1) ∧ w'.cell? ⟨b, o + j * 3 + 2, none⟩ = some (.slice A' d1.length c') ∧ w'.cell? ⟨b', o' + j * 3, none⟩ = some (.int .u64 t2) ∧ w'.cell? ⟨b', o' + j * 3 + 1, none⟩ = some (.bool g2) ∧ w'.cell? ⟨b', o' + j * 3 + 2, none⟩ = some (.slice B' d2.length d') ∧ Below wr.heap.size wr w') := Lib.hid (fun w' h =>
          ⟨(h.cell (p := ⟨b, o + j * 3, none⟩) HL1.out).trans c0, (h.cell (p := ⟨b, o + j * 3 + 1, none⟩) HL1.out).trans c1, (h.cell (p := ⟨b, o + j * 3 + 2, none⟩) HL1.out).trans c2, (h.cell (p := ⟨b', o' + j * 3, none⟩) HL2.out).trans e0, (h.cell (p := ⟨b', o' + j * 3 + 1, none⟩) HL2.out).trans e1, (h.cell (p := ⟨b', o' + j * 3 + 2, none⟩) HL2.out).trans e2, h⟩)
        have HCall : Hid (∀ w', Below wr.heap.size wr w' → Calls Try.prog 50 #[.agg #[.int .u64 t1, .bool g1, .slice A' d1.length c'], .agg #[.int .u64 t2, .bool g2, .slice B' d2.length d']] w' fun r w'' => r = .returned (.bool (decide ((⟨t1, g1, d1⟩ : Ver) = ⟨t2, g2, d2⟩))) ∧ Below wr.heap.size wr w'') := Lib.hid (fun w' h =>
          (refSameOne_any ⟨t1, g1, d1⟩ ⟨t2, g2, d2⟩ A' B' c' d' w' (HS.out.below h (Nat.le_refl _) h.size) (HS2.out.below h (Nat.le_refl _) h.size)).mono fun _ _ q => ⟨q.1, h.trans (q.2.mono h.size)⟩)
        generalize hE : decide ((⟨t1, g1, d1⟩ : Ver) = ⟨t2, g2, d2⟩) = E at *
        have HE := Lib.hid hE
        clear hE
        cases E
        · have HF := Lib.hid (HNe.out (of_decide_eq_false HE.out))
          go_wp2
          go_region_held3 (fun w' => w'.cell? ⟨b, o + j * 3, none⟩ = some (.int .u64 t1) ∧ w'.cell? ⟨b, o + j * 3 + 1, none⟩ = some (.bool g1) ∧ w'.cell? ⟨b, o + j * 3 + 2, none⟩ = some (.slice A' d1.length c') ∧ w'.cell? ⟨b', o' + j * 3, none⟩ = some (.int .u64 t2) ∧ w'.cell? ⟨b', o' + j * 3 + 1, none⟩ = some (.bool g2) ∧ w'.cell? ⟨b', o' + j * 3 + 2, none⟩ = some (.slice B' d2.length d') ∧ Below wr.heap.size wr w')
            (first | with_reducible exact KEEP.out _ hb6 | with_reducible exact KEEP.out _ (Below.refl _ _).drew)
            ((go_at_call 50; refine (HCall.out _ (by go_split_ands; assumption)).mono ?_; rintro r w' ⟨rfl, hb6⟩))
          go_wp2_with fail
          go_ret
          rw [HF.out]
          exact ⟨rfl, HB.out.trans (hb6.mono HB.out.size)⟩
        · have HF := Lib.hid (of_decide_eq_true HE.out)
          go_wp2
          go_region_held3 (fun w' => w'.cell? ⟨b, o + j * 3, none⟩ = some (.int .u64 t1) ∧ w'.cell? ⟨b, o + j * 3 + 1, none⟩ = some (.bool g1) ∧ w'.cell? ⟨b, o + j * 3 + 2, none⟩ = some (.slice A' d1.length c') ∧ w'.cell? ⟨b', o' + j * 3, none⟩ = some (.int .u64 t2) ∧ w'.cell? ⟨b', o' + j * 3 + 1, none⟩ = some (.bool g2) ∧ w'.cell? ⟨b', o' + j * 3 + 2, none⟩ = some (.slice B' d2.length d') ∧ Below wr.heap.size wr w')
            (first | with_reducible exact KEEP.out _ hb6 | with_reducible exact KEEP.out _ (Below.refl _ _).drew)
            ((go_at_call 50; refine (HCall.out _ (by go_split_ands; assumption)).mono ?_; rintro r w' ⟨rfl, hb6⟩))
          go_wp2_with fail
          go_roundg (gk - 1)
          case measure => have := HK.out; omega
          case rel => exact ⟨j + 1, by have := HK.out; omega, by go_num, by rw [HT1.out, HT2.out, HA.out, HF.out], HB.out.trans (hb6.mono HB.out.size)⟩
      · have hj' : j = m.length := by have := HK.out; omega
        have hlt : decide ((j : Int) < (m.length : Int)) = false := by simpa using hjm
        have HF := Lib.hid (show sameH l m = true by
          have h := HA.out
          rw [hj', List.take_length, ← HLen.out, List.take_length] at h
          unfold sameH
          rw [decide_eq_true_iff]
          exact h)
        clear hj'
        go_wp2
        go_ret
        rw [HF.out]
        exact ⟨rfl, HB.out⟩
  · have hle : ((l.length : Int) == (m.length : Int)) = false := by rw [beq_eq_false_iff_ne]; omega
    have hle2 : ((l.length : Int) != (m.length : Int)) = true := by rw [bne, hle]; rfl
    have e : sameH l m = false := by unfold sameH; rw [decide_eq_false_iff_not]; intro e; exact hlen (by rw [e])
    rw [e]
    clear e hlen hr hrm
    go_enter Try.func25, Try.ntmps25
    go_wp2
    go_ret
    exact ⟨rfl, Below.refl _ _⟩
end Go.Proofs.Ytdenlghnfefbnaa
