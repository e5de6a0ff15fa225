import Derived.Test.YtooegjdppeiccaaZC43
import Derived.Test.YtooegjdppeiccaaZC08
import Derived.BigQuiet
import Derived.Deep.QuietTactic
import Derived.Deep.LoopGhost
import Derived.RegionTactic
import Derived.Deep.RegionHeld3
/-
  The statements' own helper: an operation, done by the document.
-/
namespace Go.Proofs.Ytooegjdppeiccaa
open Go.RowKit

set_option maxRecDepth 100000 in
set_option maxHeartbeats 8000000 in
theorem should_any (o : OpS) (A : Option Addr) (c p : Nat) (S : Nat → Prop) (L : LimS) (m r v : Int) (st : PS) (hi : Nat) (w : World) (hst : RefC w p S L m r v st) (hok : OkS st) (hin : InS L st) (hmay : MayS L = true) (hlast : L.last < 18446744073709551616) (hp : ¬ S p) (hS : ∀ b, w.heap.size ≤ b → S b)
    (hw : okW o.l) (harg : OkMO w hi ⟨o, A, c⟩) (hsz : hi ≤ w.heap.size) (hSW : ∀ b, b < hi → S b) :
    Calls Try.prog 17 #[ptrS p, opVal o A c] w (ShouldQ w p S L m r v st o) := by
  obtain ⟨what, ws, low, tm, klo, khi⟩ := o
  obtain ⟨hwh, hlow, htm, _, _, hch⟩ := harg
  simp only at hwh hlow htm hch hw
  obtain ⟨w0, hw0⟩ : ∃ y, w.alloc (.cells #[.int .i64 what, .slice A ws.length c, .int .u64 low, .int .u64 tm, .string (bs klo), .string (bs khi)] 39) = y := ⟨_, rfl⟩
  obtain ⟨w1, hw1⟩ : ∃ y, w0.alloc (.cells #[.int .u64 0, .int .i64 0, .slice none 0 0, .bool false, .slice none 0 0] 44) = y := ⟨_, rfl⟩
  have s0 : w0.heap.size = w.heap.size + 1 := by rw [← hw0]; simp
  have s1 : w1.heap.size = w.heap.size + 2 := by rw [← hw1]; simp [s0]
  have b0 : Below w.heap.size w w0 := by rw [← hw0]; exact (Below.refl _ w).alloc (Nat.le_refl _) _
  have b1 : Below w.heap.size w w1 := b0.trans (by rw [← hw1]; exact (Below.refl _ w0).alloc (by omega) _)
  have h0 : w1.heap[w.heap.size]? = some (.cells #[.int .i64 what, .slice A ws.length c, .int .u64 low, .int .u64 tm, .string (bs klo), .string (bs khi)] 39 (0, 0)) := by
    rw [← hw1]; exact heap_allocs (by rw [← hw0]; exact heap_alloc_new w _) _
  have h1 : w1.heap[w.heap.size + 1]? = some (.cells #[.int .u64 0, .int .i64 0, .slice none 0 0, .bool false, .slice none 0 0] 44 (0, 0)) := by
    rw [← hw1, ← s0]; exact heap_alloc_new w0 _
  obtain ⟨A1, cc1, os1, hrm, hrk⟩ := hst
  have hplt := hrm.lt
  have hrm1 : RefM w1 p (fun b => S b ∧ b ≠ w.heap.size + 1) L m r v st.time A1 cc1 os1 := hrm.keep (b1.block p hplt) fun g hg hlt => ⟨b1.block g hlt, hg, by omega⟩
  have hT : ∀ b, w1.heap.size ≤ b → S b ∧ b ≠ w.heap.size + 1 := fun b hb => ⟨hS b (by omega), by omega⟩
  have hpT : ¬ (S p ∧ p ≠ w.heap.size + 1) := fun h => hp h.1
  have hsm := small_of hmay hin
  have hinC : InS L ⟨st.time, collectS st.K low⟩ := ⟨fits_collect hok.sort hok.full low hin.1, hin.2⟩
  have hsmC := small_of hmay hinC
  have HCom := Lib.hid (refCommit_any p (fun b => S b ∧ b ≠ w.heap.size + 1) L m r v st A1 cc1 os1 ws hi A c low w1 hrm1 hrk hok hin hmay hlast hpT hT hw.1 (hch.below b1 hsz (Nat.le_refl _)) (by omega) (fun b hb => ⟨hSW b hb, by omega⟩))
  have HCol := Lib.hid (refCollect_any p (fun b => S b ∧ b ≠ w.heap.size + 1) L m r v st.time A1 cc1 os1 st.K low w1 hrm1 hrk hpT hT hok.sort hok.full hsm.len hsm.vers hsm.byts (vers_collect hok low) hsmC.byts)
  have HRd := Lib.hid (refReadS_any p (fun b => S b ∧ b ≠ w.heap.size + 1) L m r v st.time A1 cc1 os1 klo tm w1 hrm1)
  have hol1 : os1.length ≤ 2097152 := by
    have h9 : os1.length = st.K.length := by rw [← hrk, List.length_map]
    have := hsm.len
    omega
  have HSc := Lib.hid (refScan_any p (fun b => S b ∧ b ≠ w.heap.size + 1) L m r v st.time A1 cc1 os1 klo khi tm w1 hol1 hrm1)
  have HLa : Hid (∀ W, Below w1.heap.size w1 W → Calls Try.prog 68 #[ptrS p, .string (bs klo)] W fun r w' => r = .returned (.int .u64 (lastH (chainS st.K klo) : Nat)) ∧ Below W.heap.size W w') := Lib.hid fun W hb => by
    have h9 := refLatest_any p (fun b => S b ∧ b ≠ w.heap.size + 1) L m r v st.time A1 cc1 os1 klo W (hrm1.below hb)
    rw [hrk] at h9
    exact h9
  rw [hrk] at HRd HSc
  have HRm := Lib.hid hrm1
  have HRk := Lib.hid hrk
  have HPlt := Lib.hid hplt
  unfold ptrS at HCom HCol HLa
  have HS1 := Lib.hid s1
  have HB1 := Lib.hid b1
  have H1 := Lib.hid h1
  have HW0 := Lib.hid hw0
  have HW1 := Lib.hid hw1
  have c0 := cell_of_row w1 _ 0 _ _ _ h0
  have c1 := cell_of_row w1 _ 1 _ _ _ h0
  have c2 := cell_of_row w1 _ 2 _ _ _ h0
  have c3 := cell_of_row w1 _ 3 _ _ _ h0
  have c4 := cell_of_row w1 _ 4 _ _ _ h0
  have c5 := cell_of_row w1 _ 5 _ _ _ h0
  have H0 := Lib.hid h0
  have HVer := Lib.hid (Nat.sub_le (versS st.K) (versS (collectS st.K low)))
  have HBig := Lib.hid hsm
  have HD : Hid (doesS L st ⟨what, ws, low, tm, klo, khi⟩ = if what = 0 then ((commitS L st ws low).1, ⟨(commitS L st ws low).2.1, (commitS L st ws low).2.2, [], false, []⟩)
    else if what = 1 then (⟨st.time, collectS st.K low⟩, ⟨versS st.K - versS (collectS st.K low), 0, [], false, []⟩)
    else if what = 2 then (st, ⟨lastH (chainS st.K klo), 0, (readS st.K klo tm).getD [], (readS st.K klo tm).isSome, []⟩)
    else if what = 3 then (st, ⟨0, 0, [], false, scanS st.K klo khi tm⟩)
    else (st, told0)) := Lib.hid rfl
  clear hrm hrk hok hin hmay hlast hp hS hw hch hsz hSW hw0 hw1 s0 s1 b0 b1 h0 h1 hplt hrm1 hT hpT hsm hinC hsmC hol1 hlow htm
  unfold opVal ptrS
  simp only
  by_cases k0 : what = 0
  · rw [k0, if_pos rfl] at HD
    have e0 : (what == 0) = true := by rw [k0]; rfl
    subst k0
    go_enter Try.func17, Try.ntmps17
    go_upto_region 1 with fail
    rw [HW0.out, HW1.out]
    clear HW0 HW1
    go_wp2_with fail
    refine HCom.out.mono ?_
    rintro e9 w2 ⟨rfl, hst2, hm2⟩
    have hx : w2.heap[w.heap.size + 1]? = _ := (hm2.block _ (by have := HS1.out; omega) (fun hk => by have e2 : w.heap.size + 1 = p := hk; have := HPlt.out; omega)).trans H1.out
    have f0 := frozen_of hx 0
    have f1 := frozen_of hx 1
    have f2 := frozen_of hx 2
    have f3 := frozen_of hx 3
    have f4 := frozen_of hx 4
    have z0 := cell_of_row w2 _ 0 _ _ _ hx
    have z1 := cell_of_row w2 _ 1 _ _ _ hx
    have z2 := cell_of_row w2 _ 2 _ _ _ hx
    have z3 := cell_of_row w2 _ 3 _ _ _ hx
    have z4 := cell_of_row w2 _ 4 _ _ _ hx
    have HX := Lib.hid hx
    have HQ := Lib.hid (And.intro hst2 hm2)
    clear hx hst2 hm2 c0 c1 c2 c3 c4 c5 HCom HCol HRd HSc HLa
    go_wp2_with fail
    have HZ := Lib.hid (box5_set HX.out (.int .u64 (commitS L st ws low).2.1) (.int .i64 (commitS L st ws low).2.2) (.slice none 0 0) (.bool false) (.slice none 0 0))
    have t0 := cell_of_row _ _ 0 _ _ _ HZ.out
    have t1 := cell_of_row _ _ 1 _ _ _ HZ.out
    have t2 := cell_of_row _ _ 2 _ _ _ HZ.out
    have t3 := cell_of_row _ _ 3 _ _ _ HZ.out
    have t4 := cell_of_row _ _ 4 _ _ _ HZ.out
    refine bodyPost_ret (v := toldVal ⟨(commitS L st ws low).2.1, (commitS L st ws low).2.2, [], false, []⟩ none 0 none 0) (by simp [results, Try.results17, go_sem, t0, t1, t2, t3, t4]; rfl) rfl ?_
    obtain ⟨hst2, hm2⟩ := HQ.out
    refine should_end HB1.out HS1.out (by rw [HD.out]; exact hst2) hm2 HPlt.out HX.out (A := none) (B := none) (c := 0) (d := 0) (by rw [HD.out]; exact ⟨SlI.none_ _ _ _, ChP.none_ _ _ _⟩) (box5_same _ _ _ _ _ _ _) (fun g hg => box5_other hg _ _ _ _ _) (by rw [HD.out])
  · rw [if_neg k0] at HD
    have n0 : (what == 0) = false := by rw [beq_eq_false_iff_ne]; exact k0
    by_cases k1 : what = 1
    · rw [if_pos k1] at HD
      subst k1
      obtain ⟨n, hn⟩ : ∃ n, versS st.K - versS (collectS st.K low) = n := ⟨_, rfl⟩
      rw [hn] at HD HCol
      have hn2 : n ≤ 1048576 := by have := HVer.out; have := HBig.out.vers; omega
      clear hn
      go_enter Try.func17, Try.ntmps17
      go_upto_region 1 with fail
      rw [HW0.out, HW1.out]
      clear HW0 HW1
      go_wp2_with fail
      refine HCol.out.mono ?_
      rintro e9 w2 ⟨rfl, hst2, hm2⟩
      have hx : w2.heap[w.heap.size + 1]? = _ := (hm2.block _ (by have := HS1.out; omega) (fun hk => by have e2 : w.heap.size + 1 = p := hk; have := HPlt.out; omega)).trans H1.out
      have f0 := frozen_of hx 0
      have f1 := frozen_of hx 1
      have f2 := frozen_of hx 2
      have f3 := frozen_of hx 3
      have f4 := frozen_of hx 4
      have z0 := cell_of_row w2 _ 0 _ _ _ hx
      have z1 := cell_of_row w2 _ 1 _ _ _ hx
      have z2 := cell_of_row w2 _ 2 _ _ _ hx
      have z3 := cell_of_row w2 _ 3 _ _ _ hx
      have z4 := cell_of_row w2 _ 4 _ _ _ hx
      have HX := Lib.hid hx
      have HQ := Lib.hid (And.intro hst2 hm2)
      clear hx hst2 hm2 c0 c1 c2 c3 c4 c5 HCom HCol HRd HSc HLa
      go_wp2_with fail
      have HZ := Lib.hid (box5_set HX.out (.int .u64 n) (.int .i64 0) (.slice none 0 0) (.bool false) (.slice none 0 0))
      have t0 := cell_of_row _ _ 0 _ _ _ HZ.out
      have t1 := cell_of_row _ _ 1 _ _ _ HZ.out
      have t2 := cell_of_row _ _ 2 _ _ _ HZ.out
      have t3 := cell_of_row _ _ 3 _ _ _ HZ.out
      have t4 := cell_of_row _ _ 4 _ _ _ HZ.out
      refine bodyPost_ret (v := toldVal ⟨n, 0, [], false, []⟩ none 0 none 0) (by simp [results, Try.results17, go_sem, t0, t1, t2, t3, t4]; rfl) rfl ?_
      obtain ⟨hst2, hm2⟩ := HQ.out
      exact should_end HB1.out HS1.out (by rw [HD.out]; exact hst2) hm2 HPlt.out HX.out (A := none) (B := none) (c := 0) (d := 0) (by rw [HD.out]; exact ⟨SlI.none_ _ _ _, ChP.none_ _ _ _⟩) (box5_same _ _ _ _ _ _ _) (fun g hg => box5_other hg _ _ _ _ _) (by rw [HD.out])
    · rw [if_neg k1] at HD
      have n1 : (what == 1) = false := by rw [beq_eq_false_iff_ne]; exact k1
      by_cases k2 : what = 2
      · rw [if_pos k2] at HD
        subst k2
        go_enter Try.func17, Try.ntmps17
        go_upto_region 1 with fail
        rw [HW0.out, HW1.out]
        clear HW0 HW1
        go_wp2_with fail
        refine HRd.out.mono ?_
        rintro r w2' ⟨A9, c9, rfl, hs9, hb9⟩
        have HS9 := Lib.hid (show SlI w2' 0 w2'.heap.size A9 c9 ((readS st.K klo tm).getD []) from hs9)
        have HB9 := Lib.hid hb9
        have x4 : w2'.cell? ⟨w.heap.size, 4, none⟩ = _ := (hb9.cell (p := ⟨w.heap.size, 4, none⟩) (by have := HS1.out; show w.heap.size < w1.heap.size; omega)).trans c4
        clear hs9 hb9
        generalize (readS st.K klo tm).getD [] = rb at *
        generalize (readS st.K klo tm).isSome = ri at *
        go_wp2_with fail
        refine (HLa.out w2' HB9.out).mono ?_
        rintro r w2 ⟨rfl, hb2'⟩
        have HQ9 := Lib.hid hb2'
        have hb2 : Below w1.heap.size w1 w2 := HB9.out.trans (hb2'.mono HB9.out.size)
        clear hb2'
        have hx : w2.heap[w.heap.size + 1]? = _ := (hb2.block _ (by have := HS1.out; omega)).trans H1.out
        have f0 := frozen_of hx 0
        have f1 := frozen_of hx 1
        have f2 := frozen_of hx 2
        have f3 := frozen_of hx 3
        have f4 := frozen_of hx 4
        have z0 := cell_of_row w2 _ 0 _ _ _ hx
        have z1 := cell_of_row w2 _ 1 _ _ _ hx
        have z2 := cell_of_row w2 _ 2 _ _ _ hx
        have z3 := cell_of_row w2 _ 3 _ _ _ hx
        have z4 := cell_of_row w2 _ 4 _ _ _ hx
        have HX := Lib.hid hx
        have HB2 := Lib.hid hb2
        clear hx hb2 c0 c1 c2 c3 c4 c5 x4 HCom HCol HRd HSc HLa
        go_wp2_with fail
        have HZ := Lib.hid (box5_set HX.out (.int .u64 (lastH (chainS st.K klo) : Nat)) (.int .i64 0) (.slice A9 rb.length c9) (.bool ri) (.slice none 0 0))
        have t0 := cell_of_row _ _ 0 _ _ _ HZ.out
        have t1 := cell_of_row _ _ 1 _ _ _ HZ.out
        have t2 := cell_of_row _ _ 2 _ _ _ HZ.out
        have t3 := cell_of_row _ _ 3 _ _ _ HZ.out
        have t4 := cell_of_row _ _ 4 _ _ _ HZ.out
        refine bodyPost_ret (v := toldVal ⟨lastH (chainS st.K klo), 0, rb, ri, []⟩ A9 c9 none 0) (by simp [results, Try.results17, go_sem, t0, t1, t2, t3, t4]; rfl) rfl ?_
        exact should_end HB1.out HS1.out (by rw [HD.out]; exact ⟨A1, cc1, os1, HRm.out.below HB2.out, HRk.out⟩) (Below.mut HB2.out _) HPlt.out HX.out (A := A9) (B := none) (c := c9) (d := 0) (by rw [HD.out]; exact ⟨SlI.below HS9.out HQ9.out (Nat.le_refl _) HQ9.out.size, ChP.none_ _ _ _⟩) (box5_same _ _ _ _ _ _ _) (fun g hg => box5_other hg _ _ _ _ _) (by rw [HD.out])
      · rw [if_neg k2] at HD
        have n2 : (what == 2) = false := by rw [beq_eq_false_iff_ne]; exact k2
        by_cases k3 : what = 3
        · rw [if_pos k3] at HD
          subst k3
          go_enter Try.func17, Try.ntmps17
          go_upto_region 1 with fail
          rw [HW0.out, HW1.out]
          clear HW0 HW1
          go_wp2_with fail
          refine HSc.out.mono ?_
          rintro r w2 ⟨A9, c9, rfl, hs9, hb2⟩
          have hx : w2.heap[w.heap.size + 1]? = _ := (hb2.block _ (by have := HS1.out; omega)).trans H1.out
          have f0 := frozen_of hx 0
          have f1 := frozen_of hx 1
          have f2 := frozen_of hx 2
          have f3 := frozen_of hx 3
          have f4 := frozen_of hx 4
          have z0 := cell_of_row w2 _ 0 _ _ _ hx
          have z1 := cell_of_row w2 _ 1 _ _ _ hx
          have z2 := cell_of_row w2 _ 2 _ _ _ hx
          have z3 := cell_of_row w2 _ 3 _ _ _ hx
          have z4 := cell_of_row w2 _ 4 _ _ _ hx
          have HX := Lib.hid hx
          have HB2 := Lib.hid hb2
          have HS9 := Lib.hid hs9
          clear hx hb2 hs9 c0 c1 c2 c3 c4 c5 HCom HCol HRd HSc HLa
          generalize scanS st.K klo khi tm = sp at *
          go_wp2_with fail
          have HZ := Lib.hid (box5_set HX.out (.int .u64 0) (.int .i64 0) (.slice none 0 0) (.bool false) (.slice A9 sp.length c9))
          have t0 := cell_of_row _ _ 0 _ _ _ HZ.out
          have t1 := cell_of_row _ _ 1 _ _ _ HZ.out
          have t2 := cell_of_row _ _ 2 _ _ _ HZ.out
          have t3 := cell_of_row _ _ 3 _ _ _ HZ.out
          have t4 := cell_of_row _ _ 4 _ _ _ HZ.out
          refine bodyPost_ret (v := toldVal ⟨0, 0, [], false, sp⟩ none 0 A9 c9) (by simp [results, Try.results17, go_sem, t0, t1, t2, t3, t4]; rfl) rfl ?_
          exact should_end HB1.out HS1.out (by rw [HD.out]; exact ⟨A1, cc1, os1, HRm.out.below HB2.out, HRk.out⟩) (Below.mut HB2.out _) HPlt.out HX.out (A := none) (B := A9) (c := 0) (d := c9) (by rw [HD.out]; exact ⟨SlI.none_ _ _ _, HS9.out⟩) (box5_same _ _ _ _ _ _ _) (fun g hg => box5_other hg _ _ _ _ _) (by rw [HD.out])
        · rw [if_neg k3] at HD
          have n3 : (what == 3) = false := by rw [beq_eq_false_iff_ne]; exact k3
          have hb2 := Below.refl w1.heap.size w1
          have f0 := frozen_of H1.out 0
          have f1 := frozen_of H1.out 1
          have f2 := frozen_of H1.out 2
          have f3 := frozen_of H1.out 3
          have f4 := frozen_of H1.out 4
          have z0 := cell_of_row w1 _ 0 _ _ _ H1.out
          have z1 := cell_of_row w1 _ 1 _ _ _ H1.out
          have z2 := cell_of_row w1 _ 2 _ _ _ H1.out
          have z3 := cell_of_row w1 _ 3 _ _ _ H1.out
          have z4 := cell_of_row w1 _ 4 _ _ _ H1.out
          have HX := H1
          have HB2 := Lib.hid hb2
          clear hb2 HCom HCol HRd HSc HLa
          go_enter Try.func17, Try.ntmps17
          go_upto_region 1 with fail
          rw [HW0.out, HW1.out]
          clear HW0 HW1
          go_wp2_with fail
          have HZ := Lib.hid (box5_set HX.out (.int .u64 0) (.int .i64 0) (.slice none 0 0) (.bool false) (.slice none 0 0))
          have t0 := cell_of_row _ _ 0 _ _ _ HZ.out
          have t1 := cell_of_row _ _ 1 _ _ _ HZ.out
          have t2 := cell_of_row _ _ 2 _ _ _ HZ.out
          have t3 := cell_of_row _ _ 3 _ _ _ HZ.out
          have t4 := cell_of_row _ _ 4 _ _ _ HZ.out
          refine bodyPost_ret (v := toldVal told0 none 0 none 0) (by simp [results, Try.results17, go_sem, t0, t1, t2, t3, t4]; rfl) rfl ?_
          exact should_end HB1.out HS1.out (by rw [HD.out]; exact ⟨A1, cc1, os1, HRm.out, HRk.out⟩) (Mut.refl _ w1) HPlt.out HX.out (A := none) (B := none) (c := 0) (d := 0) (by rw [HD.out]; exact ⟨SlI.none_ _ _ _, ChP.none_ _ _ _⟩) (box5_same _ _ _ _ _ _ _) (fun g hg => box5_other hg _ _ _ _ _) (by rw [HD.out])
end Go.Proofs.Ytooegjdppeiccaa

/-
  Same of the document's own answers, of two rows of keys that read alike.
-/
namespace Go.Proofs.Ytooegjdppeiccaa
open Go.RowKit

theorem below_drewK (w : World) (n : Nat) : Below w.heap.size w (w.drewN n) := ⟨rfl, rfl, rfl, Nat.le_refl _, fun _ _ => rfl⟩
theorem key_at {w : World} {lo hi : Nat} {A : Option Addr} {l : List KeyS} (h : RowG kCells w lo hi A l) {j : Nat} (hj : j < l.length) : ∃ b o, A = some ⟨b, o, none⟩ ∧ w.cell? ⟨b, o + j, none⟩ = some (.string (bs (l[j]'hj))) := by
  obtain ⟨b, o, e, _, _, hc⟩ := h.at_ kF hj
  refine ⟨b, o, e, ?_⟩
  have := hc 0 _ rfl
  simpa using this
set_option maxHeartbeats 1000000 in
theorem sameK_any (l : List KeyS) (A1 A2 : Option Addr) (n1 n2 c1 c2 lo1 hi1 lo2 hi2 : Nat) (w : World) (e1 : n1 = l.length) (e2 : n2 = l.length) (h1 : RowG kCells w lo1 hi1 A1 l) (h2 : RowG kCells w lo2 hi2 A2 l) (hl : l.length ≤ 2000000) :
    Calls Try.prog 23 #[.slice A1 n1 c1, .slice A2 n2 c2] w fun r w' => r = .returned (.bool true) ∧ Below w.heap.size w w' := by
  subst e1 e2
  have H1 := Lib.hid h1
  have H2 := Lib.hid h2
  clear h1 h2
  go_enter Try.func23, Try.ntmps23
  go_wp2
  go_loopg [13] l.length (fun k i wr => ∃ j m : Nat, j + k = l.length ∧ i = .int .i64 j ∧ wr = w.drewN m)
  case atStart => exact ⟨0, 0, by omega, rfl, rfl⟩
  case round =>
    obtain ⟨j, m, hk, rfl, rfl⟩ := hrel
    have HK := Lib.hid hk
    by_cases hj : j < l.length
    · have hlt : decide ((j : Int) < (l.length : Int)) = true := by simpa using hj
      obtain ⟨b, o, rfl, d1⟩ := key_at H1.out hj
      obtain ⟨b', o', rfl, d2⟩ := key_at H2.out hj
      clear hk
      go_wp2
      go_region
      all_goals
        go_wp2
        go_roundg (gk - 1)
        case measure => have := HK.out; omega
        case rel => exact ⟨j + 1, m + 1, by have := HK.out; omega, by go_num, rfl⟩
    · have hlt : decide ((j : Int) < (l.length : Int)) = false := by simpa using hj
      clear hk
      go_wp2
      go_ret
      exact ⟨rfl, below_drewK w m⟩
end Go.Proofs.Ytooegjdppeiccaa

/-
  A region that draws its order, walked step by step by the numbers of its operations; the condition on the world may be turned into a stronger one on the way.
-/
namespace Go.Proofs.Ytooegjdppeiccaa
open Go

section
variable {P : Program} {md : Region.Mode} {Q : Exit → Act → World → Prop} {S S' : World → Prop} {l : List Oper}

/-- What is held may grow on the way. -/
theorem turn_held {ops : Array Oper} (h : ∀ w, S' w → S w) : ∀ (fuel : Nat) (listed : Array Bool) (a : Act) (w : World), wpAnyH P md ops Q S' fuel listed a w → wpAnyH P md ops Q S fuel listed a w
  | 0, _, _, _, hh => hh
  | fuel + 1, _, _, _, hh => ⟨hh.1, fun i hi => wpOp_mono (fun a' w' h' => ⟨h w' h'.1, turn_held h fuel _ a' w' h'.2⟩) (hh.2 i hi)⟩

/-- Number i is taken first. -/
theorem take_held {i fuel : Nat} {oi : Oper} {v : Value} {listed : Array Bool} {a : Act} {w : World} (hi : l[i]? = some oi)
    (hs : Region.noSelect l.toArray = true) (hf : Region.free md l.toArray listed i = true) (hr : (Region.ready md l.toArray listed).contains i = true)
    (hQ : ∀ c a w, Q (.panic c) (a.put oi.dst v) w → Q (.panic c) a w) (hw : Region.wanted oi (yielded l.toArray a.tmps) = true) (hy : ∀ w, S w → (execOp a.eval oi).run P w = .ok (.value v) w) (hS : S w)
    (h : wpAnyH P md l.toArray Q S fuel (listed.setIfInBounds i true) (a.put oi.dst v) w) : wpAnyH P md l.toArray Q S (fuel + 1) listed a w :=
  wpAnyH_take (by simpa using hi) hs hf hr hQ (Or.inl ⟨hw, hy⟩) hS h

/-- Number i alone may come up. -/
theorem step_held {i fuel : Nat} {o : Oper} {listed : Array Bool} {a : Act} {w : World} (hr : Region.ready md l.toArray listed = [i]) (ho : l[i]? = some o)
    (h : ∀ K' : Act → World → Prop, Shut (∀ a w, S w → (S w → wpAnyH P md l.toArray Q S fuel (listed.setIfInBounds i true) a w) → K' a w) → if Region.wanted o (yielded l.toArray a.tmps) = true then Oper.wp P o a w K' Q else K' (a.put o.dst undef) w) :
    wpAnyH P md l.toArray Q S (fuel + 1) listed a w :=
  wpAnyH_ready hr (by simp) (AllReadyH.cons (by simpa using ho) h AllReadyH.nil)
end
end Go.Proofs.Ytooegjdppeiccaa
