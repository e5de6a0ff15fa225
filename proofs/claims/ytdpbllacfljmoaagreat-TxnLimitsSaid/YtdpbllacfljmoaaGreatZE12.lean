import Derived.Test.YtdpbllacfljmoaaGreatZE11
import Derived.Test.YtdpbllacfljmoaaGreatZE04
import Derived.Deep.LoopGhost
import Derived.Deep.DeepCutAuto
import Derived.IntWalk
set_option maxRecDepth 100000
set_option maxHeartbeats 16000000
set_option linter.unusedVariables false
namespace Go.Proofs.YtdpbllacfljmoaaGreat
open Go.RowKit
namespace txnLimits
theorem walk {St : q2r} (K : TxnC St) (O : TxnO St) (L : LimT) (a : List OpT) (A : Option Addr) (c : Nat) (w : World) (ha : ChOT w w.heap.size A c a) (h1 : I64 L.s.keys) (h2 : I64 L.s.vers) (h3 : I64 L.s.byts) (h4 : L.s.last < 18446744073709551616) (h5 : I64 L.marks) (h6 : I64 L.recs) (h7 : I64 L.live) :
  Calls Tryz.prog 9 #[limT L, .slice A a.length c] w fun r w' => r = .returned (.bool true) ∧ Below w.heap.size w w' := by
 obtain ⟨⟨keys, vers, byts, last⟩, marks, recs, live⟩ := L
 simp only at h1 h2 h3 h4 h5 h6 h7
 obtain ⟨w0, hw0⟩ : ∃ y, w.alloc (.cells #[.int .i64 keys, .int .i64 vers, .int .i64 byts, .int .i64 marks, .int .i64 recs, .int .i64 live, .int .u64 last] 24) = y := ⟨_, rfl⟩
 have b0 : Below w.heap.size w w0 := by rw [← hw0]; exact (Below.refl _ w).alloc (Nat.le_refl _) _
 have x0 : w0.heap[w.heap.size]? = some (.cells #[.int .i64 keys, .int .i64 vers, .int .i64 byts, .int .i64 marks, .int .i64 recs, .int .i64 live, .int .u64 last] 24 (0, 0)) := by rw [← hw0]; exact heap_alloc_new w _
 have HLim := qh (fun (W : World) (h : Below w0.heap.size w0 W) => q80 (q01 x0 h (q00 x0)))
 have ha0 : ChOT w0 w.heap.size A c a := ha.below b0 (Nat.le_refl _) (Nat.le_refl _)
 have HLast := qh h4
 have HL := qh (qbx K w0)
 have HFA := qh (qcA (ha.below b0 (Nat.le_refl _) b0.size))
 have hb6 := Below.refl w0.heap.size w0
 have HB0 := qh b0
 have HZ0 := qh b0.size
 have HW0 := qh hw0
 clear b0 x0 hw0
 unfold limT q3z
 simp only
 by_cases fa : fewT a = true
 ·rw [fa] at HFA
  obtain ⟨fwa, fla⟩ := qeq fa
  have HRA := qh ha0.2.2.2
  have HWA := qh fwa
  have HK := qh K
  have HO := qh O
  have HFlA := qh fla
  have hal : a.length ≤ 9223372036854775807 := by omega
  by_cases hm : MayT ⟨⟨keys, vers, byts, last⟩, marks, recs, live⟩ = true
  ·have HMd : Hid (∀ wx, Below w0.heap.size w0 wx → Calls Tryz.prog 35 #[.agg #[.int .i64 keys, .int .i64 vers, .int .i64 byts, .int .i64 marks, .int .i64 recs, .int .i64 live, .int .u64 last]] wx fun r w' => ∃ p F, r = .returned (ptrS p) ∧ RunT St w0 w' p F ⟨⟨keys, vers, byts, last⟩, marks, recs, live⟩ q3t 0) := qh fun wx hb =>
    (q6a K ⟨⟨keys, vers, byts, last⟩, marks, recs, live⟩ w0.heap.size wx hb.size h1 h2 h3 h4 h5 h6 h7).mono fun r W' ⟨h1, h2⟩ => by
     rw [if_pos hm] at h2
     obtain ⟨p, F, e, h3, h4⟩ := h2
     exact ⟨p, F, e, RunT.of K h3 (hb.trans (h1.mono hb.size))⟩
   clear ha ha0 fa fla fwa hm h1 h2 h3 h4 h5 h6 h7 K O
   go_enter Tryz.func9, Tryz.ntmps9
   go_upto_region 1 with fail
   rw [HW0.out]
   clear HW0
   go_wp2_with (first
    | (go_at_call 12; (with_reducible refine (HL.out _ (by assumption)).mono ?_); rintro r w' ⟨rfl, hb6⟩)
    | (go_at_call 13; (with_reducible refine (HFA.out _ (by assumption)).mono ?_); rintro r w' ⟨rfl, hb6⟩; obtain ⟨z0, z1, z2, z3, z4, z5, z6⟩ := HLim.out _ hb6)
    | (go_at_call 35; (with_reducible refine (HMd.out _ (by assumption)).mono ?_); rintro r w5 ⟨p, F, rfl, hn⟩; unfold ptrS))
   have HN5 := qh hn
   clear hn hb6 HL HFA HMd
   go_loopg [28] a.length (fun q i wr => ∃ (j : Nat) (st : q07) (F : Nat → Prop), j + q = a.length ∧ i = .int .i64 j ∧ RunT St w0 wr p F ⟨⟨keys, vers, byts, last⟩, marks, recs, live⟩ st j)
   case atStart => exact ⟨0, q3t, F, by omega, rfl, HN5.out⟩
   case round =>
    obtain ⟨j, st, G, hk, rfl, hn⟩ := hrel
    have HJ := qh hk
    have HN := qh hn
    clear hk hn
    obtain ⟨g0, hg0⟩ : ∃ y, y = gk := ⟨_, rfl⟩
    have HG0 := qh hg0
    clear hg0
    by_cases hj : j < a.length
    ·have hlt : decide ((j : Int) < (a.length : Int)) = true := by simpa using hj
     have hlt2 : decide (j < a.length) = true := by simpa using hj
     have HJ8 : Hid (j < 80) := qh (by have := HFlA.out; omega)
     obtain ⟨b0, o0, rfl, _, x, hx, hok, c0, c1, c2, c3, c4, c5⟩ := (HRA.out.below HN.out.bel HZ0.out (Nat.le_refl _)).at_ hj
     have hw := HWA.out _ (List.getElem_mem hj)
     rw [← hx] at hw
     clear hx
     obtain ⟨⟨what, id, ⟨wk, wg, wd⟩, hi⟩, A', c'⟩ := x
     simp only at c0 c1 c2 c3 c4 c5 hw
     have hba := (Below.refl _ wr).alloc (Nat.le_refl _) (.cells #[.int .i64 what, .int .i64 id, .string (bs wk), .bool wg, .slice A' wd.length c', .string (bs hi)] 39)
     have HC := qh (qeo HK.out (HN.out.next HK.out hba) (by have := HJ8.out; omega) ⟨what, id, ⟨wk, wg, wd⟩, hi⟩ A' c' hw.1 hw.2 (hok.below hba (Nat.le_trans HZ0.out HN.out.bel.size) HZ0.out))
     clear hba hok hw
     unfold qeE ptrS at HC
     go_wp2_with fail
     refine HC.out.mono ?_
     rintro r w5b ⟨A9, B9, c9, d9, F9, rfl, _, hr9, _, _⟩
     generalize (q1X (FT ⟨⟨keys, vers, byts, last⟩, marks, recs, live⟩) ⟨⟨keys, vers, byts, last⟩, marks, recs, live⟩ st ⟨what, id, ⟨wk, wg, wd⟩, hi⟩).1 = b9 at *
     have HR5 := qh hr9
     clear hr9 HC c0 c1 c2 c3 c4 c5
     have HCnt := qh (HK.out.count _ p F9 _ b9 w5b HR5.out.st)
     unfold ptrS at HCnt
     unfold q2q
     go_wp2_with fail
     refine HCnt.out.mono ?_
     rintro r w7 ⟨rfl, hb7⟩
     have hba8 := (Below.refl _ w7).alloc (Nat.le_refl _) (.cells #[.int .i64 (b9.st.K.length : Nat), .int .i64 (q0U b9.st.K : Nat), .int .i64 (q2n b9.st.K : Nat)] 60)
     have hx8 := heap_alloc_new w7 (.cells #[.int .i64 (b9.st.K.length : Nat), .int .i64 (q0U b9.st.K : Nat), .int .i64 (q2n b9.st.K : Nat)] 60)
     obtain ⟨w6, hw6⟩ : ∃ y, w7.alloc (.cells #[.int .i64 (b9.st.K.length : Nat), .int .i64 (q0U b9.st.K : Nat), .int .i64 (q2n b9.st.K : Nat)] 60) = y := ⟨_, rfl⟩
     have HW6 := qh hw6
     rw [hw6] at hba8 hx8
     have HR6 := qh ((HR5.out.next HK.out hb7).next HK.out hba8)
     have HX8 := qh hx8
     clear hba8 hx8 hw6 hb7 HCnt
     go_upto_region 11 with fail
     rw [HW6.out]
     clear HW6
     have hokk := HK.out.okay HR6.out.st
     have hmt := hokk.1
     unfold MayT at hmt
     simp only [Bool.and_eq_true, decide_eq_true_eq] at hmt
     obtain ⟨⟨⟨hms, hm1, hm2⟩, hm3, hm4⟩, hm5, hm6⟩ := hmt
     obtain ⟨hz1, hz2, hz3⟩ : b9.st.K.length ≤ 1048576 ∧ q0U b9.st.K ≤ 1048576 ∧ q2n b9.st.K ≤ 1048576 := q7t hms hokk.2.2
     have hfit := hokk.2.2.1
     have htl : b9.st.time ≤ last := hokk.2.2.2
     unfold q3g at hfit
     simp only [Bool.and_eq_true, decide_eq_true_eq] at hfit
     have hlv : (b9.live.length : Int) ≤ live := HR6.out.ok.few
     have hrc : b9.recs.length ≤ q6z ⟨⟨keys, vers, byts, last⟩, marks, recs, live⟩ := HR6.out.ok.nrecs
     have hrc2 : (b9.recs.length : Int) ≤ recs := by
      unfold q6z at hrc
      simp only at hrc
      omega
     have hlo := q5p b9
     have hlast : last < 18446744073709551616 := HLast.out
     have hwg := HR6.out.wgt
     have hmany : b9.recs.length ≤ 1000 ∧ q0z b9.recs ≤ 1000 := by
      unfold WgtT at hwg
      have := HJ8.out
      constructor <;> omega
     have HRl : Hid (okRs b9.recs) := qh hmany
     have hfm : (fitN marks : Int) = marks := by rw [← q5Z]; omega
     have HRr : Hid (∀ x ∈ b9.recs, q21 x = true ∧ (x.reads.length : Int) ≤ marks ∧ (x.writes.length : Int) ≤ marks ∧ x.reads.length ≤ 1000 ∧ x.writes.length ≤ 1000) := qh fun x hx => by
      have h1 := HR6.out.ok.recs x hx
      have h2 := (okRs.mem HRl.out hx)
      have h3 : x.reads.length ≤ fitN marks := h1.reads
      have h4 : x.writes.length ≤ fitN marks := h1.writes
      exact ⟨h1.right, by omega, by omega, h2.1, h2.2⟩
     obtain ⟨t', ht'⟩ : ∃ y, b9.st.time = y := ⟨_, rfl⟩
     rw [ht'] at htl hlo
     obtain ⟨lo, hlo'⟩ : ∃ y, lowT b9 = y := ⟨_, rfl⟩
     rw [hlo'] at hlo
     have hnow : ∀ W, Below w6.heap.size w6 W → Calls Tryz.prog 20 #[.pointer (some ⟨p, 0, none⟩)] W fun r w' => r = .returned (.int .u64 t') ∧ Below w6.heap.size w6 w' := fun W hb => (HK.out.now _ p F9 _ b9 W (HR6.out.next HK.out hb).st).mono fun _ _ q => ⟨by rw [← ht']; exact q.1, hb.trans (q.2.mono hb.size)⟩
     have hlow : ∀ W, Below w6.heap.size w6 W → Calls Tryz.prog 21 #[.pointer (some ⟨p, 0, none⟩)] W fun r w' => r = .returned (.int .u64 lo) ∧ Below w6.heap.size w6 w' := fun W hb => (HK.out.low _ p F9 _ b9 W (HR6.out.next HK.out hb).st ((HR6.out.next HK.out hb).few (by have := HJ8.out; omega))).mono fun _ _ q => ⟨by rw [← hlo']; exact q.1, hb.trans (q.2.mono hb.size)⟩
     have hliv : ∀ W, Below w6.heap.size w6 W → Calls Tryz.prog 24 #[.pointer (some ⟨p, 0, none⟩)] W fun r w' => ∃ A c, r = .returned (.slice A b9.live.length c) ∧ Below w6.heap.size w6 w' := fun W hb => (HK.out.live _ p F9 _ b9 W (HR6.out.next HK.out hb).st ((HR6.out.next HK.out hb).few (by have := HJ8.out; omega))).mono fun _ _ ⟨A, c, e, _, h⟩ => ⟨A, c, e, hb.trans (h.mono hb.size)⟩
     have hrec : ∀ W, Below w6.heap.size w6 W → Calls Tryz.prog 29 #[.pointer (some ⟨p, 0, none⟩)] W fun r w' => ∃ A c, r = .returned (.slice A b9.recs.length c) ∧ ChR w' w'.heap.size A c b9.recs ∧ Below w6.heap.size w6 w' := fun W hb => (HK.out.records _ p F9 _ b9 W (HR6.out.next HK.out hb).st ((HR6.out.next HK.out hb).few (by have := HJ8.out; omega))).mono fun _ _ ⟨A, c, e, h1, h⟩ => ⟨A, c, e, h1.ch, hb.trans (h.mono hb.size)⟩
     have HNw := qh hnow
     have HLo := qh hlow
     have HLv := qh hliv
     have HRe := qh hrec
     obtain ⟨S, hS1, hS2⟩ : ∃ S : World → Prop, (∀ W : World, Below w6.heap.size w6 W → S W) ∧ ∀ W : World, S W → W.cell? ⟨w7.heap.size, 0, none⟩ = some (.int .i64 (b9.st.K.length : Nat)) ∧ W.cell? ⟨w7.heap.size, 1, none⟩ = some (.int .i64 (q0U b9.st.K : Nat)) ∧ W.cell? ⟨w7.heap.size, 2, none⟩ = some (.int .i64 (q2n b9.st.K : Nat)) ∧
       W.cell? ⟨w.heap.size, 0, none⟩ = some (.int .i64 keys) ∧ W.cell? ⟨w.heap.size, 1, none⟩ = some (.int .i64 vers) ∧ W.cell? ⟨w.heap.size, 2, none⟩ = some (.int .i64 byts) ∧ W.cell? ⟨w.heap.size, 3, none⟩ = some (.int .i64 marks) ∧ W.cell? ⟨w.heap.size, 4, none⟩ = some (.int .i64 recs) ∧ W.cell? ⟨w.heap.size, 5, none⟩ = some (.int .i64 live) ∧ W.cell? ⟨w.heap.size, 6, none⟩ = some (.int .u64 last) :=
      ⟨fun W => Below w6.heap.size w6 W, fun _ h => h, fun W hb => by
       have hx := q01 HX8.out hb (q00 HX8.out)
       have l := HLim.out W (HR6.out.next HK.out hb).bel
       exact ⟨cell_of_row W _ 0 _ _ _ hx, cell_of_row W _ 1 _ _ _ hx, cell_of_row W _ 2 _ _ _ hx, l⟩⟩
     have HKp := qh hS1
     have HRdc := qh hS2
     have d1 : decide (live < (b9.live.length : Int)) = false := by rw [decide_eq_false_iff_not]; omega
     have d2 : decide (recs < (b9.recs.length : Int)) = false := by rw [decide_eq_false_iff_not]; omega
     have d3 : decide (keys < ((b9.st.K.length : Nat) : Int)) = false := by rw [decide_eq_false_iff_not]; omega
     have d4 : decide (vers < ((q0U b9.st.K : Nat) : Int)) = false := by rw [decide_eq_false_iff_not]; omega
     have d5 : decide (byts < ((q2n b9.st.K : Nat) : Int)) = false := by rw [decide_eq_false_iff_not]; omega
     have d6 : decide ((last : Int) < (t' : Int)) = false := by rw [decide_eq_false_iff_not]; omega
     have d7 : decide (last < t') = false := by rw [decide_eq_false_iff_not]; omega
     have d8 : decide ((t' : Int) < (lo : Int)) = false := by rw [decide_eq_false_iff_not]; omega
     have d9 : decide (t' < lo) = false := by rw [decide_eq_false_iff_not]; omega
     clear hokk hms hm1 hm2 hm3 hm4 hm5 hm6 hz1 hz2 hz3 hfit htl hlv hrc hrc2 hlo hlast hwg hmany hfm ht' hlo' hnow hlow hliv hrec hS1 hS2
     refine wp_region_held_drew (S := S) (by kernel_rfl) ?_ (fun hGd => ?_)
     ·exact HKp.out _ (Below.refl _ _).drew
     refine tkS (i := 0) (v := ?_) ?_
     (try simp only [Act.put, qA, qB, qC])
     refine tkS (i := 3) (v := ?_) ?_
     (try simp only [Act.put, qA, qB, qC])
     refine tkH (i := 4) (v := ?_) (fun w hSw => ?_) ?_
     rotate_left
     ·obtain ⟨z0, z1, z2, y0, y1, y2, y3, y4, y5, y6⟩ := HRdc.out _ hSw; go_simp <;> with_reducible rfl
     (try simp only [Act.put, qA, qB, qC])
     refine stH (i := 1) (fun K' hK => ?_)
     go_simp
     go_at_call 24; refine (HLv.out _ (Below.refl _ _).drew).mono ?_; rintro r w8 ⟨A8, c8, rfl, hb8⟩; have HB8 := qh hb8; clear hb8
     (first | (refine hK.out _ _ ?_ (fun hG2 => ?_)) | (go_wp2_with fail; refine hK.out _ _ ?_ (fun hG2 => ?_)))
     ·exact HKp.out _ HB8.out
     clear hK K' hGd
     have hGd := hG2
     clear hG2
     (try simp only [Act.put, qA, qB, qC])
     refine tkS (i := 2) (v := ?_) ?_
     (try simp only [Act.put, qA, qB, qC])
     refine tkS (i := 5) (v := ?_) ?_
     (try simp only [Act.put, qA, qB, qC])
     refine tkS (i := 6) (v := ?_) ?_
     (try simp only [Act.put, qA, qB, qC])
     refine tkS (i := 7) (v := ?_) ?_
     (try simp only [Act.put, qA, qB, qC])
     refine tkS (i := 10) (v := ?_) ?_
     (try simp only [Act.put, qA, qB, qC])
     refine tkH (i := 11) (v := ?_) (fun w hSw => ?_) ?_
     rotate_left
     ·obtain ⟨z0, z1, z2, y0, y1, y2, y3, y4, y5, y6⟩ := HRdc.out _ hSw; go_simp <;> with_reducible rfl
     (try simp only [Act.put, qA, qB, qC])
     refine stH (i := 8) (fun K' hK => ?_)
     go_simp
     go_at_call 29; refine (HRe.out _ HB8.out).mono ?_; rintro r w9 ⟨A9r, c9r, rfl, _, hb9⟩; have HB9 := qh hb9; clear hb9
     (first | (refine hK.out _ _ ?_ (fun hG2 => ?_)) | (go_wp2_with fail; refine hK.out _ _ ?_ (fun hG2 => ?_)))
     ·exact HKp.out _ HB9.out
     clear hK K' hGd
     have hGd := hG2
     clear hG2
     (try simp only [Act.put, qA, qB, qC])
     refine tkS (i := 9) (v := ?_) ?_
     (try simp only [Act.put, qA, qB, qC])
     refine tkS (i := 12) (v := ?_) ?_
     (try simp only [Act.put, qA, qB, qC])
     refine tkS (i := 13) (v := ?_) ?_
     (try simp only [Act.put, qA, qB, qC])
     refine tkS (i := 14) (v := ?_) ?_
     (try simp only [Act.put, qA, qB, qC])
     refine tkS (i := 15) (v := ?_) ?_
     (try simp only [Act.put, qA, qB, qC])
     refine tkH (i := 16) (v := ?_) (fun w hSw => ?_) ?_
     rotate_left
     ·obtain ⟨z0, z1, z2, y0, y1, y2, y3, y4, y5, y6⟩ := HRdc.out _ hSw; go_simp <;> with_reducible rfl
     (try simp only [Act.put, qA, qB, qC])
     refine tkS (i := 17) (v := ?_) ?_
     (try simp only [Act.put, qA, qB, qC])
     refine tkH (i := 18) (v := ?_) (fun w hSw => ?_) ?_
     rotate_left
     ·obtain ⟨z0, z1, z2, y0, y1, y2, y3, y4, y5, y6⟩ := HRdc.out _ hSw; go_simp <;> with_reducible rfl
     (try simp only [Act.put, qA, qB, qC])
     refine tkS (i := 19) (v := ?_) ?_
     (try simp only [Act.put, qA, qB, qC])
     refine tkS (i := 20) (v := ?_) ?_
     (try simp only [Act.put, qA, qB, qC])
     refine tkS (i := 21) (v := ?_) ?_
     (try simp only [Act.put, qA, qB, qC])
     refine tkS (i := 22) (v := ?_) ?_
     (try simp only [Act.put, qA, qB, qC])
     refine tkH (i := 23) (v := ?_) (fun w hSw => ?_) ?_
     rotate_left
     ·obtain ⟨z0, z1, z2, y0, y1, y2, y3, y4, y5, y6⟩ := HRdc.out _ hSw; go_simp <;> with_reducible rfl
     (try simp only [Act.put, qA, qB, qC])
     refine tkS (i := 24) (v := ?_) ?_
     (try simp only [Act.put, qA, qB, qC])
     refine tkH (i := 25) (v := ?_) (fun w hSw => ?_) ?_
     rotate_left
     ·obtain ⟨z0, z1, z2, y0, y1, y2, y3, y4, y5, y6⟩ := HRdc.out _ hSw; go_simp <;> with_reducible rfl
     (try simp only [Act.put, qA, qB, qC])
     refine tkS (i := 26) (v := ?_) ?_
     (try simp only [Act.put, qA, qB, qC])
     refine tkS (i := 27) (v := ?_) ?_
     (try simp only [Act.put, qA, qB, qC])
     refine tkS (i := 28) (v := ?_) ?_
     (try simp only [Act.put, qA, qB, qC])
     refine tkS (i := 29) (v := ?_) ?_
     (try simp only [Act.put, qA, qB, qC])
     refine tkH (i := 30) (v := ?_) (fun w hSw => ?_) ?_
     rotate_left
     ·obtain ⟨z0, z1, z2, y0, y1, y2, y3, y4, y5, y6⟩ := HRdc.out _ hSw; go_simp <;> with_reducible rfl
     (try simp only [Act.put, qA, qB, qC])
     refine tkS (i := 31) (v := ?_) ?_
     (try simp only [Act.put, qA, qB, qC])
     refine tkH (i := 32) (v := ?_) (fun w hSw => ?_) ?_
     rotate_left
     ·obtain ⟨z0, z1, z2, y0, y1, y2, y3, y4, y5, y6⟩ := HRdc.out _ hSw; go_simp <;> with_reducible rfl
     (try simp only [Act.put, qA, qB, qC])
     refine tkS (i := 33) (v := ?_) ?_
     (try simp only [Act.put, qA, qB, qC])
     refine tkS (i := 34) (v := ?_) ?_
     (try simp only [Act.put, qA, qB, qC])
     refine tkS (i := 35) (v := ?_) ?_
     (try simp only [Act.put, qA, qB, qC])
     refine tkS (i := 36) (v := ?_) ?_
     (try simp only [Act.put, qA, qB, qC])
     refine tkS (i := 38) (v := ?_) ?_
     (try simp only [Act.put, qA, qB, qC])
     refine tkH (i := 39) (v := ?_) (fun w hSw => ?_) ?_
     rotate_left
     ·obtain ⟨z0, z1, z2, y0, y1, y2, y3, y4, y5, y6⟩ := HRdc.out _ hSw; go_simp <;> with_reducible rfl
     (try simp only [Act.put, qA, qB, qC])
     refine stH (i := 37) (fun K' hK => ?_)
     go_simp
     go_at_call 20; refine (HNw.out _ HB9.out).mono ?_; rintro r w10 ⟨rfl, hb10⟩; have HB10 := qh hb10; clear hb10
     (first | (refine hK.out _ _ ?_ (fun hG2 => ?_)) | (go_wp2_with fail; refine hK.out _ _ ?_ (fun hG2 => ?_)))
     ·exact HKp.out _ HB10.out
     clear hK K' hGd
     have hGd := hG2
     clear hG2
     (try simp only [Act.put, qA, qB, qC])
     refine tkS (i := 40) (v := ?_) ?_
     (try simp only [Act.put, qA, qB, qC])
     refine tkS (i := 41) (v := ?_) ?_
     (try simp only [Act.put, qA, qB, qC])
     refine tkS (i := 42) (v := ?_) ?_
     (try simp only [Act.put, qA, qB, qC])
     refine tkS (i := 43) (v := ?_) ?_
     (try simp only [Act.put, qA, qB, qC])
     refine tkS (i := 45) (v := ?_) ?_
     (try simp only [Act.put, qA, qB, qC])
     refine stH (i := 44) (fun K' hK => ?_)
     go_simp
     go_at_call 21; refine (HLo.out _ HB10.out).mono ?_; rintro r w11 ⟨rfl, hb11⟩; have HB11 := qh hb11; clear hb11
     (first | (refine hK.out _ _ ?_ (fun hG2 => ?_)) | (go_wp2_with fail; refine hK.out _ _ ?_ (fun hG2 => ?_)))
     ·exact HKp.out _ HB11.out
     clear hK K' hGd
     have hGd := hG2
     clear hG2
     (try simp only [Act.put, qA, qB, qC])
     refine stH (i := 46) (fun K' hK => ?_)
     go_simp
     go_at_call 20; refine (HNw.out _ HB11.out).mono ?_; rintro r w12 ⟨rfl, hb11⟩; have HBx := qh hb11; clear hb11
     (first | (refine hK.out _ _ ?_ (fun hG2 => ?_)) | (go_wp2_with fail; refine hK.out _ _ ?_ (fun hG2 => ?_)))
     ·exact HKp.out _ HBx.out
     clear hK K' hGd
     have hGd := hG2
     clear hG2
     (try simp only [Act.put, qA, qB, qC])
     refine tkS (i := 47) (v := ?_) ?_
     (try simp only [Act.put, qA, qB, qC])
     refine tkS (i := 48) (v := ?_) ?_
     (try simp only [Act.put, qA, qB, qC])
     refine wpAnyH_done (by kernel_rfl) ?_ _
     go_wp2_with fail
     refine (HRe.out _ HBx.out).mono ?_
     rintro r w13 ⟨A13, c13, rfl, hc13, hb13⟩
     have HB13 := qh hb13
     have HC13 := qh hc13.2.2.2
     have hrl : b9.recs.length ≤ 9223372036854775807 := by have := HRl.out.1; omega
     clear hb13 hc13
     go_wp2_with fail
     go_loopg [89] b9.recs.length (fun q i wx => ∃ m : Nat, m + q = b9.recs.length ∧ i = .int .i64 m ∧ Below w13.heap.size w13 wx)
     case atStart => exact ⟨0, by omega, rfl, Below.refl _ _⟩
     case round =>
      obtain ⟨m, hk2, rfl, hb2⟩ := hrel
      have HK2 := qh hk2
      have HB2 := qh hb2
      clear hk2 hb2
      by_cases hm : m < b9.recs.length
      ·have hlt3 : decide ((m : Int) < (b9.recs.length : Int)) = true := by simpa using hm
       have hlt4 : decide (m < b9.recs.length) = true := by simpa using hm
       obtain ⟨bc, oc, rfl, _, x, hx, hok, v0, v1, v2, v3, v4, v5⟩ := (HC13.out.below HB2.out (Nat.le_refl _) (Nat.le_refl _)).at_ hm
       have hro := HRr.out _ (List.getElem_mem hm)
       rw [← hx] at hro
       clear hx
       obtain ⟨⟨xf, xl, xb, xo, xr, xw⟩, xA, xc, xB, xd⟩ := x
       simp only at v0 v1 v2 v3 v4 v5 hro
       obtain ⟨hr1, hr2, hr3, hr4, hr5⟩ := hro
       have e1 : decide (marks < (xr.length : Int)) = false := by rw [decide_eq_false_iff_not]; omega
       have e2 : decide (marks < (xw.length : Int)) = false := by rw [decide_eq_false_iff_not]; omega
       have hba := (Below.refl _ wr).alloc (Nat.le_refl _) (.cells #[.int .u64 xf, .int .u64 xl, .int .u64 xb, .int .u64 xo, .slice xA xr.length xc, .slice xB xw.length xd] 86)
       have hbx : Below w0.heap.size w0 (wr.alloc (.cells #[.int .u64 xf, .int .u64 xl, .int .u64 xb, .int .u64 xo, .slice xA xr.length xc, .slice xB xw.length xd] 86)) := HR6.out.bel.trans ((HB13.out.trans ((HB2.out.trans (hba.mono HB2.out.size)).mono HB13.out.size)).mono HR6.out.bel.size)
       obtain ⟨l0, l1, l2, l3, l4, l5, l6⟩ := HLim.out _ hbx
       have HRt := qh (q7D ⟨⟨xf, xl, xb, xo, xr, xw⟩, xA, xc, xB, xd⟩ (wr.alloc (.cells #[.int .u64 xf, .int .u64 xl, .int .u64 xb, .int .u64 xo, .slice xA xr.length xc, .slice xB xw.length xd] 86)) ⟨hr4, hr5⟩ (hok.below hba HB2.out.size (Nat.le_trans HB2.out.size hba.size)))
       have HBA := qh hba
       rw [hr1] at HRt
       clear hba hbx hok hr1 hr2 hr3 hr4 hr5
       unfold q0t at HRt
       simp only at HRt
       go_wp2_with fail
       refine HRt.out.mono ?_
       rintro r w14 ⟨rfl, hb14⟩
       have HB14 := qh (HB2.out.trans ((HBA.out.trans (hb14.mono HBA.out.size)).mono HB2.out.size))
       clear hb14 HRt v0 v1 v2 v3 v4 v5
       go_wp2_with fail
       go_roundg (gk - 1)
       case measure => have := HK2.out; omega
       case rel => exact ⟨m + 1, by have := HK2.out; omega, by go_num, HB14.out⟩
      ·have hlt3 : decide ((m : Int) < (b9.recs.length : Int)) = false := by simpa using hm
       have HN14 := qh (HR6.out.next HK.out (HB13.out.trans (HB2.out.mono HB13.out.size)))
       go_wp2_with fail
       go_roundg (g0 - 1)
       case measure => have := HJ.out; have := HG0.out; omega
       case rel => exact ⟨j + 1, b9, F9, by have := HJ.out; have := HG0.out; omega, by go_num, HN14.out⟩
    ·have hlt : decide ((j : Int) < (a.length : Int)) = false := by simpa using hj
     have HB := qh (HB0.out.trans (HN.out.bel.mono HB0.out.size))
     go_wp2_with fail
     go_ret
     exact ⟨rfl, HB.out⟩
  ·have HMd : Hid (∀ wx, Below w0.heap.size w0 wx → Calls Tryz.prog 35 #[.agg #[.int .i64 keys, .int .i64 vers, .int .i64 byts, .int .i64 marks, .int .i64 recs, .int .i64 live, .int .u64 last]] wx fun r w' => r = .returned (.pointer none) ∧ Below w0.heap.size w0 w') := qh fun wx hb =>
    (q6a K ⟨⟨keys, vers, byts, last⟩, marks, recs, live⟩ w0.heap.size wx hb.size h1 h2 h3 h4 h5 h6 h7).mono fun r W' ⟨h1, h2⟩ => by
     rw [if_neg hm] at h2
     exact ⟨h2, hb.trans (h1.mono hb.size)⟩
   have HMay : Hid (∀ wx, Below w0.heap.size w0 wx → Calls Tryz.prog 15 #[.agg #[.int .i64 keys, .int .i64 vers, .int .i64 byts, .int .i64 marks, .int .i64 recs, .int .i64 live, .int .u64 last]] wx fun r w' => r = .returned (.bool false) ∧ Below w0.heap.size w0 w') := qh fun wx hb =>
    (qeD ⟨⟨keys, vers, byts, last⟩, marks, recs, live⟩ wx).mono fun _ _ q => by
     rw [show MayT ⟨⟨keys, vers, byts, last⟩, marks, recs, live⟩ = false by simpa using hm] at q
     exact ⟨q.1, hb.trans (q.2.mono hb.size)⟩
   clear K O ha ha0 fa fla fwa hm h1 h2 h3 h4 h5 h6 h7
   go_enter Tryz.func9, Tryz.ntmps9
   go_upto_region 1 with fail
   rw [HW0.out]
   clear HW0
   go_wp2_with (first
    | (go_at_call 12; (with_reducible refine (HL.out _ (by assumption)).mono ?_); rintro r w' ⟨rfl, hb6⟩)
    | (go_at_call 13; (with_reducible refine (HFA.out _ (by assumption)).mono ?_); rintro r w' ⟨rfl, hb6⟩; obtain ⟨z0, z1, z2, z3, z4, z5, z6⟩ := HLim.out _ hb6)
    | (go_at_call 35; (with_reducible refine (HMd.out _ (by assumption)).mono ?_); rintro r w' ⟨rfl, hb6⟩; obtain ⟨z0, z1, z2, z3, z4, z5, z6⟩ := HLim.out _ hb6)
    | (go_at_call 15; (with_reducible refine (HMay.out _ (by assumption)).mono ?_); rintro r w' ⟨rfl, hb6⟩))
   go_ret
   exact ⟨rfl, HB0.out.trans (hb6.mono HB0.out.size)⟩
 ·rw [show fewT a = false by simpa using fa] at HFA
  clear K O ha ha0 fa h1 h2 h3 h4 h5 h6 h7
  go_enter Tryz.func9, Tryz.ntmps9
  go_upto_region 1 with fail
  rw [HW0.out]
  clear HW0
  go_wp2_with (first
   | (go_at_call 12; (with_reducible refine (HL.out _ (by assumption)).mono ?_); rintro r w' ⟨rfl, hb6⟩)
   | (go_at_call 13; (with_reducible refine (HFA.out _ (by assumption)).mono ?_); rintro r w' ⟨rfl, hb6⟩; obtain ⟨z0, z1, z2, z3, z4, z5, z6⟩ := HLim.out _ hb6))
  go_ret
  exact ⟨rfl, HB0.out.trans (hb6.mono HB0.out.size)⟩
end txnLimits
end Go.Proofs.YtdpbllacfljmoaaGreat
